/- Mul and Apply return the specified result or error for any arguments. No conditions. -/
import Derived.Test.YtgkhngiiimnchaaRRefC
namespace Go.Proofs.Ytgkhngiiimnchaa.matrixProduct
open Go.ChangeShapes Go.WideShapes Go.ChangeAt Go.RowKit PolyMath FieldMath MatMath

set_option maxRecDepth 100000 in
set_option maxHeartbeats 4000000 in
theorem walk_invalid (p : Int) (Aa : Option Addr) (ca : Nat) (a : List (List Int)) (Ab : Option Addr) (cb : Nat) (b : List (List Int)) (Av : Option Addr) (cv : Nat) (v : List Int) (_wa : ∀ r ∈ a, Words r) (_wb : ∀ r ∈ b, Words r) (_wv : Words v) (hv : (fairB p a 10 && fairB p b 10 && belB p v 10) = false) (w : World) (sa : Sll w Aa ca a) (sb : Sll w Ab cb b) (sv : Sl w Av cv v) :
    Calls Try.prog 3 #[.agg #[.int .u64 p, .slice Aa a.length ca, .slice Ab b.length cb, .slice Av v.length cv]] w fun e w' => e = .returned (.bool true) ∧ Below w.heap.size w w' := by
  have gv := fun W h1 h2 h3 => valid_any p Aa Ab Av ca cb cv a b v W h1 h2 h3
  rw [hv] at gv
  replace sa := sa.push (.cells #[.int .u64 p, .slice Aa a.length ca, .slice Ab b.length cb, .slice Av v.length cv] 26)
  replace sb := sb.push (.cells #[.int .u64 p, .slice Aa a.length ca, .slice Ab b.length cb, .slice Av v.length cv] 26)
  replace sv := sv.push (.cells #[.int .u64 p, .slice Aa a.length ca, .slice Ab b.length cb, .slice Av v.length cv] 26)
  have k0 : (w.alloc (.cells #[.int .u64 p, .slice Aa a.length ca, .slice Ab b.length cb, .slice Av v.length cv] 26)).cell? ⟨w.heap.size, 0, none⟩ = some (.int .u64 p) := by go_simp
  have k1 : (w.alloc (.cells #[.int .u64 p, .slice Aa a.length ca, .slice Ab b.length cb, .slice Av v.length cv] 26)).cell? ⟨w.heap.size, 1, none⟩ = some (.slice Aa a.length ca) := by go_simp
  have k2 : (w.alloc (.cells #[.int .u64 p, .slice Aa a.length ca, .slice Ab b.length cb, .slice Av v.length cv] 26)).cell? ⟨w.heap.size, 2, none⟩ = some (.slice Ab b.length cb) := by go_simp
  have k3 : (w.alloc (.cells #[.int .u64 p, .slice Aa a.length ca, .slice Ab b.length cb, .slice Av v.length cv] 26)).cell? ⟨w.heap.size, 3, none⟩ = some (.slice Av v.length cv) := by go_simp
  have hq : w.heap.size < (w.alloc (.cells #[.int .u64 p, .slice Aa a.length ca, .slice Ab b.length cb, .slice Av v.length cv] 26)).heap.size := by simp
  have hB := bnew (Below.refl w.heap.size w) (.cells #[.int .u64 p, .slice Aa a.length ca, .slice Ab b.length cb, .slice Av v.length cv] 26) (Nat.le_refl _)
  go_enter Try.func3, Try.ntmps3
  go_wp2_with fail
  refine (gv _ sa sb sv).mono ?_
  rintro e w1 ⟨rfl, hb⟩
  replace sa := sa.next hb
  replace sb := sb.next hb
  replace sv := sv.next hb
  replace hB := hB.trans (hb.mono hB.size)
  replace k0 := (hb.cell (p := ⟨w.heap.size, 0, none⟩) hq).trans k0
  replace k1 := (hb.cell (p := ⟨w.heap.size, 1, none⟩) hq).trans k1
  replace k2 := (hb.cell (p := ⟨w.heap.size, 2, none⟩) hq).trans k2
  replace k3 := (hb.cell (p := ⟨w.heap.size, 3, none⟩) hq).trans k3
  replace hq := Nat.lt_of_lt_of_le hq hb.size
  clear hb
  go_wp2_with fail
  refine (awake_any _).mono ?_
  rintro e w2 ⟨rfl, hb⟩
  replace sa := sa.next hb
  replace sb := sb.next hb
  replace sv := sv.next hb
  replace hB := hB.trans (hb.mono hB.size)
  replace k0 := (hb.cell (p := ⟨w.heap.size, 0, none⟩) hq).trans k0
  replace k1 := (hb.cell (p := ⟨w.heap.size, 1, none⟩) hq).trans k1
  replace k2 := (hb.cell (p := ⟨w.heap.size, 2, none⟩) hq).trans k2
  replace k3 := (hb.cell (p := ⟨w.heap.size, 3, none⟩) hq).trans k3
  replace hq := Nat.lt_of_lt_of_le hq hb.size
  clear hb
  go_wp2_with fail
  go_ret
  exact ⟨rfl, hB⟩

set_option maxRecDepth 100000 in
set_option maxHeartbeats 4000000 in
theorem walk_00 (p : Int) (Aa : Option Addr) (ca : Nat) (a : List (List Int)) (Ab : Option Addr) (cb : Nat) (b : List (List Int)) (Av : Option Addr) (cv : Nat) (v : List Int) (wa : ∀ r ∈ a, Words r) (wb : ∀ r ∈ b, Words r) (wv : Words v) (hv : (fairB p a 10 && fairB p b 10 && belB p v 10) = true) (h1 : mulB a b = false) (hr : rect a = false) (w : World) (sa : Sll w Aa ca a) (sb : Sll w Ab cb b) (sv : Sl w Av cv v) :
    Calls Try.prog 3 #[.agg #[.int .u64 p, .slice Aa a.length ca, .slice Ab b.length cb, .slice Av v.length cv]] w fun e w' => e = .returned (.bool true) ∧ Below w.heap.size w w' := by
  have hv0 := hv
  rw [Bool.and_eq_true, Bool.and_eq_true] at hv0
  obtain ⟨hp, za, ea, na, la⟩ := fair_is (by omega) wa hv0.1.1
  obtain ⟨_, zb, eb, nb, lb⟩ := fair_is (by omega) wb hv0.1.2
  obtain ⟨ev, nv⟩ := bel_is wv hv0.2
  have hbd := hp.bd
  have gv := fun W h1 h2 h3 => valid_any p Aa Ab Av ca cb cv a b v W h1 h2 h3
  rw [hv] at gv
  replace sa := sa.push (.cells #[.int .u64 p, .slice Aa a.length ca, .slice Ab b.length cb, .slice Av v.length cv] 26)
  replace sb := sb.push (.cells #[.int .u64 p, .slice Aa a.length ca, .slice Ab b.length cb, .slice Av v.length cv] 26)
  replace sv := sv.push (.cells #[.int .u64 p, .slice Aa a.length ca, .slice Ab b.length cb, .slice Av v.length cv] 26)
  have k0 : (w.alloc (.cells #[.int .u64 p, .slice Aa a.length ca, .slice Ab b.length cb, .slice Av v.length cv] 26)).cell? ⟨w.heap.size, 0, none⟩ = some (.int .u64 p) := by go_simp
  have k1 : (w.alloc (.cells #[.int .u64 p, .slice Aa a.length ca, .slice Ab b.length cb, .slice Av v.length cv] 26)).cell? ⟨w.heap.size, 1, none⟩ = some (.slice Aa a.length ca) := by go_simp
  have k2 : (w.alloc (.cells #[.int .u64 p, .slice Aa a.length ca, .slice Ab b.length cb, .slice Av v.length cv] 26)).cell? ⟨w.heap.size, 2, none⟩ = some (.slice Ab b.length cb) := by go_simp
  have k3 : (w.alloc (.cells #[.int .u64 p, .slice Aa a.length ca, .slice Ab b.length cb, .slice Av v.length cv] 26)).cell? ⟨w.heap.size, 3, none⟩ = some (.slice Av v.length cv) := by go_simp
  have hq : w.heap.size < (w.alloc (.cells #[.int .u64 p, .slice Aa a.length ca, .slice Ab b.length cb, .slice Av v.length cv] 26)).heap.size := by simp
  have hB := bnew (Below.refl w.heap.size w) (.cells #[.int .u64 p, .slice Aa a.length ca, .slice Ab b.length cb, .slice Av v.length cv] 26) (Nat.le_refl _)
  go_enter Try.func3, Try.ntmps3
  go_wp2_with fail
  refine (gv _ sa sb sv).mono ?_
  rintro e w1 ⟨rfl, hb⟩
  replace sa := sa.next hb
  replace sb := sb.next hb
  replace sv := sv.next hb
  replace hB := hB.trans (hb.mono hB.size)
  replace k0 := (hb.cell (p := ⟨w.heap.size, 0, none⟩) hq).trans k0
  replace k1 := (hb.cell (p := ⟨w.heap.size, 1, none⟩) hq).trans k1
  replace k2 := (hb.cell (p := ⟨w.heap.size, 2, none⟩) hq).trans k2
  replace k3 := (hb.cell (p := ⟨w.heap.size, 3, none⟩) hq).trans k3
  replace hq := Nat.lt_of_lt_of_le hq hb.size
  clear hb
  go_wp2_with fail
  refine (mul_bad p Aa Ab ca cb a b za zb h1 _ sa sb).mono ?_
  rintro e w2 ⟨rfl, hb⟩
  replace sa := sa.next hb
  replace sb := sb.next hb
  replace sv := sv.next hb
  replace hB := hB.trans (hb.mono hB.size)
  replace k0 := (hb.cell (p := ⟨w.heap.size, 0, none⟩) hq).trans k0
  replace k1 := (hb.cell (p := ⟨w.heap.size, 1, none⟩) hq).trans k1
  replace k2 := (hb.cell (p := ⟨w.heap.size, 2, none⟩) hq).trans k2
  replace k3 := (hb.cell (p := ⟨w.heap.size, 3, none⟩) hq).trans k3
  replace hq := Nat.lt_of_lt_of_le hq hb.size
  clear hb
  go_wp2_with fail
  refine (rMul_bad p Aa Ab ca cb a b za zb h1 _ sa sb).mono ?_
  rintro e w3 ⟨rfl, hb⟩
  replace sa := sa.next hb
  replace sb := sb.next hb
  replace sv := sv.next hb
  replace hB := hB.trans (hb.mono hB.size)
  replace k0 := (hb.cell (p := ⟨w.heap.size, 0, none⟩) hq).trans k0
  replace k1 := (hb.cell (p := ⟨w.heap.size, 1, none⟩) hq).trans k1
  replace k2 := (hb.cell (p := ⟨w.heap.size, 2, none⟩) hq).trans k2
  replace k3 := (hb.cell (p := ⟨w.heap.size, 3, none⟩) hq).trans k3
  replace hq := Nat.lt_of_lt_of_le hq hb.size
  clear hb
  go_wp2_with fail
  refine (apply_bad1 p Aa Av ca cv a v za hr _ sa).mono ?_
  rintro e w4 ⟨rfl, hb⟩
  replace sa := sa.next hb
  replace sb := sb.next hb
  replace sv := sv.next hb
  replace hB := hB.trans (hb.mono hB.size)
  replace k0 := (hb.cell (p := ⟨w.heap.size, 0, none⟩) hq).trans k0
  replace k1 := (hb.cell (p := ⟨w.heap.size, 1, none⟩) hq).trans k1
  replace k2 := (hb.cell (p := ⟨w.heap.size, 2, none⟩) hq).trans k2
  replace k3 := (hb.cell (p := ⟨w.heap.size, 3, none⟩) hq).trans k3
  replace hq := Nat.lt_of_lt_of_le hq hb.size
  clear hb
  go_wp2_with fail
  refine (rApply_bad1 p Aa Av ca cv a v za hr _ sa).mono ?_
  rintro e w5 ⟨rfl, hb⟩
  replace sa := sa.next hb
  replace sb := sb.next hb
  replace sv := sv.next hb
  replace hB := hB.trans (hb.mono hB.size)
  replace k0 := (hb.cell (p := ⟨w.heap.size, 0, none⟩) hq).trans k0
  replace k1 := (hb.cell (p := ⟨w.heap.size, 1, none⟩) hq).trans k1
  replace k2 := (hb.cell (p := ⟨w.heap.size, 2, none⟩) hq).trans k2
  replace k3 := (hb.cell (p := ⟨w.heap.size, 3, none⟩) hq).trans k3
  replace hq := Nat.lt_of_lt_of_le hq hb.size
  clear hb
  go_wp2_with fail
  refine (awake_any _).mono ?_
  rintro e w6 ⟨rfl, hb⟩
  replace sa := sa.next hb
  replace sb := sb.next hb
  replace sv := sv.next hb
  replace hB := hB.trans (hb.mono hB.size)
  replace k0 := (hb.cell (p := ⟨w.heap.size, 0, none⟩) hq).trans k0
  replace k1 := (hb.cell (p := ⟨w.heap.size, 1, none⟩) hq).trans k1
  replace k2 := (hb.cell (p := ⟨w.heap.size, 2, none⟩) hq).trans k2
  replace k3 := (hb.cell (p := ⟨w.heap.size, 3, none⟩) hq).trans k3
  replace hq := Nat.lt_of_lt_of_le hq hb.size
  clear hb
  go_wp2_with fail
  refine (sameM_b none none [] 0 0 _ (Sll.nothing _) (Sll.nothing _) (sized_dec (by decide))).mono ?_
  rintro e w7 ⟨rfl, hb⟩
  replace sa := sa.next hb
  replace sb := sb.next hb
  replace sv := sv.next hb
  replace hB := hB.trans (hb.mono hB.size)
  replace k0 := (hb.cell (p := ⟨w.heap.size, 0, none⟩) hq).trans k0
  replace k1 := (hb.cell (p := ⟨w.heap.size, 1, none⟩) hq).trans k1
  replace k2 := (hb.cell (p := ⟨w.heap.size, 2, none⟩) hq).trans k2
  replace k3 := (hb.cell (p := ⟨w.heap.size, 3, none⟩) hq).trans k3
  replace hq := Nat.lt_of_lt_of_le hq hb.size
  clear hb
  go_wp2_with fail
  refine (sameL_b none none [] 0 0 _ (Sl.nothing _) (Sl.nothing _) (by decide)).mono ?_
  rintro e w8 ⟨rfl, hb⟩
  replace sa := sa.next hb
  replace sb := sb.next hb
  replace sv := sv.next hb
  replace hB := hB.trans (hb.mono hB.size)
  replace k0 := (hb.cell (p := ⟨w.heap.size, 0, none⟩) hq).trans k0
  replace k1 := (hb.cell (p := ⟨w.heap.size, 1, none⟩) hq).trans k1
  replace k2 := (hb.cell (p := ⟨w.heap.size, 2, none⟩) hq).trans k2
  replace k3 := (hb.cell (p := ⟨w.heap.size, 3, none⟩) hq).trans k3
  replace hq := Nat.lt_of_lt_of_le hq hb.size
  clear hb
  go_wp2_with fail
  go_ret
  exact ⟨rfl, hB⟩

set_option maxRecDepth 100000 in
set_option maxHeartbeats 4000000 in
theorem walk_01 (p : Int) (Aa : Option Addr) (ca : Nat) (a : List (List Int)) (Ab : Option Addr) (cb : Nat) (b : List (List Int)) (Av : Option Addr) (cv : Nat) (v : List Int) (wa : ∀ r ∈ a, Words r) (wb : ∀ r ∈ b, Words r) (wv : Words v) (hv : (fairB p a 10 && fairB p b 10 && belB p v 10) = true) (h1 : mulB a b = false) (hr : rect a = true) (hn : ncol a ≠ v.length) (w : World) (sa : Sll w Aa ca a) (sb : Sll w Ab cb b) (sv : Sl w Av cv v) :
    Calls Try.prog 3 #[.agg #[.int .u64 p, .slice Aa a.length ca, .slice Ab b.length cb, .slice Av v.length cv]] w fun e w' => e = .returned (.bool true) ∧ Below w.heap.size w w' := by
  have hv0 := hv
  rw [Bool.and_eq_true, Bool.and_eq_true] at hv0
  obtain ⟨hp, za, ea, na, la⟩ := fair_is (by omega) wa hv0.1.1
  obtain ⟨_, zb, eb, nb, lb⟩ := fair_is (by omega) wb hv0.1.2
  obtain ⟨ev, nv⟩ := bel_is wv hv0.2
  have hbd := hp.bd
  have gv := fun W h1 h2 h3 => valid_any p Aa Ab Av ca cb cv a b v W h1 h2 h3
  rw [hv] at gv
  replace sa := sa.push (.cells #[.int .u64 p, .slice Aa a.length ca, .slice Ab b.length cb, .slice Av v.length cv] 26)
  replace sb := sb.push (.cells #[.int .u64 p, .slice Aa a.length ca, .slice Ab b.length cb, .slice Av v.length cv] 26)
  replace sv := sv.push (.cells #[.int .u64 p, .slice Aa a.length ca, .slice Ab b.length cb, .slice Av v.length cv] 26)
  have k0 : (w.alloc (.cells #[.int .u64 p, .slice Aa a.length ca, .slice Ab b.length cb, .slice Av v.length cv] 26)).cell? ⟨w.heap.size, 0, none⟩ = some (.int .u64 p) := by go_simp
  have k1 : (w.alloc (.cells #[.int .u64 p, .slice Aa a.length ca, .slice Ab b.length cb, .slice Av v.length cv] 26)).cell? ⟨w.heap.size, 1, none⟩ = some (.slice Aa a.length ca) := by go_simp
  have k2 : (w.alloc (.cells #[.int .u64 p, .slice Aa a.length ca, .slice Ab b.length cb, .slice Av v.length cv] 26)).cell? ⟨w.heap.size, 2, none⟩ = some (.slice Ab b.length cb) := by go_simp
  have k3 : (w.alloc (.cells #[.int .u64 p, .slice Aa a.length ca, .slice Ab b.length cb, .slice Av v.length cv] 26)).cell? ⟨w.heap.size, 3, none⟩ = some (.slice Av v.length cv) := by go_simp
  have hq : w.heap.size < (w.alloc (.cells #[.int .u64 p, .slice Aa a.length ca, .slice Ab b.length cb, .slice Av v.length cv] 26)).heap.size := by simp
  have hB := bnew (Below.refl w.heap.size w) (.cells #[.int .u64 p, .slice Aa a.length ca, .slice Ab b.length cb, .slice Av v.length cv] 26) (Nat.le_refl _)
  go_enter Try.func3, Try.ntmps3
  go_wp2_with fail
  refine (gv _ sa sb sv).mono ?_
  rintro e w1 ⟨rfl, hb⟩
  replace sa := sa.next hb
  replace sb := sb.next hb
  replace sv := sv.next hb
  replace hB := hB.trans (hb.mono hB.size)
  replace k0 := (hb.cell (p := ⟨w.heap.size, 0, none⟩) hq).trans k0
  replace k1 := (hb.cell (p := ⟨w.heap.size, 1, none⟩) hq).trans k1
  replace k2 := (hb.cell (p := ⟨w.heap.size, 2, none⟩) hq).trans k2
  replace k3 := (hb.cell (p := ⟨w.heap.size, 3, none⟩) hq).trans k3
  replace hq := Nat.lt_of_lt_of_le hq hb.size
  clear hb
  go_wp2_with fail
  refine (mul_bad p Aa Ab ca cb a b za zb h1 _ sa sb).mono ?_
  rintro e w2 ⟨rfl, hb⟩
  replace sa := sa.next hb
  replace sb := sb.next hb
  replace sv := sv.next hb
  replace hB := hB.trans (hb.mono hB.size)
  replace k0 := (hb.cell (p := ⟨w.heap.size, 0, none⟩) hq).trans k0
  replace k1 := (hb.cell (p := ⟨w.heap.size, 1, none⟩) hq).trans k1
  replace k2 := (hb.cell (p := ⟨w.heap.size, 2, none⟩) hq).trans k2
  replace k3 := (hb.cell (p := ⟨w.heap.size, 3, none⟩) hq).trans k3
  replace hq := Nat.lt_of_lt_of_le hq hb.size
  clear hb
  go_wp2_with fail
  refine (rMul_bad p Aa Ab ca cb a b za zb h1 _ sa sb).mono ?_
  rintro e w3 ⟨rfl, hb⟩
  replace sa := sa.next hb
  replace sb := sb.next hb
  replace sv := sv.next hb
  replace hB := hB.trans (hb.mono hB.size)
  replace k0 := (hb.cell (p := ⟨w.heap.size, 0, none⟩) hq).trans k0
  replace k1 := (hb.cell (p := ⟨w.heap.size, 1, none⟩) hq).trans k1
  replace k2 := (hb.cell (p := ⟨w.heap.size, 2, none⟩) hq).trans k2
  replace k3 := (hb.cell (p := ⟨w.heap.size, 3, none⟩) hq).trans k3
  replace hq := Nat.lt_of_lt_of_le hq hb.size
  clear hb
  go_wp2_with fail
  refine (apply_bad2 p Aa Av ca cv a v za hr hn _ sa).mono ?_
  rintro e w4 ⟨rfl, hb⟩
  replace sa := sa.next hb
  replace sb := sb.next hb
  replace sv := sv.next hb
  replace hB := hB.trans (hb.mono hB.size)
  replace k0 := (hb.cell (p := ⟨w.heap.size, 0, none⟩) hq).trans k0
  replace k1 := (hb.cell (p := ⟨w.heap.size, 1, none⟩) hq).trans k1
  replace k2 := (hb.cell (p := ⟨w.heap.size, 2, none⟩) hq).trans k2
  replace k3 := (hb.cell (p := ⟨w.heap.size, 3, none⟩) hq).trans k3
  replace hq := Nat.lt_of_lt_of_le hq hb.size
  clear hb
  go_wp2_with fail
  refine (rApply_bad2 p Aa Av ca cv a v za hr hn _ sa).mono ?_
  rintro e w5 ⟨rfl, hb⟩
  replace sa := sa.next hb
  replace sb := sb.next hb
  replace sv := sv.next hb
  replace hB := hB.trans (hb.mono hB.size)
  replace k0 := (hb.cell (p := ⟨w.heap.size, 0, none⟩) hq).trans k0
  replace k1 := (hb.cell (p := ⟨w.heap.size, 1, none⟩) hq).trans k1
  replace k2 := (hb.cell (p := ⟨w.heap.size, 2, none⟩) hq).trans k2
  replace k3 := (hb.cell (p := ⟨w.heap.size, 3, none⟩) hq).trans k3
  replace hq := Nat.lt_of_lt_of_le hq hb.size
  clear hb
  go_wp2_with fail
  refine (awake_any _).mono ?_
  rintro e w6 ⟨rfl, hb⟩
  replace sa := sa.next hb
  replace sb := sb.next hb
  replace sv := sv.next hb
  replace hB := hB.trans (hb.mono hB.size)
  replace k0 := (hb.cell (p := ⟨w.heap.size, 0, none⟩) hq).trans k0
  replace k1 := (hb.cell (p := ⟨w.heap.size, 1, none⟩) hq).trans k1
  replace k2 := (hb.cell (p := ⟨w.heap.size, 2, none⟩) hq).trans k2
  replace k3 := (hb.cell (p := ⟨w.heap.size, 3, none⟩) hq).trans k3
  replace hq := Nat.lt_of_lt_of_le hq hb.size
  clear hb
  go_wp2_with fail
  refine (sameM_b none none [] 0 0 _ (Sll.nothing _) (Sll.nothing _) (sized_dec (by decide))).mono ?_
  rintro e w7 ⟨rfl, hb⟩
  replace sa := sa.next hb
  replace sb := sb.next hb
  replace sv := sv.next hb
  replace hB := hB.trans (hb.mono hB.size)
  replace k0 := (hb.cell (p := ⟨w.heap.size, 0, none⟩) hq).trans k0
  replace k1 := (hb.cell (p := ⟨w.heap.size, 1, none⟩) hq).trans k1
  replace k2 := (hb.cell (p := ⟨w.heap.size, 2, none⟩) hq).trans k2
  replace k3 := (hb.cell (p := ⟨w.heap.size, 3, none⟩) hq).trans k3
  replace hq := Nat.lt_of_lt_of_le hq hb.size
  clear hb
  go_wp2_with fail
  refine (sameL_b none none [] 0 0 _ (Sl.nothing _) (Sl.nothing _) (by decide)).mono ?_
  rintro e w8 ⟨rfl, hb⟩
  replace sa := sa.next hb
  replace sb := sb.next hb
  replace sv := sv.next hb
  replace hB := hB.trans (hb.mono hB.size)
  replace k0 := (hb.cell (p := ⟨w.heap.size, 0, none⟩) hq).trans k0
  replace k1 := (hb.cell (p := ⟨w.heap.size, 1, none⟩) hq).trans k1
  replace k2 := (hb.cell (p := ⟨w.heap.size, 2, none⟩) hq).trans k2
  replace k3 := (hb.cell (p := ⟨w.heap.size, 3, none⟩) hq).trans k3
  replace hq := Nat.lt_of_lt_of_le hq hb.size
  clear hb
  go_wp2_with fail
  go_ret
  exact ⟨rfl, hB⟩

set_option maxRecDepth 100000 in
set_option maxHeartbeats 4000000 in
theorem walk_02 (p : Int) (Aa : Option Addr) (ca : Nat) (a : List (List Int)) (Ab : Option Addr) (cb : Nat) (b : List (List Int)) (Av : Option Addr) (cv : Nat) (v : List Int) (wa : ∀ r ∈ a, Words r) (wb : ∀ r ∈ b, Words r) (wv : Words v) (hv : (fairB p a 10 && fairB p b 10 && belB p v 10) = true) (h1 : mulB a b = false) (hr : rect a = true) (hn : ncol a = v.length) (w : World) (sa : Sll w Aa ca a) (sb : Sll w Ab cb b) (sv : Sl w Av cv v) :
    Calls Try.prog 3 #[.agg #[.int .u64 p, .slice Aa a.length ca, .slice Ab b.length cb, .slice Av v.length cv]] w fun e w' => e = .returned (.bool true) ∧ Below w.heap.size w w' := by
  have hv0 := hv
  rw [Bool.and_eq_true, Bool.and_eq_true] at hv0
  obtain ⟨hp, za, ea, na, la⟩ := fair_is (by omega) wa hv0.1.1
  obtain ⟨_, zb, eb, nb, lb⟩ := fair_is (by omega) wb hv0.1.2
  obtain ⟨ev, nv⟩ := bel_is wv hv0.2
  have hbd := hp.bd
  have gv := fun W h1 h2 h3 => valid_any p Aa Ab Av ca cb cv a b v W h1 h2 h3
  rw [hv] at gv
  replace sa := sa.push (.cells #[.int .u64 p, .slice Aa a.length ca, .slice Ab b.length cb, .slice Av v.length cv] 26)
  replace sb := sb.push (.cells #[.int .u64 p, .slice Aa a.length ca, .slice Ab b.length cb, .slice Av v.length cv] 26)
  replace sv := sv.push (.cells #[.int .u64 p, .slice Aa a.length ca, .slice Ab b.length cb, .slice Av v.length cv] 26)
  have k0 : (w.alloc (.cells #[.int .u64 p, .slice Aa a.length ca, .slice Ab b.length cb, .slice Av v.length cv] 26)).cell? ⟨w.heap.size, 0, none⟩ = some (.int .u64 p) := by go_simp
  have k1 : (w.alloc (.cells #[.int .u64 p, .slice Aa a.length ca, .slice Ab b.length cb, .slice Av v.length cv] 26)).cell? ⟨w.heap.size, 1, none⟩ = some (.slice Aa a.length ca) := by go_simp
  have k2 : (w.alloc (.cells #[.int .u64 p, .slice Aa a.length ca, .slice Ab b.length cb, .slice Av v.length cv] 26)).cell? ⟨w.heap.size, 2, none⟩ = some (.slice Ab b.length cb) := by go_simp
  have k3 : (w.alloc (.cells #[.int .u64 p, .slice Aa a.length ca, .slice Ab b.length cb, .slice Av v.length cv] 26)).cell? ⟨w.heap.size, 3, none⟩ = some (.slice Av v.length cv) := by go_simp
  have hq : w.heap.size < (w.alloc (.cells #[.int .u64 p, .slice Aa a.length ca, .slice Ab b.length cb, .slice Av v.length cv] 26)).heap.size := by simp
  have hB := bnew (Below.refl w.heap.size w) (.cells #[.int .u64 p, .slice Aa a.length ca, .slice Ab b.length cb, .slice Av v.length cv] 26) (Nat.le_refl _)
  go_enter Try.func3, Try.ntmps3
  go_wp2_with fail
  refine (gv _ sa sb sv).mono ?_
  rintro e w1 ⟨rfl, hb⟩
  replace sa := sa.next hb
  replace sb := sb.next hb
  replace sv := sv.next hb
  replace hB := hB.trans (hb.mono hB.size)
  replace k0 := (hb.cell (p := ⟨w.heap.size, 0, none⟩) hq).trans k0
  replace k1 := (hb.cell (p := ⟨w.heap.size, 1, none⟩) hq).trans k1
  replace k2 := (hb.cell (p := ⟨w.heap.size, 2, none⟩) hq).trans k2
  replace k3 := (hb.cell (p := ⟨w.heap.size, 3, none⟩) hq).trans k3
  replace hq := Nat.lt_of_lt_of_le hq hb.size
  clear hb
  go_wp2_with fail
  refine (mul_bad p Aa Ab ca cb a b za zb h1 _ sa sb).mono ?_
  rintro e w2 ⟨rfl, hb⟩
  replace sa := sa.next hb
  replace sb := sb.next hb
  replace sv := sv.next hb
  replace hB := hB.trans (hb.mono hB.size)
  replace k0 := (hb.cell (p := ⟨w.heap.size, 0, none⟩) hq).trans k0
  replace k1 := (hb.cell (p := ⟨w.heap.size, 1, none⟩) hq).trans k1
  replace k2 := (hb.cell (p := ⟨w.heap.size, 2, none⟩) hq).trans k2
  replace k3 := (hb.cell (p := ⟨w.heap.size, 3, none⟩) hq).trans k3
  replace hq := Nat.lt_of_lt_of_le hq hb.size
  clear hb
  go_wp2_with fail
  refine (rMul_bad p Aa Ab ca cb a b za zb h1 _ sa sb).mono ?_
  rintro e w3 ⟨rfl, hb⟩
  replace sa := sa.next hb
  replace sb := sb.next hb
  replace sv := sv.next hb
  replace hB := hB.trans (hb.mono hB.size)
  replace k0 := (hb.cell (p := ⟨w.heap.size, 0, none⟩) hq).trans k0
  replace k1 := (hb.cell (p := ⟨w.heap.size, 1, none⟩) hq).trans k1
  replace k2 := (hb.cell (p := ⟨w.heap.size, 2, none⟩) hq).trans k2
  replace k3 := (hb.cell (p := ⟨w.heap.size, 3, none⟩) hq).trans k3
  replace hq := Nat.lt_of_lt_of_le hq hb.size
  clear hb
  go_wp2_with fail
  refine (apply_ok p hp Aa Av ca cv a v za ea ev hr hn _ sa sv).mono ?_
  rintro e w4 ⟨A3, c3, rfl, s3, hb⟩
  replace sa := sa.next hb
  replace sb := sb.next hb
  replace sv := sv.next hb
  replace hB := hB.trans (hb.mono hB.size)
  replace k0 := (hb.cell (p := ⟨w.heap.size, 0, none⟩) hq).trans k0
  replace k1 := (hb.cell (p := ⟨w.heap.size, 1, none⟩) hq).trans k1
  replace k2 := (hb.cell (p := ⟨w.heap.size, 2, none⟩) hq).trans k2
  replace k3 := (hb.cell (p := ⟨w.heap.size, 3, none⟩) hq).trans k3
  replace hq := Nat.lt_of_lt_of_le hq hb.size
  clear hb
  go_wp2_with fail
  refine (rApply_ok p hp Aa Av ca cv a v za ea ev hr hn _ sa sv).mono ?_
  rintro e w5 ⟨A4, c4, rfl, s4, hb⟩
  replace sa := sa.next hb
  replace sb := sb.next hb
  replace sv := sv.next hb
  replace s3 := s3.next hb
  replace hB := hB.trans (hb.mono hB.size)
  replace k0 := (hb.cell (p := ⟨w.heap.size, 0, none⟩) hq).trans k0
  replace k1 := (hb.cell (p := ⟨w.heap.size, 1, none⟩) hq).trans k1
  replace k2 := (hb.cell (p := ⟨w.heap.size, 2, none⟩) hq).trans k2
  replace k3 := (hb.cell (p := ⟨w.heap.size, 3, none⟩) hq).trans k3
  replace hq := Nat.lt_of_lt_of_le hq hb.size
  clear hb
  go_wp2_with fail
  refine (awake_any _).mono ?_
  rintro e w6 ⟨rfl, hb⟩
  replace sa := sa.next hb
  replace sb := sb.next hb
  replace sv := sv.next hb
  replace s3 := s3.next hb
  replace s4 := s4.next hb
  replace hB := hB.trans (hb.mono hB.size)
  replace k0 := (hb.cell (p := ⟨w.heap.size, 0, none⟩) hq).trans k0
  replace k1 := (hb.cell (p := ⟨w.heap.size, 1, none⟩) hq).trans k1
  replace k2 := (hb.cell (p := ⟨w.heap.size, 2, none⟩) hq).trans k2
  replace k3 := (hb.cell (p := ⟨w.heap.size, 3, none⟩) hq).trans k3
  replace hq := Nat.lt_of_lt_of_le hq hb.size
  clear hb
  go_wp2_with fail
  refine (sameM_b none none [] 0 0 _ (Sll.nothing _) (Sll.nothing _) (sized_dec (by decide))).mono ?_
  rintro e w7 ⟨rfl, hb⟩
  replace sa := sa.next hb
  replace sb := sb.next hb
  replace sv := sv.next hb
  replace s3 := s3.next hb
  replace s4 := s4.next hb
  replace hB := hB.trans (hb.mono hB.size)
  replace k0 := (hb.cell (p := ⟨w.heap.size, 0, none⟩) hq).trans k0
  replace k1 := (hb.cell (p := ⟨w.heap.size, 1, none⟩) hq).trans k1
  replace k2 := (hb.cell (p := ⟨w.heap.size, 2, none⟩) hq).trans k2
  replace k3 := (hb.cell (p := ⟨w.heap.size, 3, none⟩) hq).trans k3
  replace hq := Nat.lt_of_lt_of_le hq hb.size
  clear hb
  go_wp2_with fail
  refine (sameL_b _ _ (app p a v) _ _ _ s3 s4 (by rw [app_len]; omega)).mono ?_
  rintro e w8 ⟨rfl, hb⟩
  replace sa := sa.next hb
  replace sb := sb.next hb
  replace sv := sv.next hb
  replace s3 := s3.next hb
  replace s4 := s4.next hb
  replace hB := hB.trans (hb.mono hB.size)
  replace k0 := (hb.cell (p := ⟨w.heap.size, 0, none⟩) hq).trans k0
  replace k1 := (hb.cell (p := ⟨w.heap.size, 1, none⟩) hq).trans k1
  replace k2 := (hb.cell (p := ⟨w.heap.size, 2, none⟩) hq).trans k2
  replace k3 := (hb.cell (p := ⟨w.heap.size, 3, none⟩) hq).trans k3
  replace hq := Nat.lt_of_lt_of_le hq hb.size
  clear hb
  go_wp2_with fail
  go_ret
  exact ⟨rfl, hB⟩

set_option maxRecDepth 100000 in
set_option maxHeartbeats 4000000 in
theorem walk_10 (p : Int) (Aa : Option Addr) (ca : Nat) (a : List (List Int)) (Ab : Option Addr) (cb : Nat) (b : List (List Int)) (Av : Option Addr) (cv : Nat) (v : List Int) (wa : ∀ r ∈ a, Words r) (wb : ∀ r ∈ b, Words r) (wv : Words v) (hv : (fairB p a 10 && fairB p b 10 && belB p v 10) = true) (h1 : mulB a b = true) (hr : rect a = false) (w : World) (sa : Sll w Aa ca a) (sb : Sll w Ab cb b) (sv : Sl w Av cv v) :
    Calls Try.prog 3 #[.agg #[.int .u64 p, .slice Aa a.length ca, .slice Ab b.length cb, .slice Av v.length cv]] w fun e w' => e = .returned (.bool true) ∧ Below w.heap.size w w' := by
  have hv0 := hv
  rw [Bool.and_eq_true, Bool.and_eq_true] at hv0
  obtain ⟨hp, za, ea, na, la⟩ := fair_is (by omega) wa hv0.1.1
  obtain ⟨_, zb, eb, nb, lb⟩ := fair_is (by omega) wb hv0.1.2
  obtain ⟨ev, nv⟩ := bel_is wv hv0.2
  have hbd := hp.bd
  have gv := fun W h1 h2 h3 => valid_any p Aa Ab Av ca cb cv a b v W h1 h2 h3
  rw [hv] at gv
  obtain ⟨ra, rb, nab⟩ := mulB_iff.1 h1
  have hAB := mulM_mat (p := p) (by omega) a b
  have lb0 : ncol b ≤ 10 := lb 0
  have zAB : Sized (mulM p a b) := hAB.sized (by omega) (by omega)
  replace sa := sa.push (.cells #[.int .u64 p, .slice Aa a.length ca, .slice Ab b.length cb, .slice Av v.length cv] 26)
  replace sb := sb.push (.cells #[.int .u64 p, .slice Aa a.length ca, .slice Ab b.length cb, .slice Av v.length cv] 26)
  replace sv := sv.push (.cells #[.int .u64 p, .slice Aa a.length ca, .slice Ab b.length cb, .slice Av v.length cv] 26)
  have k0 : (w.alloc (.cells #[.int .u64 p, .slice Aa a.length ca, .slice Ab b.length cb, .slice Av v.length cv] 26)).cell? ⟨w.heap.size, 0, none⟩ = some (.int .u64 p) := by go_simp
  have k1 : (w.alloc (.cells #[.int .u64 p, .slice Aa a.length ca, .slice Ab b.length cb, .slice Av v.length cv] 26)).cell? ⟨w.heap.size, 1, none⟩ = some (.slice Aa a.length ca) := by go_simp
  have k2 : (w.alloc (.cells #[.int .u64 p, .slice Aa a.length ca, .slice Ab b.length cb, .slice Av v.length cv] 26)).cell? ⟨w.heap.size, 2, none⟩ = some (.slice Ab b.length cb) := by go_simp
  have k3 : (w.alloc (.cells #[.int .u64 p, .slice Aa a.length ca, .slice Ab b.length cb, .slice Av v.length cv] 26)).cell? ⟨w.heap.size, 3, none⟩ = some (.slice Av v.length cv) := by go_simp
  have hq : w.heap.size < (w.alloc (.cells #[.int .u64 p, .slice Aa a.length ca, .slice Ab b.length cb, .slice Av v.length cv] 26)).heap.size := by simp
  have hB := bnew (Below.refl w.heap.size w) (.cells #[.int .u64 p, .slice Aa a.length ca, .slice Ab b.length cb, .slice Av v.length cv] 26) (Nat.le_refl _)
  go_enter Try.func3, Try.ntmps3
  go_wp2_with fail
  refine (gv _ sa sb sv).mono ?_
  rintro e w1 ⟨rfl, hb⟩
  replace sa := sa.next hb
  replace sb := sb.next hb
  replace sv := sv.next hb
  replace hB := hB.trans (hb.mono hB.size)
  replace k0 := (hb.cell (p := ⟨w.heap.size, 0, none⟩) hq).trans k0
  replace k1 := (hb.cell (p := ⟨w.heap.size, 1, none⟩) hq).trans k1
  replace k2 := (hb.cell (p := ⟨w.heap.size, 2, none⟩) hq).trans k2
  replace k3 := (hb.cell (p := ⟨w.heap.size, 3, none⟩) hq).trans k3
  replace hq := Nat.lt_of_lt_of_le hq hb.size
  clear hb
  go_wp2_with fail
  refine (mul_ok p hp Aa Ab ca cb a b za zb ea eb ra rb nab _ sa sb).mono ?_
  rintro e w2 ⟨A1, c1, rfl, s1, hb⟩
  replace sa := sa.next hb
  replace sb := sb.next hb
  replace sv := sv.next hb
  replace hB := hB.trans (hb.mono hB.size)
  replace k0 := (hb.cell (p := ⟨w.heap.size, 0, none⟩) hq).trans k0
  replace k1 := (hb.cell (p := ⟨w.heap.size, 1, none⟩) hq).trans k1
  replace k2 := (hb.cell (p := ⟨w.heap.size, 2, none⟩) hq).trans k2
  replace k3 := (hb.cell (p := ⟨w.heap.size, 3, none⟩) hq).trans k3
  replace hq := Nat.lt_of_lt_of_le hq hb.size
  clear hb
  go_wp2_with fail
  refine (rMul_ok p hp Aa Ab ca cb a b za zb ea eb ra rb nab _ sa sb).mono ?_
  rintro e w3 ⟨A2, c2, rfl, s2, hb⟩
  replace sa := sa.next hb
  replace sb := sb.next hb
  replace sv := sv.next hb
  replace s1 := s1.next hb
  replace hB := hB.trans (hb.mono hB.size)
  replace k0 := (hb.cell (p := ⟨w.heap.size, 0, none⟩) hq).trans k0
  replace k1 := (hb.cell (p := ⟨w.heap.size, 1, none⟩) hq).trans k1
  replace k2 := (hb.cell (p := ⟨w.heap.size, 2, none⟩) hq).trans k2
  replace k3 := (hb.cell (p := ⟨w.heap.size, 3, none⟩) hq).trans k3
  replace hq := Nat.lt_of_lt_of_le hq hb.size
  clear hb
  go_wp2_with fail
  refine (apply_bad1 p Aa Av ca cv a v za hr _ sa).mono ?_
  rintro e w4 ⟨rfl, hb⟩
  replace sa := sa.next hb
  replace sb := sb.next hb
  replace sv := sv.next hb
  replace s1 := s1.next hb
  replace s2 := s2.next hb
  replace hB := hB.trans (hb.mono hB.size)
  replace k0 := (hb.cell (p := ⟨w.heap.size, 0, none⟩) hq).trans k0
  replace k1 := (hb.cell (p := ⟨w.heap.size, 1, none⟩) hq).trans k1
  replace k2 := (hb.cell (p := ⟨w.heap.size, 2, none⟩) hq).trans k2
  replace k3 := (hb.cell (p := ⟨w.heap.size, 3, none⟩) hq).trans k3
  replace hq := Nat.lt_of_lt_of_le hq hb.size
  clear hb
  go_wp2_with fail
  refine (rApply_bad1 p Aa Av ca cv a v za hr _ sa).mono ?_
  rintro e w5 ⟨rfl, hb⟩
  replace sa := sa.next hb
  replace sb := sb.next hb
  replace sv := sv.next hb
  replace s1 := s1.next hb
  replace s2 := s2.next hb
  replace hB := hB.trans (hb.mono hB.size)
  replace k0 := (hb.cell (p := ⟨w.heap.size, 0, none⟩) hq).trans k0
  replace k1 := (hb.cell (p := ⟨w.heap.size, 1, none⟩) hq).trans k1
  replace k2 := (hb.cell (p := ⟨w.heap.size, 2, none⟩) hq).trans k2
  replace k3 := (hb.cell (p := ⟨w.heap.size, 3, none⟩) hq).trans k3
  replace hq := Nat.lt_of_lt_of_le hq hb.size
  clear hb
  go_wp2_with fail
  refine (awake_any _).mono ?_
  rintro e w6 ⟨rfl, hb⟩
  replace sa := sa.next hb
  replace sb := sb.next hb
  replace sv := sv.next hb
  replace s1 := s1.next hb
  replace s2 := s2.next hb
  replace hB := hB.trans (hb.mono hB.size)
  replace k0 := (hb.cell (p := ⟨w.heap.size, 0, none⟩) hq).trans k0
  replace k1 := (hb.cell (p := ⟨w.heap.size, 1, none⟩) hq).trans k1
  replace k2 := (hb.cell (p := ⟨w.heap.size, 2, none⟩) hq).trans k2
  replace k3 := (hb.cell (p := ⟨w.heap.size, 3, none⟩) hq).trans k3
  replace hq := Nat.lt_of_lt_of_le hq hb.size
  clear hb
  go_wp2_with fail
  refine (sameM_b _ _ (mulM p a b) _ _ _ s1 s2 zAB).mono ?_
  rintro e w7 ⟨rfl, hb⟩
  replace sa := sa.next hb
  replace sb := sb.next hb
  replace sv := sv.next hb
  replace s1 := s1.next hb
  replace s2 := s2.next hb
  replace hB := hB.trans (hb.mono hB.size)
  replace k0 := (hb.cell (p := ⟨w.heap.size, 0, none⟩) hq).trans k0
  replace k1 := (hb.cell (p := ⟨w.heap.size, 1, none⟩) hq).trans k1
  replace k2 := (hb.cell (p := ⟨w.heap.size, 2, none⟩) hq).trans k2
  replace k3 := (hb.cell (p := ⟨w.heap.size, 3, none⟩) hq).trans k3
  replace hq := Nat.lt_of_lt_of_le hq hb.size
  clear hb
  go_wp2_with fail
  refine (sameL_b none none [] 0 0 _ (Sl.nothing _) (Sl.nothing _) (by decide)).mono ?_
  rintro e w8 ⟨rfl, hb⟩
  replace sa := sa.next hb
  replace sb := sb.next hb
  replace sv := sv.next hb
  replace s1 := s1.next hb
  replace s2 := s2.next hb
  replace hB := hB.trans (hb.mono hB.size)
  replace k0 := (hb.cell (p := ⟨w.heap.size, 0, none⟩) hq).trans k0
  replace k1 := (hb.cell (p := ⟨w.heap.size, 1, none⟩) hq).trans k1
  replace k2 := (hb.cell (p := ⟨w.heap.size, 2, none⟩) hq).trans k2
  replace k3 := (hb.cell (p := ⟨w.heap.size, 3, none⟩) hq).trans k3
  replace hq := Nat.lt_of_lt_of_le hq hb.size
  clear hb
  go_wp2_with fail
  go_ret
  exact ⟨rfl, hB⟩

set_option maxRecDepth 100000 in
set_option maxHeartbeats 4000000 in
theorem walk_11 (p : Int) (Aa : Option Addr) (ca : Nat) (a : List (List Int)) (Ab : Option Addr) (cb : Nat) (b : List (List Int)) (Av : Option Addr) (cv : Nat) (v : List Int) (wa : ∀ r ∈ a, Words r) (wb : ∀ r ∈ b, Words r) (wv : Words v) (hv : (fairB p a 10 && fairB p b 10 && belB p v 10) = true) (h1 : mulB a b = true) (hr : rect a = true) (hn : ncol a ≠ v.length) (w : World) (sa : Sll w Aa ca a) (sb : Sll w Ab cb b) (sv : Sl w Av cv v) :
    Calls Try.prog 3 #[.agg #[.int .u64 p, .slice Aa a.length ca, .slice Ab b.length cb, .slice Av v.length cv]] w fun e w' => e = .returned (.bool true) ∧ Below w.heap.size w w' := by
  have hv0 := hv
  rw [Bool.and_eq_true, Bool.and_eq_true] at hv0
  obtain ⟨hp, za, ea, na, la⟩ := fair_is (by omega) wa hv0.1.1
  obtain ⟨_, zb, eb, nb, lb⟩ := fair_is (by omega) wb hv0.1.2
  obtain ⟨ev, nv⟩ := bel_is wv hv0.2
  have hbd := hp.bd
  have gv := fun W h1 h2 h3 => valid_any p Aa Ab Av ca cb cv a b v W h1 h2 h3
  rw [hv] at gv
  obtain ⟨ra, rb, nab⟩ := mulB_iff.1 h1
  have hAB := mulM_mat (p := p) (by omega) a b
  have lb0 : ncol b ≤ 10 := lb 0
  have zAB : Sized (mulM p a b) := hAB.sized (by omega) (by omega)
  replace sa := sa.push (.cells #[.int .u64 p, .slice Aa a.length ca, .slice Ab b.length cb, .slice Av v.length cv] 26)
  replace sb := sb.push (.cells #[.int .u64 p, .slice Aa a.length ca, .slice Ab b.length cb, .slice Av v.length cv] 26)
  replace sv := sv.push (.cells #[.int .u64 p, .slice Aa a.length ca, .slice Ab b.length cb, .slice Av v.length cv] 26)
  have k0 : (w.alloc (.cells #[.int .u64 p, .slice Aa a.length ca, .slice Ab b.length cb, .slice Av v.length cv] 26)).cell? ⟨w.heap.size, 0, none⟩ = some (.int .u64 p) := by go_simp
  have k1 : (w.alloc (.cells #[.int .u64 p, .slice Aa a.length ca, .slice Ab b.length cb, .slice Av v.length cv] 26)).cell? ⟨w.heap.size, 1, none⟩ = some (.slice Aa a.length ca) := by go_simp
  have k2 : (w.alloc (.cells #[.int .u64 p, .slice Aa a.length ca, .slice Ab b.length cb, .slice Av v.length cv] 26)).cell? ⟨w.heap.size, 2, none⟩ = some (.slice Ab b.length cb) := by go_simp
  have k3 : (w.alloc (.cells #[.int .u64 p, .slice Aa a.length ca, .slice Ab b.length cb, .slice Av v.length cv] 26)).cell? ⟨w.heap.size, 3, none⟩ = some (.slice Av v.length cv) := by go_simp
  have hq : w.heap.size < (w.alloc (.cells #[.int .u64 p, .slice Aa a.length ca, .slice Ab b.length cb, .slice Av v.length cv] 26)).heap.size := by simp
  have hB := bnew (Below.refl w.heap.size w) (.cells #[.int .u64 p, .slice Aa a.length ca, .slice Ab b.length cb, .slice Av v.length cv] 26) (Nat.le_refl _)
  go_enter Try.func3, Try.ntmps3
  go_wp2_with fail
  refine (gv _ sa sb sv).mono ?_
  rintro e w1 ⟨rfl, hb⟩
  replace sa := sa.next hb
  replace sb := sb.next hb
  replace sv := sv.next hb
  replace hB := hB.trans (hb.mono hB.size)
  replace k0 := (hb.cell (p := ⟨w.heap.size, 0, none⟩) hq).trans k0
  replace k1 := (hb.cell (p := ⟨w.heap.size, 1, none⟩) hq).trans k1
  replace k2 := (hb.cell (p := ⟨w.heap.size, 2, none⟩) hq).trans k2
  replace k3 := (hb.cell (p := ⟨w.heap.size, 3, none⟩) hq).trans k3
  replace hq := Nat.lt_of_lt_of_le hq hb.size
  clear hb
  go_wp2_with fail
  refine (mul_ok p hp Aa Ab ca cb a b za zb ea eb ra rb nab _ sa sb).mono ?_
  rintro e w2 ⟨A1, c1, rfl, s1, hb⟩
  replace sa := sa.next hb
  replace sb := sb.next hb
  replace sv := sv.next hb
  replace hB := hB.trans (hb.mono hB.size)
  replace k0 := (hb.cell (p := ⟨w.heap.size, 0, none⟩) hq).trans k0
  replace k1 := (hb.cell (p := ⟨w.heap.size, 1, none⟩) hq).trans k1
  replace k2 := (hb.cell (p := ⟨w.heap.size, 2, none⟩) hq).trans k2
  replace k3 := (hb.cell (p := ⟨w.heap.size, 3, none⟩) hq).trans k3
  replace hq := Nat.lt_of_lt_of_le hq hb.size
  clear hb
  go_wp2_with fail
  refine (rMul_ok p hp Aa Ab ca cb a b za zb ea eb ra rb nab _ sa sb).mono ?_
  rintro e w3 ⟨A2, c2, rfl, s2, hb⟩
  replace sa := sa.next hb
  replace sb := sb.next hb
  replace sv := sv.next hb
  replace s1 := s1.next hb
  replace hB := hB.trans (hb.mono hB.size)
  replace k0 := (hb.cell (p := ⟨w.heap.size, 0, none⟩) hq).trans k0
  replace k1 := (hb.cell (p := ⟨w.heap.size, 1, none⟩) hq).trans k1
  replace k2 := (hb.cell (p := ⟨w.heap.size, 2, none⟩) hq).trans k2
  replace k3 := (hb.cell (p := ⟨w.heap.size, 3, none⟩) hq).trans k3
  replace hq := Nat.lt_of_lt_of_le hq hb.size
  clear hb
  go_wp2_with fail
  refine (apply_bad2 p Aa Av ca cv a v za hr hn _ sa).mono ?_
  rintro e w4 ⟨rfl, hb⟩
  replace sa := sa.next hb
  replace sb := sb.next hb
  replace sv := sv.next hb
  replace s1 := s1.next hb
  replace s2 := s2.next hb
  replace hB := hB.trans (hb.mono hB.size)
  replace k0 := (hb.cell (p := ⟨w.heap.size, 0, none⟩) hq).trans k0
  replace k1 := (hb.cell (p := ⟨w.heap.size, 1, none⟩) hq).trans k1
  replace k2 := (hb.cell (p := ⟨w.heap.size, 2, none⟩) hq).trans k2
  replace k3 := (hb.cell (p := ⟨w.heap.size, 3, none⟩) hq).trans k3
  replace hq := Nat.lt_of_lt_of_le hq hb.size
  clear hb
  go_wp2_with fail
  refine (rApply_bad2 p Aa Av ca cv a v za hr hn _ sa).mono ?_
  rintro e w5 ⟨rfl, hb⟩
  replace sa := sa.next hb
  replace sb := sb.next hb
  replace sv := sv.next hb
  replace s1 := s1.next hb
  replace s2 := s2.next hb
  replace hB := hB.trans (hb.mono hB.size)
  replace k0 := (hb.cell (p := ⟨w.heap.size, 0, none⟩) hq).trans k0
  replace k1 := (hb.cell (p := ⟨w.heap.size, 1, none⟩) hq).trans k1
  replace k2 := (hb.cell (p := ⟨w.heap.size, 2, none⟩) hq).trans k2
  replace k3 := (hb.cell (p := ⟨w.heap.size, 3, none⟩) hq).trans k3
  replace hq := Nat.lt_of_lt_of_le hq hb.size
  clear hb
  go_wp2_with fail
  refine (awake_any _).mono ?_
  rintro e w6 ⟨rfl, hb⟩
  replace sa := sa.next hb
  replace sb := sb.next hb
  replace sv := sv.next hb
  replace s1 := s1.next hb
  replace s2 := s2.next hb
  replace hB := hB.trans (hb.mono hB.size)
  replace k0 := (hb.cell (p := ⟨w.heap.size, 0, none⟩) hq).trans k0
  replace k1 := (hb.cell (p := ⟨w.heap.size, 1, none⟩) hq).trans k1
  replace k2 := (hb.cell (p := ⟨w.heap.size, 2, none⟩) hq).trans k2
  replace k3 := (hb.cell (p := ⟨w.heap.size, 3, none⟩) hq).trans k3
  replace hq := Nat.lt_of_lt_of_le hq hb.size
  clear hb
  go_wp2_with fail
  refine (sameM_b _ _ (mulM p a b) _ _ _ s1 s2 zAB).mono ?_
  rintro e w7 ⟨rfl, hb⟩
  replace sa := sa.next hb
  replace sb := sb.next hb
  replace sv := sv.next hb
  replace s1 := s1.next hb
  replace s2 := s2.next hb
  replace hB := hB.trans (hb.mono hB.size)
  replace k0 := (hb.cell (p := ⟨w.heap.size, 0, none⟩) hq).trans k0
  replace k1 := (hb.cell (p := ⟨w.heap.size, 1, none⟩) hq).trans k1
  replace k2 := (hb.cell (p := ⟨w.heap.size, 2, none⟩) hq).trans k2
  replace k3 := (hb.cell (p := ⟨w.heap.size, 3, none⟩) hq).trans k3
  replace hq := Nat.lt_of_lt_of_le hq hb.size
  clear hb
  go_wp2_with fail
  refine (sameL_b none none [] 0 0 _ (Sl.nothing _) (Sl.nothing _) (by decide)).mono ?_
  rintro e w8 ⟨rfl, hb⟩
  replace sa := sa.next hb
  replace sb := sb.next hb
  replace sv := sv.next hb
  replace s1 := s1.next hb
  replace s2 := s2.next hb
  replace hB := hB.trans (hb.mono hB.size)
  replace k0 := (hb.cell (p := ⟨w.heap.size, 0, none⟩) hq).trans k0
  replace k1 := (hb.cell (p := ⟨w.heap.size, 1, none⟩) hq).trans k1
  replace k2 := (hb.cell (p := ⟨w.heap.size, 2, none⟩) hq).trans k2
  replace k3 := (hb.cell (p := ⟨w.heap.size, 3, none⟩) hq).trans k3
  replace hq := Nat.lt_of_lt_of_le hq hb.size
  clear hb
  go_wp2_with fail
  go_ret
  exact ⟨rfl, hB⟩

set_option maxRecDepth 100000 in
set_option maxHeartbeats 4000000 in
theorem walk_12 (p : Int) (Aa : Option Addr) (ca : Nat) (a : List (List Int)) (Ab : Option Addr) (cb : Nat) (b : List (List Int)) (Av : Option Addr) (cv : Nat) (v : List Int) (wa : ∀ r ∈ a, Words r) (wb : ∀ r ∈ b, Words r) (wv : Words v) (hv : (fairB p a 10 && fairB p b 10 && belB p v 10) = true) (h1 : mulB a b = true) (hr : rect a = true) (hn : ncol a = v.length) (w : World) (sa : Sll w Aa ca a) (sb : Sll w Ab cb b) (sv : Sl w Av cv v) :
    Calls Try.prog 3 #[.agg #[.int .u64 p, .slice Aa a.length ca, .slice Ab b.length cb, .slice Av v.length cv]] w fun e w' => e = .returned (.bool true) ∧ Below w.heap.size w w' := by
  have hv0 := hv
  rw [Bool.and_eq_true, Bool.and_eq_true] at hv0
  obtain ⟨hp, za, ea, na, la⟩ := fair_is (by omega) wa hv0.1.1
  obtain ⟨_, zb, eb, nb, lb⟩ := fair_is (by omega) wb hv0.1.2
  obtain ⟨ev, nv⟩ := bel_is wv hv0.2
  have hbd := hp.bd
  have gv := fun W h1 h2 h3 => valid_any p Aa Ab Av ca cb cv a b v W h1 h2 h3
  rw [hv] at gv
  obtain ⟨ra, rb, nab⟩ := mulB_iff.1 h1
  have hAB := mulM_mat (p := p) (by omega) a b
  have lb0 : ncol b ≤ 10 := lb 0
  have zAB : Sized (mulM p a b) := hAB.sized (by omega) (by omega)
  replace sa := sa.push (.cells #[.int .u64 p, .slice Aa a.length ca, .slice Ab b.length cb, .slice Av v.length cv] 26)
  replace sb := sb.push (.cells #[.int .u64 p, .slice Aa a.length ca, .slice Ab b.length cb, .slice Av v.length cv] 26)
  replace sv := sv.push (.cells #[.int .u64 p, .slice Aa a.length ca, .slice Ab b.length cb, .slice Av v.length cv] 26)
  have k0 : (w.alloc (.cells #[.int .u64 p, .slice Aa a.length ca, .slice Ab b.length cb, .slice Av v.length cv] 26)).cell? ⟨w.heap.size, 0, none⟩ = some (.int .u64 p) := by go_simp
  have k1 : (w.alloc (.cells #[.int .u64 p, .slice Aa a.length ca, .slice Ab b.length cb, .slice Av v.length cv] 26)).cell? ⟨w.heap.size, 1, none⟩ = some (.slice Aa a.length ca) := by go_simp
  have k2 : (w.alloc (.cells #[.int .u64 p, .slice Aa a.length ca, .slice Ab b.length cb, .slice Av v.length cv] 26)).cell? ⟨w.heap.size, 2, none⟩ = some (.slice Ab b.length cb) := by go_simp
  have k3 : (w.alloc (.cells #[.int .u64 p, .slice Aa a.length ca, .slice Ab b.length cb, .slice Av v.length cv] 26)).cell? ⟨w.heap.size, 3, none⟩ = some (.slice Av v.length cv) := by go_simp
  have hq : w.heap.size < (w.alloc (.cells #[.int .u64 p, .slice Aa a.length ca, .slice Ab b.length cb, .slice Av v.length cv] 26)).heap.size := by simp
  have hB := bnew (Below.refl w.heap.size w) (.cells #[.int .u64 p, .slice Aa a.length ca, .slice Ab b.length cb, .slice Av v.length cv] 26) (Nat.le_refl _)
  go_enter Try.func3, Try.ntmps3
  go_wp2_with fail
  refine (gv _ sa sb sv).mono ?_
  rintro e w1 ⟨rfl, hb⟩
  replace sa := sa.next hb
  replace sb := sb.next hb
  replace sv := sv.next hb
  replace hB := hB.trans (hb.mono hB.size)
  replace k0 := (hb.cell (p := ⟨w.heap.size, 0, none⟩) hq).trans k0
  replace k1 := (hb.cell (p := ⟨w.heap.size, 1, none⟩) hq).trans k1
  replace k2 := (hb.cell (p := ⟨w.heap.size, 2, none⟩) hq).trans k2
  replace k3 := (hb.cell (p := ⟨w.heap.size, 3, none⟩) hq).trans k3
  replace hq := Nat.lt_of_lt_of_le hq hb.size
  clear hb
  go_wp2_with fail
  refine (mul_ok p hp Aa Ab ca cb a b za zb ea eb ra rb nab _ sa sb).mono ?_
  rintro e w2 ⟨A1, c1, rfl, s1, hb⟩
  replace sa := sa.next hb
  replace sb := sb.next hb
  replace sv := sv.next hb
  replace hB := hB.trans (hb.mono hB.size)
  replace k0 := (hb.cell (p := ⟨w.heap.size, 0, none⟩) hq).trans k0
  replace k1 := (hb.cell (p := ⟨w.heap.size, 1, none⟩) hq).trans k1
  replace k2 := (hb.cell (p := ⟨w.heap.size, 2, none⟩) hq).trans k2
  replace k3 := (hb.cell (p := ⟨w.heap.size, 3, none⟩) hq).trans k3
  replace hq := Nat.lt_of_lt_of_le hq hb.size
  clear hb
  go_wp2_with fail
  refine (rMul_ok p hp Aa Ab ca cb a b za zb ea eb ra rb nab _ sa sb).mono ?_
  rintro e w3 ⟨A2, c2, rfl, s2, hb⟩
  replace sa := sa.next hb
  replace sb := sb.next hb
  replace sv := sv.next hb
  replace s1 := s1.next hb
  replace hB := hB.trans (hb.mono hB.size)
  replace k0 := (hb.cell (p := ⟨w.heap.size, 0, none⟩) hq).trans k0
  replace k1 := (hb.cell (p := ⟨w.heap.size, 1, none⟩) hq).trans k1
  replace k2 := (hb.cell (p := ⟨w.heap.size, 2, none⟩) hq).trans k2
  replace k3 := (hb.cell (p := ⟨w.heap.size, 3, none⟩) hq).trans k3
  replace hq := Nat.lt_of_lt_of_le hq hb.size
  clear hb
  go_wp2_with fail
  refine (apply_ok p hp Aa Av ca cv a v za ea ev hr hn _ sa sv).mono ?_
  rintro e w4 ⟨A3, c3, rfl, s3, hb⟩
  replace sa := sa.next hb
  replace sb := sb.next hb
  replace sv := sv.next hb
  replace s1 := s1.next hb
  replace s2 := s2.next hb
  replace hB := hB.trans (hb.mono hB.size)
  replace k0 := (hb.cell (p := ⟨w.heap.size, 0, none⟩) hq).trans k0
  replace k1 := (hb.cell (p := ⟨w.heap.size, 1, none⟩) hq).trans k1
  replace k2 := (hb.cell (p := ⟨w.heap.size, 2, none⟩) hq).trans k2
  replace k3 := (hb.cell (p := ⟨w.heap.size, 3, none⟩) hq).trans k3
  replace hq := Nat.lt_of_lt_of_le hq hb.size
  clear hb
  go_wp2_with fail
  refine (rApply_ok p hp Aa Av ca cv a v za ea ev hr hn _ sa sv).mono ?_
  rintro e w5 ⟨A4, c4, rfl, s4, hb⟩
  replace sa := sa.next hb
  replace sb := sb.next hb
  replace sv := sv.next hb
  replace s1 := s1.next hb
  replace s2 := s2.next hb
  replace s3 := s3.next hb
  replace hB := hB.trans (hb.mono hB.size)
  replace k0 := (hb.cell (p := ⟨w.heap.size, 0, none⟩) hq).trans k0
  replace k1 := (hb.cell (p := ⟨w.heap.size, 1, none⟩) hq).trans k1
  replace k2 := (hb.cell (p := ⟨w.heap.size, 2, none⟩) hq).trans k2
  replace k3 := (hb.cell (p := ⟨w.heap.size, 3, none⟩) hq).trans k3
  replace hq := Nat.lt_of_lt_of_le hq hb.size
  clear hb
  go_wp2_with fail
  refine (awake_any _).mono ?_
  rintro e w6 ⟨rfl, hb⟩
  replace sa := sa.next hb
  replace sb := sb.next hb
  replace sv := sv.next hb
  replace s1 := s1.next hb
  replace s2 := s2.next hb
  replace s3 := s3.next hb
  replace s4 := s4.next hb
  replace hB := hB.trans (hb.mono hB.size)
  replace k0 := (hb.cell (p := ⟨w.heap.size, 0, none⟩) hq).trans k0
  replace k1 := (hb.cell (p := ⟨w.heap.size, 1, none⟩) hq).trans k1
  replace k2 := (hb.cell (p := ⟨w.heap.size, 2, none⟩) hq).trans k2
  replace k3 := (hb.cell (p := ⟨w.heap.size, 3, none⟩) hq).trans k3
  replace hq := Nat.lt_of_lt_of_le hq hb.size
  clear hb
  go_wp2_with fail
  refine (sameM_b _ _ (mulM p a b) _ _ _ s1 s2 zAB).mono ?_
  rintro e w7 ⟨rfl, hb⟩
  replace sa := sa.next hb
  replace sb := sb.next hb
  replace sv := sv.next hb
  replace s1 := s1.next hb
  replace s2 := s2.next hb
  replace s3 := s3.next hb
  replace s4 := s4.next hb
  replace hB := hB.trans (hb.mono hB.size)
  replace k0 := (hb.cell (p := ⟨w.heap.size, 0, none⟩) hq).trans k0
  replace k1 := (hb.cell (p := ⟨w.heap.size, 1, none⟩) hq).trans k1
  replace k2 := (hb.cell (p := ⟨w.heap.size, 2, none⟩) hq).trans k2
  replace k3 := (hb.cell (p := ⟨w.heap.size, 3, none⟩) hq).trans k3
  replace hq := Nat.lt_of_lt_of_le hq hb.size
  clear hb
  go_wp2_with fail
  refine (sameL_b _ _ (app p a v) _ _ _ s3 s4 (by rw [app_len]; omega)).mono ?_
  rintro e w8 ⟨rfl, hb⟩
  replace sa := sa.next hb
  replace sb := sb.next hb
  replace sv := sv.next hb
  replace s1 := s1.next hb
  replace s2 := s2.next hb
  replace s3 := s3.next hb
  replace s4 := s4.next hb
  replace hB := hB.trans (hb.mono hB.size)
  replace k0 := (hb.cell (p := ⟨w.heap.size, 0, none⟩) hq).trans k0
  replace k1 := (hb.cell (p := ⟨w.heap.size, 1, none⟩) hq).trans k1
  replace k2 := (hb.cell (p := ⟨w.heap.size, 2, none⟩) hq).trans k2
  replace k3 := (hb.cell (p := ⟨w.heap.size, 3, none⟩) hq).trans k3
  replace hq := Nat.lt_of_lt_of_le hq hb.size
  clear hb
  go_wp2_with fail
  go_ret
  exact ⟨rfl, hB⟩

set_option maxRecDepth 100000 in
set_option maxHeartbeats 4000000 in
theorem walk (p : Int) (Aa : Option Addr) (ca : Nat) (a : List (List Int)) (Ab : Option Addr) (cb : Nat) (b : List (List Int)) (Av : Option Addr) (cv : Nat) (v : List Int) (wa : ∀ r ∈ a, Words r) (wb : ∀ r ∈ b, Words r) (wv : Words v)  (w : World) (sa : Sll w Aa ca a) (sb : Sll w Ab cb b) (sv : Sl w Av cv v) :
    Calls Try.prog 3 #[.agg #[.int .u64 p, .slice Aa a.length ca, .slice Ab b.length cb, .slice Av v.length cv]] w fun e w' => e = .returned (.bool true) ∧ Below w.heap.size w w' := by
  cases hv : (fairB p a 10 && fairB p b 10 && belB p v 10) with
  | false => exact walk_invalid p Aa ca a Ab cb b Av cv v wa wb wv hv w sa sb sv
  | true =>
    cases h1 : mulB a b with
    | false =>
      cases hr : rect a with
      | false => exact walk_00 p Aa ca a Ab cb b Av cv v wa wb wv hv h1 hr w sa sb sv
      | true =>
        by_cases hn : ncol a = v.length
        · exact walk_02 p Aa ca a Ab cb b Av cv v wa wb wv hv h1 hr hn w sa sb sv
        · exact walk_01 p Aa ca a Ab cb b Av cv v wa wb wv hv h1 hr hn w sa sb sv
    | true =>
      cases hr : rect a with
      | false => exact walk_10 p Aa ca a Ab cb b Av cv v wa wb wv hv h1 hr w sa sb sv
      | true =>
        by_cases hn : ncol a = v.length
        · exact walk_12 p Aa ca a Ab cb b Av cv v wa wb wv hv h1 hr hn w sa sb sv
        · exact walk_11 p Aa ca a Ab cb b Av cv v wa wb wv hv h1 hr hn w sa sb sv

set_option maxRecDepth 100000 in
theorem lifted (os : Os) (started : os.Started) (H : Type) (enc : TypeId × Value → H) :
    ReturnsInHanded {} Try.checked os 3 .any (Rows.matrixProductSpec.pre6 enc Try.prog Try.f3 Rows.matrixProductRow.domain false) (Rows.matrixProductSpec.post enc Try.prog Try.f3 false true false false) := by
  refine returnsInHanded_of_change (C := Try.checked) own started (by kernel_rfl) Try.func3
    (ChangeSpec.witness6 (enc := enc) (C := Try.checked) false ⟨#[], #[.agg #[.int .u64 0, .slice none 0 0, .slice none 0 0, .slice none 0 0]], []⟩ 8 (by kernel_rfl) (by kernel_rfl) (by kernel_rfl) (by kernel_rfl)) ?_
  intro W base args ds gs before hval0 hW hcnd _
  have hval : ∀ (j : Nat) t v, Try.f3.params[j]? = some t → args[j]? = some v → Value.okWide Try.prog W .any base t v := hval0
  have hW' := hW
  obtain ⟨p, q, hA0, hV, rfl, hfz, hnd⟩ := hW
  have hA : DataW.TrodAll enc Try.prog W 0 (fun _ => true) true Try.f3.params.toList args.toList ds p := hA0
  rw [Try.params3] at hA hval
  obtain ⟨v0, d0, rfl, rfl, t0⟩ := trodAll_one hA
  obtain ⟨rfl, rfl⟩ := trodVars_none hV
  clear hA0 hval0
  simp only [List.append_nil] at hW'
  have l0 : ∀ x ∈ p, x.block < W.heap.size := fun x hx => hW'.lt x (by simp [hx])
  obtain ⟨x0, A0, a0, ca0, B0, b0, cb0, V0, u0, cu0, rfl, _, sa0, wa0, sb0, wb0, sv0, wv0⟩ := arg_ops (hval 0 26 v0 rfl rfl) t0 l0
  refine (walk x0 A0 ca0 a0 B0 cb0 b0 V0 cu0 u0 wa0 wb0 wv0 W sa0 sb0 sv0).mono fun e W' ⟨he, hb⟩ => ?_
  subst he
  exact ⟨_, rfl, post_of_below (pa := p) (pv := []) hW' (fun _ _ _ => (trodAll_cons_mk (shut_bool Try.underlying4 _) trodAll_mk0)) (fun sp hsp => trodAll_mk1 (stay_ops t0 hb l0 sp (fun x hx => hsp x (by simp [hx])))) (fun _ _ => rfl) (by simp)
    hb (ok_one (by kernel_rfl) rfl (okWide_bool_mk Try.underlying4 _))⟩

theorem over : Rows.matrixProductRow.holds Try.pinned (OpenSpec.ofChange Rows.matrixProductSpec) :=
  OpenClaim.holds_of_wide 3 Try.f3 rfl rfl rfl rfl rfl rfl rfl ⟨rfl, rfl, rfl, rfl, rfl⟩ rfl rfl rfl rfl rfl (by kernel_rfl) Try.func3 (by kernel_rfl)
    (of_decide_eq_true (by kernel_rfl)) (by unfold Func.isWrapper; first | (rw [if_pos (by decide +kernel)]; kernel_rfl) | (rw [if_neg (by decide +kernel)]; exact ⟨rfl, rfl⟩))
    (fun os started H enc _ => lifted os started H enc)

theorem proved : Rows.MatrixProductSaid := over
end Go.Proofs.Ytgkhngiiimnchaa.matrixProduct
