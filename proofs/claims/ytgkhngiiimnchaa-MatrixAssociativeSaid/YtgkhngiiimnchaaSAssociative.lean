/- Products are associative, determinants are multiplicative, and the rank of a product does not exceed the rank of a factor. No conditions. -/
import Derived.Test.YtgkhngiiimnchaaRGen
namespace Go.Proofs.Ytgkhngiiimnchaa.matrixAssociative
open Go.ChangeShapes Go.WideShapes Go.ChangeAt Go.RowKit PolyMath FieldMath MatMath

set_option maxRecDepth 100000 in
set_option maxHeartbeats 4000000 in
theorem walk_invalid (p : Int) (Aa : Option Addr) (ca : Nat) (a : List (List Int)) (Ab : Option Addr) (cb : Nat) (b : List (List Int)) (Av : Option Addr) (cv : Nat) (v : List Int) (Ac : Option Addr) (cc : Nat) (c : List (List Int)) (_wa : ∀ r ∈ a, Words r) (_wb : ∀ r ∈ b, Words r) (_wv : Words v) (_wc : ∀ r ∈ c, Words r) (_lc : c.length ≤ 9223372036854775807) (hv : (fairB p a 10 && fairB p b 10 && belB p v 10) = false) (w : World) (sa : Sll w Aa ca a) (sb : Sll w Ab cb b) (sv : Sl w Av cv v) (sc : Sll w Ac cc c) :
    Calls Try.prog 8 #[.agg #[.int .u64 p, .slice Aa a.length ca, .slice Ab b.length cb, .slice Av v.length cv], .slice Ac c.length cc] w fun e w' => e = .returned (.bool true) ∧ Below w.heap.size w w' := by
  have gv := fun W h1 h2 h3 => valid_any p Aa Ab Av ca cb cv a b v W h1 h2 h3
  rw [hv] at gv
  replace sa := sa.push (.cells #[.int .u64 p, .slice Aa a.length ca, .slice Ab b.length cb, .slice Av v.length cv] 26)
  replace sb := sb.push (.cells #[.int .u64 p, .slice Aa a.length ca, .slice Ab b.length cb, .slice Av v.length cv] 26)
  replace sv := sv.push (.cells #[.int .u64 p, .slice Aa a.length ca, .slice Ab b.length cb, .slice Av v.length cv] 26)
  replace sc := sc.push (.cells #[.int .u64 p, .slice Aa a.length ca, .slice Ab b.length cb, .slice Av v.length cv] 26)
  have k0 : (w.alloc (.cells #[.int .u64 p, .slice Aa a.length ca, .slice Ab b.length cb, .slice Av v.length cv] 26)).cell? ⟨w.heap.size, 0, none⟩ = some (.int .u64 p) := by go_simp
  have k1 : (w.alloc (.cells #[.int .u64 p, .slice Aa a.length ca, .slice Ab b.length cb, .slice Av v.length cv] 26)).cell? ⟨w.heap.size, 1, none⟩ = some (.slice Aa a.length ca) := by go_simp
  have k2 : (w.alloc (.cells #[.int .u64 p, .slice Aa a.length ca, .slice Ab b.length cb, .slice Av v.length cv] 26)).cell? ⟨w.heap.size, 2, none⟩ = some (.slice Ab b.length cb) := by go_simp
  have k3 : (w.alloc (.cells #[.int .u64 p, .slice Aa a.length ca, .slice Ab b.length cb, .slice Av v.length cv] 26)).cell? ⟨w.heap.size, 3, none⟩ = some (.slice Av v.length cv) := by go_simp
  have hq : w.heap.size < (w.alloc (.cells #[.int .u64 p, .slice Aa a.length ca, .slice Ab b.length cb, .slice Av v.length cv] 26)).heap.size := by simp
  have hB := bnew (Below.refl w.heap.size w) (.cells #[.int .u64 p, .slice Aa a.length ca, .slice Ab b.length cb, .slice Av v.length cv] 26) (Nat.le_refl _)
  go_enter Try.func8, Try.ntmps8
  go_wp2_with fail
  refine (gv _ sa sb sv).mono ?_
  rintro e w1 ⟨rfl, hb⟩
  replace sa := sa.next hb
  replace sb := sb.next hb
  replace sv := sv.next hb
  replace sc := sc.next hb
  replace hB := hB.trans (hb.mono hB.size)
  replace k0 := (hb.cell (p := ⟨w.heap.size, 0, none⟩) hq).trans k0
  replace k1 := (hb.cell (p := ⟨w.heap.size, 1, none⟩) hq).trans k1
  replace k2 := (hb.cell (p := ⟨w.heap.size, 2, none⟩) hq).trans k2
  replace k3 := (hb.cell (p := ⟨w.heap.size, 3, none⟩) hq).trans k3
  replace hq := Nat.lt_of_lt_of_le hq hb.size
  clear hb
  go_wp2_with fail
  refine (awake_any _).mono ?_
  rintro e w2 ⟨rfl, hb⟩
  replace sa := sa.next hb
  replace sb := sb.next hb
  replace sv := sv.next hb
  replace sc := sc.next hb
  replace hB := hB.trans (hb.mono hB.size)
  replace k0 := (hb.cell (p := ⟨w.heap.size, 0, none⟩) hq).trans k0
  replace k1 := (hb.cell (p := ⟨w.heap.size, 1, none⟩) hq).trans k1
  replace k2 := (hb.cell (p := ⟨w.heap.size, 2, none⟩) hq).trans k2
  replace k3 := (hb.cell (p := ⟨w.heap.size, 3, none⟩) hq).trans k3
  replace hq := Nat.lt_of_lt_of_le hq hb.size
  clear hb
  go_wp2_with fail
  go_ret
  exact ⟨rfl, hB⟩

set_option maxRecDepth 100000 in
set_option maxHeartbeats 4000000 in
theorem walk_unfair (p : Int) (Aa : Option Addr) (ca : Nat) (a : List (List Int)) (Ab : Option Addr) (cb : Nat) (b : List (List Int)) (Av : Option Addr) (cv : Nat) (v : List Int) (Ac : Option Addr) (cc : Nat) (c : List (List Int)) (_wa : ∀ r ∈ a, Words r) (_wb : ∀ r ∈ b, Words r) (_wv : Words v) (_wc : ∀ r ∈ c, Words r) (_lc : c.length ≤ 9223372036854775807) (hv : (fairB p a 10 && fairB p b 10 && belB p v 10) = true) (hc : fairB p c 6 = false) (w : World) (sa : Sll w Aa ca a) (sb : Sll w Ab cb b) (sv : Sl w Av cv v) (sc : Sll w Ac cc c) :
    Calls Try.prog 8 #[.agg #[.int .u64 p, .slice Aa a.length ca, .slice Ab b.length cb, .slice Av v.length cv], .slice Ac c.length cc] w fun e w' => e = .returned (.bool true) ∧ Below w.heap.size w w' := by
  have gv := fun W h1 h2 h3 => valid_any p Aa Ab Av ca cb cv a b v W h1 h2 h3
  rw [hv] at gv
  have gc := fun W (h : Sll W Ac cc c) => fair_any p Ac cc 6 c (by omega) W h
  rw [hc] at gc
  replace sa := sa.push (.cells #[.int .u64 p, .slice Aa a.length ca, .slice Ab b.length cb, .slice Av v.length cv] 26)
  replace sb := sb.push (.cells #[.int .u64 p, .slice Aa a.length ca, .slice Ab b.length cb, .slice Av v.length cv] 26)
  replace sv := sv.push (.cells #[.int .u64 p, .slice Aa a.length ca, .slice Ab b.length cb, .slice Av v.length cv] 26)
  replace sc := sc.push (.cells #[.int .u64 p, .slice Aa a.length ca, .slice Ab b.length cb, .slice Av v.length cv] 26)
  have k0 : (w.alloc (.cells #[.int .u64 p, .slice Aa a.length ca, .slice Ab b.length cb, .slice Av v.length cv] 26)).cell? ⟨w.heap.size, 0, none⟩ = some (.int .u64 p) := by go_simp
  have k1 : (w.alloc (.cells #[.int .u64 p, .slice Aa a.length ca, .slice Ab b.length cb, .slice Av v.length cv] 26)).cell? ⟨w.heap.size, 1, none⟩ = some (.slice Aa a.length ca) := by go_simp
  have k2 : (w.alloc (.cells #[.int .u64 p, .slice Aa a.length ca, .slice Ab b.length cb, .slice Av v.length cv] 26)).cell? ⟨w.heap.size, 2, none⟩ = some (.slice Ab b.length cb) := by go_simp
  have k3 : (w.alloc (.cells #[.int .u64 p, .slice Aa a.length ca, .slice Ab b.length cb, .slice Av v.length cv] 26)).cell? ⟨w.heap.size, 3, none⟩ = some (.slice Av v.length cv) := by go_simp
  have hq : w.heap.size < (w.alloc (.cells #[.int .u64 p, .slice Aa a.length ca, .slice Ab b.length cb, .slice Av v.length cv] 26)).heap.size := by simp
  have hB := bnew (Below.refl w.heap.size w) (.cells #[.int .u64 p, .slice Aa a.length ca, .slice Ab b.length cb, .slice Av v.length cv] 26) (Nat.le_refl _)
  go_enter Try.func8, Try.ntmps8
  go_wp2_with fail
  refine (gv _ sa sb sv).mono ?_
  rintro e w1 ⟨rfl, hb⟩
  replace sa := sa.next hb
  replace sb := sb.next hb
  replace sv := sv.next hb
  replace sc := sc.next hb
  replace hB := hB.trans (hb.mono hB.size)
  replace k0 := (hb.cell (p := ⟨w.heap.size, 0, none⟩) hq).trans k0
  replace k1 := (hb.cell (p := ⟨w.heap.size, 1, none⟩) hq).trans k1
  replace k2 := (hb.cell (p := ⟨w.heap.size, 2, none⟩) hq).trans k2
  replace k3 := (hb.cell (p := ⟨w.heap.size, 3, none⟩) hq).trans k3
  replace hq := Nat.lt_of_lt_of_le hq hb.size
  clear hb
  go_wp2_with fail
  refine (gc _ sc).mono ?_
  rintro e w2 ⟨rfl, hb⟩
  replace sa := sa.next hb
  replace sb := sb.next hb
  replace sv := sv.next hb
  replace sc := sc.next hb
  replace hB := hB.trans (hb.mono hB.size)
  replace k0 := (hb.cell (p := ⟨w.heap.size, 0, none⟩) hq).trans k0
  replace k1 := (hb.cell (p := ⟨w.heap.size, 1, none⟩) hq).trans k1
  replace k2 := (hb.cell (p := ⟨w.heap.size, 2, none⟩) hq).trans k2
  replace k3 := (hb.cell (p := ⟨w.heap.size, 3, none⟩) hq).trans k3
  replace hq := Nat.lt_of_lt_of_le hq hb.size
  clear hb
  go_wp2_with fail
  refine (awake_any _).mono ?_
  rintro e w3 ⟨rfl, hb⟩
  replace sa := sa.next hb
  replace sb := sb.next hb
  replace sv := sv.next hb
  replace sc := sc.next hb
  replace hB := hB.trans (hb.mono hB.size)
  replace k0 := (hb.cell (p := ⟨w.heap.size, 0, none⟩) hq).trans k0
  replace k1 := (hb.cell (p := ⟨w.heap.size, 1, none⟩) hq).trans k1
  replace k2 := (hb.cell (p := ⟨w.heap.size, 2, none⟩) hq).trans k2
  replace k3 := (hb.cell (p := ⟨w.heap.size, 3, none⟩) hq).trans k3
  replace hq := Nat.lt_of_lt_of_le hq hb.size
  clear hb
  go_wp2_with fail
  go_ret
  exact ⟨rfl, hB⟩

set_option maxRecDepth 100000 in
set_option maxHeartbeats 4000000 in
theorem walk_ab (p : Int) (Aa : Option Addr) (ca : Nat) (a : List (List Int)) (Ab : Option Addr) (cb : Nat) (b : List (List Int)) (Av : Option Addr) (cv : Nat) (v : List Int) (Ac : Option Addr) (cc : Nat) (c : List (List Int)) (wa : ∀ r ∈ a, Words r) (wb : ∀ r ∈ b, Words r) (_wv : Words v) (wc : ∀ r ∈ c, Words r) (_lc : c.length ≤ 9223372036854775807) (hv : (fairB p a 10 && fairB p b 10 && belB p v 10) = true) (hc : fairB p c 6 = true) (h1 : mulB a b = false) (w : World) (sa : Sll w Aa ca a) (sb : Sll w Ab cb b) (sv : Sl w Av cv v) (sc : Sll w Ac cc c) :
    Calls Try.prog 8 #[.agg #[.int .u64 p, .slice Aa a.length ca, .slice Ab b.length cb, .slice Av v.length cv], .slice Ac c.length cc] w fun e w' => e = .returned (.bool true) ∧ Below w.heap.size w w' := by
  have hv0 := hv
  rw [Bool.and_eq_true, Bool.and_eq_true] at hv0
  obtain ⟨hp, za, ea, na, la⟩ := fair_is (by omega) wa hv0.1.1
  obtain ⟨_, zb, eb, nb, lb⟩ := fair_is (by omega) wb hv0.1.2
  obtain ⟨_, zc, ec, nc, lcc⟩ := fair_is (by omega) wc hc
  have hg := hp.good
  have hbd := hp.bd
  have gv := fun W h1 h2 h3 => valid_any p Aa Ab Av ca cb cv a b v W h1 h2 h3
  rw [hv] at gv
  have gc := fun W (h : Sll W Ac cc c) => fair_any p Ac cc 6 c (by omega) W h
  rw [hc] at gc
  replace sa := sa.push (.cells #[.int .u64 p, .slice Aa a.length ca, .slice Ab b.length cb, .slice Av v.length cv] 26)
  replace sb := sb.push (.cells #[.int .u64 p, .slice Aa a.length ca, .slice Ab b.length cb, .slice Av v.length cv] 26)
  replace sv := sv.push (.cells #[.int .u64 p, .slice Aa a.length ca, .slice Ab b.length cb, .slice Av v.length cv] 26)
  replace sc := sc.push (.cells #[.int .u64 p, .slice Aa a.length ca, .slice Ab b.length cb, .slice Av v.length cv] 26)
  have k0 : (w.alloc (.cells #[.int .u64 p, .slice Aa a.length ca, .slice Ab b.length cb, .slice Av v.length cv] 26)).cell? ⟨w.heap.size, 0, none⟩ = some (.int .u64 p) := by go_simp
  have k1 : (w.alloc (.cells #[.int .u64 p, .slice Aa a.length ca, .slice Ab b.length cb, .slice Av v.length cv] 26)).cell? ⟨w.heap.size, 1, none⟩ = some (.slice Aa a.length ca) := by go_simp
  have k2 : (w.alloc (.cells #[.int .u64 p, .slice Aa a.length ca, .slice Ab b.length cb, .slice Av v.length cv] 26)).cell? ⟨w.heap.size, 2, none⟩ = some (.slice Ab b.length cb) := by go_simp
  have k3 : (w.alloc (.cells #[.int .u64 p, .slice Aa a.length ca, .slice Ab b.length cb, .slice Av v.length cv] 26)).cell? ⟨w.heap.size, 3, none⟩ = some (.slice Av v.length cv) := by go_simp
  have hq : w.heap.size < (w.alloc (.cells #[.int .u64 p, .slice Aa a.length ca, .slice Ab b.length cb, .slice Av v.length cv] 26)).heap.size := by simp
  have hB := bnew (Below.refl w.heap.size w) (.cells #[.int .u64 p, .slice Aa a.length ca, .slice Ab b.length cb, .slice Av v.length cv] 26) (Nat.le_refl _)
  go_enter Try.func8, Try.ntmps8
  go_wp2_with fail
  refine (gv _ sa sb sv).mono ?_
  rintro e w1 ⟨rfl, hb⟩
  replace sa := sa.next hb
  replace sb := sb.next hb
  replace sv := sv.next hb
  replace sc := sc.next hb
  replace hB := hB.trans (hb.mono hB.size)
  replace k0 := (hb.cell (p := ⟨w.heap.size, 0, none⟩) hq).trans k0
  replace k1 := (hb.cell (p := ⟨w.heap.size, 1, none⟩) hq).trans k1
  replace k2 := (hb.cell (p := ⟨w.heap.size, 2, none⟩) hq).trans k2
  replace k3 := (hb.cell (p := ⟨w.heap.size, 3, none⟩) hq).trans k3
  replace hq := Nat.lt_of_lt_of_le hq hb.size
  clear hb
  go_wp2_with fail
  refine (gc _ sc).mono ?_
  rintro e w2 ⟨rfl, hb⟩
  replace sa := sa.next hb
  replace sb := sb.next hb
  replace sv := sv.next hb
  replace sc := sc.next hb
  replace hB := hB.trans (hb.mono hB.size)
  replace k0 := (hb.cell (p := ⟨w.heap.size, 0, none⟩) hq).trans k0
  replace k1 := (hb.cell (p := ⟨w.heap.size, 1, none⟩) hq).trans k1
  replace k2 := (hb.cell (p := ⟨w.heap.size, 2, none⟩) hq).trans k2
  replace k3 := (hb.cell (p := ⟨w.heap.size, 3, none⟩) hq).trans k3
  replace hq := Nat.lt_of_lt_of_le hq hb.size
  clear hb
  go_wp2_with fail
  refine (mul_bad p Aa Ab ca cb a b za zb h1 _ sa sb).mono ?_
  rintro e w3 ⟨rfl, hb⟩
  replace sa := sa.next hb
  replace sb := sb.next hb
  replace sv := sv.next hb
  replace sc := sc.next hb
  replace hB := hB.trans (hb.mono hB.size)
  replace k0 := (hb.cell (p := ⟨w.heap.size, 0, none⟩) hq).trans k0
  replace k1 := (hb.cell (p := ⟨w.heap.size, 1, none⟩) hq).trans k1
  replace k2 := (hb.cell (p := ⟨w.heap.size, 2, none⟩) hq).trans k2
  replace k3 := (hb.cell (p := ⟨w.heap.size, 3, none⟩) hq).trans k3
  replace hq := Nat.lt_of_lt_of_le hq hb.size
  clear hb
  go_wp2_with fail
  refine (mul_gen p hp Ab Ac cb cc b c zb zc eb ec _ sb sc).mono ?_
  rintro e w4 ⟨v9, x9, rfl, hb⟩
  replace sa := sa.next hb
  replace sb := sb.next hb
  replace sv := sv.next hb
  replace sc := sc.next hb
  replace hB := hB.trans (hb.mono hB.size)
  replace k0 := (hb.cell (p := ⟨w.heap.size, 0, none⟩) hq).trans k0
  replace k1 := (hb.cell (p := ⟨w.heap.size, 1, none⟩) hq).trans k1
  replace k2 := (hb.cell (p := ⟨w.heap.size, 2, none⟩) hq).trans k2
  replace k3 := (hb.cell (p := ⟨w.heap.size, 3, none⟩) hq).trans k3
  replace hq := Nat.lt_of_lt_of_le hq hb.size
  clear hb
  go_wp2_with fail
  refine (awake_any _).mono ?_
  rintro e w5 ⟨rfl, hb⟩
  replace sa := sa.next hb
  replace sb := sb.next hb
  replace sv := sv.next hb
  replace sc := sc.next hb
  replace hB := hB.trans (hb.mono hB.size)
  replace k0 := (hb.cell (p := ⟨w.heap.size, 0, none⟩) hq).trans k0
  replace k1 := (hb.cell (p := ⟨w.heap.size, 1, none⟩) hq).trans k1
  replace k2 := (hb.cell (p := ⟨w.heap.size, 2, none⟩) hq).trans k2
  replace k3 := (hb.cell (p := ⟨w.heap.size, 3, none⟩) hq).trans k3
  replace hq := Nat.lt_of_lt_of_le hq hb.size
  clear hb
  go_wp2_with fail
  go_ret
  exact ⟨rfl, hB⟩

set_option maxRecDepth 100000 in
set_option maxHeartbeats 4000000 in
theorem walk_bc (p : Int) (Aa : Option Addr) (ca : Nat) (a : List (List Int)) (Ab : Option Addr) (cb : Nat) (b : List (List Int)) (Av : Option Addr) (cv : Nat) (v : List Int) (Ac : Option Addr) (cc : Nat) (c : List (List Int)) (wa : ∀ r ∈ a, Words r) (wb : ∀ r ∈ b, Words r) (_wv : Words v) (wc : ∀ r ∈ c, Words r) (_lc : c.length ≤ 9223372036854775807) (hv : (fairB p a 10 && fairB p b 10 && belB p v 10) = true) (hc : fairB p c 6 = true) (h1 : mulB a b = true) (h2 : mulB b c = false) (w : World) (sa : Sll w Aa ca a) (sb : Sll w Ab cb b) (sv : Sl w Av cv v) (sc : Sll w Ac cc c) :
    Calls Try.prog 8 #[.agg #[.int .u64 p, .slice Aa a.length ca, .slice Ab b.length cb, .slice Av v.length cv], .slice Ac c.length cc] w fun e w' => e = .returned (.bool true) ∧ Below w.heap.size w w' := by
  have hv0 := hv
  rw [Bool.and_eq_true, Bool.and_eq_true] at hv0
  obtain ⟨hp, za, ea, na, la⟩ := fair_is (by omega) wa hv0.1.1
  obtain ⟨_, zb, eb, nb, lb⟩ := fair_is (by omega) wb hv0.1.2
  obtain ⟨_, zc, ec, nc, lcc⟩ := fair_is (by omega) wc hc
  have hg := hp.good
  have hbd := hp.bd
  have gv := fun W h1 h2 h3 => valid_any p Aa Ab Av ca cb cv a b v W h1 h2 h3
  rw [hv] at gv
  have gc := fun W (h : Sll W Ac cc c) => fair_any p Ac cc 6 c (by omega) W h
  rw [hc] at gc
  obtain ⟨ra, rb, nab⟩ := mulB_iff.1 h1
  have hAB := mulM_mat (p := p) (by omega) a b
  have lb0 : ncol b ≤ 10 := lb 0
  have zAB : Sized (mulM p a b) := hAB.sized (by omega) (by omega)
  have gab := fun W (q1 : Sll W Aa ca a) (q2 : Sll W Ab cb b) => mul_ok p hp Aa Ab ca cb a b za zb ea eb ra rb nab W q1 q2
  replace sa := sa.push (.cells #[.int .u64 p, .slice Aa a.length ca, .slice Ab b.length cb, .slice Av v.length cv] 26)
  replace sb := sb.push (.cells #[.int .u64 p, .slice Aa a.length ca, .slice Ab b.length cb, .slice Av v.length cv] 26)
  replace sv := sv.push (.cells #[.int .u64 p, .slice Aa a.length ca, .slice Ab b.length cb, .slice Av v.length cv] 26)
  replace sc := sc.push (.cells #[.int .u64 p, .slice Aa a.length ca, .slice Ab b.length cb, .slice Av v.length cv] 26)
  have k0 : (w.alloc (.cells #[.int .u64 p, .slice Aa a.length ca, .slice Ab b.length cb, .slice Av v.length cv] 26)).cell? ⟨w.heap.size, 0, none⟩ = some (.int .u64 p) := by go_simp
  have k1 : (w.alloc (.cells #[.int .u64 p, .slice Aa a.length ca, .slice Ab b.length cb, .slice Av v.length cv] 26)).cell? ⟨w.heap.size, 1, none⟩ = some (.slice Aa a.length ca) := by go_simp
  have k2 : (w.alloc (.cells #[.int .u64 p, .slice Aa a.length ca, .slice Ab b.length cb, .slice Av v.length cv] 26)).cell? ⟨w.heap.size, 2, none⟩ = some (.slice Ab b.length cb) := by go_simp
  have k3 : (w.alloc (.cells #[.int .u64 p, .slice Aa a.length ca, .slice Ab b.length cb, .slice Av v.length cv] 26)).cell? ⟨w.heap.size, 3, none⟩ = some (.slice Av v.length cv) := by go_simp
  have hq : w.heap.size < (w.alloc (.cells #[.int .u64 p, .slice Aa a.length ca, .slice Ab b.length cb, .slice Av v.length cv] 26)).heap.size := by simp
  have hB := bnew (Below.refl w.heap.size w) (.cells #[.int .u64 p, .slice Aa a.length ca, .slice Ab b.length cb, .slice Av v.length cv] 26) (Nat.le_refl _)
  go_enter Try.func8, Try.ntmps8
  go_wp2_with fail
  refine (gv _ sa sb sv).mono ?_
  rintro e w1 ⟨rfl, hb⟩
  replace sa := sa.next hb
  replace sb := sb.next hb
  replace sv := sv.next hb
  replace sc := sc.next hb
  replace hB := hB.trans (hb.mono hB.size)
  replace k0 := (hb.cell (p := ⟨w.heap.size, 0, none⟩) hq).trans k0
  replace k1 := (hb.cell (p := ⟨w.heap.size, 1, none⟩) hq).trans k1
  replace k2 := (hb.cell (p := ⟨w.heap.size, 2, none⟩) hq).trans k2
  replace k3 := (hb.cell (p := ⟨w.heap.size, 3, none⟩) hq).trans k3
  replace hq := Nat.lt_of_lt_of_le hq hb.size
  clear hb
  go_wp2_with fail
  refine (gc _ sc).mono ?_
  rintro e w2 ⟨rfl, hb⟩
  replace sa := sa.next hb
  replace sb := sb.next hb
  replace sv := sv.next hb
  replace sc := sc.next hb
  replace hB := hB.trans (hb.mono hB.size)
  replace k0 := (hb.cell (p := ⟨w.heap.size, 0, none⟩) hq).trans k0
  replace k1 := (hb.cell (p := ⟨w.heap.size, 1, none⟩) hq).trans k1
  replace k2 := (hb.cell (p := ⟨w.heap.size, 2, none⟩) hq).trans k2
  replace k3 := (hb.cell (p := ⟨w.heap.size, 3, none⟩) hq).trans k3
  replace hq := Nat.lt_of_lt_of_le hq hb.size
  clear hb
  go_wp2_with fail
  refine (gab _ sa sb).mono ?_
  rintro e w3 ⟨A1, c1, rfl, s1, hb⟩
  replace sa := sa.next hb
  replace sb := sb.next hb
  replace sv := sv.next hb
  replace sc := sc.next hb
  replace hB := hB.trans (hb.mono hB.size)
  replace k0 := (hb.cell (p := ⟨w.heap.size, 0, none⟩) hq).trans k0
  replace k1 := (hb.cell (p := ⟨w.heap.size, 1, none⟩) hq).trans k1
  replace k2 := (hb.cell (p := ⟨w.heap.size, 2, none⟩) hq).trans k2
  replace k3 := (hb.cell (p := ⟨w.heap.size, 3, none⟩) hq).trans k3
  replace hq := Nat.lt_of_lt_of_le hq hb.size
  clear hb
  go_wp2_with fail
  refine (mul_bad p Ab Ac cb cc b c zb zc h2 _ sb sc).mono ?_
  rintro e w4 ⟨rfl, hb⟩
  replace sa := sa.next hb
  replace sb := sb.next hb
  replace sv := sv.next hb
  replace sc := sc.next hb
  replace s1 := s1.next hb
  replace hB := hB.trans (hb.mono hB.size)
  replace k0 := (hb.cell (p := ⟨w.heap.size, 0, none⟩) hq).trans k0
  replace k1 := (hb.cell (p := ⟨w.heap.size, 1, none⟩) hq).trans k1
  replace k2 := (hb.cell (p := ⟨w.heap.size, 2, none⟩) hq).trans k2
  replace k3 := (hb.cell (p := ⟨w.heap.size, 3, none⟩) hq).trans k3
  replace hq := Nat.lt_of_lt_of_le hq hb.size
  clear hb
  go_wp2_with fail
  refine (awake_any _).mono ?_
  rintro e w5 ⟨rfl, hb⟩
  replace sa := sa.next hb
  replace sb := sb.next hb
  replace sv := sv.next hb
  replace sc := sc.next hb
  replace s1 := s1.next hb
  replace hB := hB.trans (hb.mono hB.size)
  replace k0 := (hb.cell (p := ⟨w.heap.size, 0, none⟩) hq).trans k0
  replace k1 := (hb.cell (p := ⟨w.heap.size, 1, none⟩) hq).trans k1
  replace k2 := (hb.cell (p := ⟨w.heap.size, 2, none⟩) hq).trans k2
  replace k3 := (hb.cell (p := ⟨w.heap.size, 3, none⟩) hq).trans k3
  replace hq := Nat.lt_of_lt_of_le hq hb.size
  clear hb
  go_wp2_with fail
  go_ret
  exact ⟨rfl, hB⟩

set_option maxRecDepth 100000 in
set_option maxHeartbeats 4000000 in
theorem walk_empty (p : Int) (Aa : Option Addr) (ca : Nat) (a : List (List Int)) (Ab : Option Addr) (cb : Nat) (b : List (List Int)) (Av : Option Addr) (cv : Nat) (v : List Int) (Ac : Option Addr) (cc : Nat) (c : List (List Int)) (wa : ∀ r ∈ a, Words r) (wb : ∀ r ∈ b, Words r) (_wv : Words v) (wc : ∀ r ∈ c, Words r) (_lc : c.length ≤ 9223372036854775807) (hv : (fairB p a 10 && fairB p b 10 && belB p v 10) = true) (hc : fairB p c 6 = true) (h1 : mulB a b = true) (h2 : mulB b c = true) (h0 : b.length = 0) (w : World) (sa : Sll w Aa ca a) (sb : Sll w Ab cb b) (sv : Sl w Av cv v) (sc : Sll w Ac cc c) :
    Calls Try.prog 8 #[.agg #[.int .u64 p, .slice Aa a.length ca, .slice Ab b.length cb, .slice Av v.length cv], .slice Ac c.length cc] w fun e w' => e = .returned (.bool true) ∧ Below w.heap.size w w' := by
  have hv0 := hv
  rw [Bool.and_eq_true, Bool.and_eq_true] at hv0
  obtain ⟨hp, za, ea, na, la⟩ := fair_is (by omega) wa hv0.1.1
  obtain ⟨_, zb, eb, nb, lb⟩ := fair_is (by omega) wb hv0.1.2
  obtain ⟨_, zc, ec, nc, lcc⟩ := fair_is (by omega) wc hc
  have hg := hp.good
  have hbd := hp.bd
  have gv := fun W h1 h2 h3 => valid_any p Aa Ab Av ca cb cv a b v W h1 h2 h3
  rw [hv] at gv
  have gc := fun W (h : Sll W Ac cc c) => fair_any p Ac cc 6 c (by omega) W h
  rw [hc] at gc
  obtain ⟨ra, rb, nab⟩ := mulB_iff.1 h1
  have hAB := mulM_mat (p := p) (by omega) a b
  have lb0 : ncol b ≤ 10 := lb 0
  have zAB : Sized (mulM p a b) := hAB.sized (by omega) (by omega)
  have gab := fun W (q1 : Sll W Aa ca a) (q2 : Sll W Ab cb b) => mul_ok p hp Aa Ab ca cb a b za zb ea eb ra rb nab W q1 q2
  obtain ⟨_, rc, nbc⟩ := mulB_iff.1 h2
  have hBC := mulM_mat (p := p) (by omega) b c
  have lc0 : ncol c ≤ 6 := lcc 0
  have zBC : Sized (mulM p b c) := hBC.sized (by omega) (by omega)
  have gbc := fun W (q1 : Sll W Ab cb b) (q2 : Sll W Ac cc c) => mul_ok p hp Ab Ac cb cc b c zb zc eb ec rb rc nbc W q1 q2
  obtain ⟨k1', k2'⟩ := rank_mul hg ra rb ea eb nab
  have kk1 : (rnk p (mulM p a b) : Int) ≤ rnk p a := by omega
  have kk2 : (rnk p (mulM p a b) : Int) ≤ rnk p b := by omega
  have gr1 := fun W A c (q : Sll W A c (mulM p a b)) => rank_ok p hp A c (mulM p a b) zAB hAB.els hAB.isRect W q
  have gr2 := fun W (q : Sll W Aa ca a) => rank_ok p hp Aa ca a za ea ra W q
  have gr3 := fun W (q : Sll W Ab cb b) => rank_ok p hp Ab cb b zb eb rb W q
  have gdb := fun W (q : Sll W Ab cb b) => det_gen p hp Ab cb b zb eb W q
  have gdab := fun W A c (q : Sll W A c (mulM p a b)) => det_gen p hp A c (mulM p a b) zAB hAB.els W q
  have hs : squ a = false := by
    cases h : squ a with
    | false => rfl
    | true => obtain ⟨x1, x2, _⟩ := squ_iff.1 h; omega
  have h0' : ¬ (0 : Int) < b.length := by omega
  have H0 := Lib.hid h0
  clear h0
  generalize rnk p (mulM p a b) = R1 at *
  generalize rnk p a = R2 at *
  generalize rnk p b = R3 at *
  clear k1' k2'
  replace sa := sa.push (.cells #[.int .u64 p, .slice Aa a.length ca, .slice Ab b.length cb, .slice Av v.length cv] 26)
  replace sb := sb.push (.cells #[.int .u64 p, .slice Aa a.length ca, .slice Ab b.length cb, .slice Av v.length cv] 26)
  replace sv := sv.push (.cells #[.int .u64 p, .slice Aa a.length ca, .slice Ab b.length cb, .slice Av v.length cv] 26)
  replace sc := sc.push (.cells #[.int .u64 p, .slice Aa a.length ca, .slice Ab b.length cb, .slice Av v.length cv] 26)
  have k0 : (w.alloc (.cells #[.int .u64 p, .slice Aa a.length ca, .slice Ab b.length cb, .slice Av v.length cv] 26)).cell? ⟨w.heap.size, 0, none⟩ = some (.int .u64 p) := by go_simp
  have k1 : (w.alloc (.cells #[.int .u64 p, .slice Aa a.length ca, .slice Ab b.length cb, .slice Av v.length cv] 26)).cell? ⟨w.heap.size, 1, none⟩ = some (.slice Aa a.length ca) := by go_simp
  have k2 : (w.alloc (.cells #[.int .u64 p, .slice Aa a.length ca, .slice Ab b.length cb, .slice Av v.length cv] 26)).cell? ⟨w.heap.size, 2, none⟩ = some (.slice Ab b.length cb) := by go_simp
  have k3 : (w.alloc (.cells #[.int .u64 p, .slice Aa a.length ca, .slice Ab b.length cb, .slice Av v.length cv] 26)).cell? ⟨w.heap.size, 3, none⟩ = some (.slice Av v.length cv) := by go_simp
  have hq : w.heap.size < (w.alloc (.cells #[.int .u64 p, .slice Aa a.length ca, .slice Ab b.length cb, .slice Av v.length cv] 26)).heap.size := by simp
  have hB := bnew (Below.refl w.heap.size w) (.cells #[.int .u64 p, .slice Aa a.length ca, .slice Ab b.length cb, .slice Av v.length cv] 26) (Nat.le_refl _)
  go_enter Try.func8, Try.ntmps8
  go_wp2_with fail
  refine (gv _ sa sb sv).mono ?_
  rintro e w1 ⟨rfl, hb⟩
  replace sa := sa.next hb
  replace sb := sb.next hb
  replace sv := sv.next hb
  replace sc := sc.next hb
  replace hB := hB.trans (hb.mono hB.size)
  replace k0 := (hb.cell (p := ⟨w.heap.size, 0, none⟩) hq).trans k0
  replace k1 := (hb.cell (p := ⟨w.heap.size, 1, none⟩) hq).trans k1
  replace k2 := (hb.cell (p := ⟨w.heap.size, 2, none⟩) hq).trans k2
  replace k3 := (hb.cell (p := ⟨w.heap.size, 3, none⟩) hq).trans k3
  replace hq := Nat.lt_of_lt_of_le hq hb.size
  clear hb
  go_wp2_with fail
  refine (gc _ sc).mono ?_
  rintro e w2 ⟨rfl, hb⟩
  replace sa := sa.next hb
  replace sb := sb.next hb
  replace sv := sv.next hb
  replace sc := sc.next hb
  replace hB := hB.trans (hb.mono hB.size)
  replace k0 := (hb.cell (p := ⟨w.heap.size, 0, none⟩) hq).trans k0
  replace k1 := (hb.cell (p := ⟨w.heap.size, 1, none⟩) hq).trans k1
  replace k2 := (hb.cell (p := ⟨w.heap.size, 2, none⟩) hq).trans k2
  replace k3 := (hb.cell (p := ⟨w.heap.size, 3, none⟩) hq).trans k3
  replace hq := Nat.lt_of_lt_of_le hq hb.size
  clear hb
  go_wp2_with fail
  refine (gab _ sa sb).mono ?_
  rintro e w3 ⟨A1, c1, rfl, s1, hb⟩
  replace sa := sa.next hb
  replace sb := sb.next hb
  replace sv := sv.next hb
  replace sc := sc.next hb
  replace hB := hB.trans (hb.mono hB.size)
  replace k0 := (hb.cell (p := ⟨w.heap.size, 0, none⟩) hq).trans k0
  replace k1 := (hb.cell (p := ⟨w.heap.size, 1, none⟩) hq).trans k1
  replace k2 := (hb.cell (p := ⟨w.heap.size, 2, none⟩) hq).trans k2
  replace k3 := (hb.cell (p := ⟨w.heap.size, 3, none⟩) hq).trans k3
  replace hq := Nat.lt_of_lt_of_le hq hb.size
  clear hb
  go_wp2_with fail
  refine (gbc _ sb sc).mono ?_
  rintro e w4 ⟨A2, c2, rfl, s2, hb⟩
  replace sa := sa.next hb
  replace sb := sb.next hb
  replace sv := sv.next hb
  replace sc := sc.next hb
  replace s1 := s1.next hb
  replace hB := hB.trans (hb.mono hB.size)
  replace k0 := (hb.cell (p := ⟨w.heap.size, 0, none⟩) hq).trans k0
  replace k1 := (hb.cell (p := ⟨w.heap.size, 1, none⟩) hq).trans k1
  replace k2 := (hb.cell (p := ⟨w.heap.size, 2, none⟩) hq).trans k2
  replace k3 := (hb.cell (p := ⟨w.heap.size, 3, none⟩) hq).trans k3
  replace hq := Nat.lt_of_lt_of_le hq hb.size
  clear hb
  go_wp2_with fail
  refine (mul_gen p hp A1 Ac c1 cc (mulM p a b) c zAB zc hAB.els ec _ s1 sc).mono ?_
  rintro e w5 ⟨v3, x3, rfl, hb⟩
  replace sa := sa.next hb
  replace sb := sb.next hb
  replace sv := sv.next hb
  replace sc := sc.next hb
  replace s1 := s1.next hb
  replace s2 := s2.next hb
  replace hB := hB.trans (hb.mono hB.size)
  replace k0 := (hb.cell (p := ⟨w.heap.size, 0, none⟩) hq).trans k0
  replace k1 := (hb.cell (p := ⟨w.heap.size, 1, none⟩) hq).trans k1
  replace k2 := (hb.cell (p := ⟨w.heap.size, 2, none⟩) hq).trans k2
  replace k3 := (hb.cell (p := ⟨w.heap.size, 3, none⟩) hq).trans k3
  replace hq := Nat.lt_of_lt_of_le hq hb.size
  clear hb
  go_wp2_with fail
  refine (mul_gen p hp Aa A2 ca c2 a (mulM p b c) za zBC ea hBC.els _ sa s2).mono ?_
  rintro e w6 ⟨v4, x4, rfl, hb⟩
  replace sa := sa.next hb
  replace sb := sb.next hb
  replace sv := sv.next hb
  replace sc := sc.next hb
  replace s1 := s1.next hb
  replace s2 := s2.next hb
  replace hB := hB.trans (hb.mono hB.size)
  replace k0 := (hb.cell (p := ⟨w.heap.size, 0, none⟩) hq).trans k0
  replace k1 := (hb.cell (p := ⟨w.heap.size, 1, none⟩) hq).trans k1
  replace k2 := (hb.cell (p := ⟨w.heap.size, 2, none⟩) hq).trans k2
  replace k3 := (hb.cell (p := ⟨w.heap.size, 3, none⟩) hq).trans k3
  replace hq := Nat.lt_of_lt_of_le hq hb.size
  clear hb
  go_wp2_with fail
  refine (gr1 _ _ _ s1).mono ?_
  rintro e w7 ⟨rfl, hb⟩
  replace sa := sa.next hb
  replace sb := sb.next hb
  replace sv := sv.next hb
  replace sc := sc.next hb
  replace s1 := s1.next hb
  replace s2 := s2.next hb
  replace hB := hB.trans (hb.mono hB.size)
  replace k0 := (hb.cell (p := ⟨w.heap.size, 0, none⟩) hq).trans k0
  replace k1 := (hb.cell (p := ⟨w.heap.size, 1, none⟩) hq).trans k1
  replace k2 := (hb.cell (p := ⟨w.heap.size, 2, none⟩) hq).trans k2
  replace k3 := (hb.cell (p := ⟨w.heap.size, 3, none⟩) hq).trans k3
  replace hq := Nat.lt_of_lt_of_le hq hb.size
  clear hb
  go_wp2_with fail
  refine (gr2 _ sa).mono ?_
  rintro e w8 ⟨rfl, hb⟩
  replace sa := sa.next hb
  replace sb := sb.next hb
  replace sv := sv.next hb
  replace sc := sc.next hb
  replace s1 := s1.next hb
  replace s2 := s2.next hb
  replace hB := hB.trans (hb.mono hB.size)
  replace k0 := (hb.cell (p := ⟨w.heap.size, 0, none⟩) hq).trans k0
  replace k1 := (hb.cell (p := ⟨w.heap.size, 1, none⟩) hq).trans k1
  replace k2 := (hb.cell (p := ⟨w.heap.size, 2, none⟩) hq).trans k2
  replace k3 := (hb.cell (p := ⟨w.heap.size, 3, none⟩) hq).trans k3
  replace hq := Nat.lt_of_lt_of_le hq hb.size
  clear hb
  go_wp2_with fail
  refine (gr3 _ sb).mono ?_
  rintro e w9 ⟨rfl, hb⟩
  replace sa := sa.next hb
  replace sb := sb.next hb
  replace sv := sv.next hb
  replace sc := sc.next hb
  replace s1 := s1.next hb
  replace s2 := s2.next hb
  replace hB := hB.trans (hb.mono hB.size)
  replace k0 := (hb.cell (p := ⟨w.heap.size, 0, none⟩) hq).trans k0
  replace k1 := (hb.cell (p := ⟨w.heap.size, 1, none⟩) hq).trans k1
  replace k2 := (hb.cell (p := ⟨w.heap.size, 2, none⟩) hq).trans k2
  replace k3 := (hb.cell (p := ⟨w.heap.size, 3, none⟩) hq).trans k3
  replace hq := Nat.lt_of_lt_of_le hq hb.size
  clear hb
  go_wp2_with fail
  refine (det_bad p Aa ca a za hs _ sa).mono ?_
  rintro e w10 ⟨rfl, hb⟩
  replace sa := sa.next hb
  replace sb := sb.next hb
  replace sv := sv.next hb
  replace sc := sc.next hb
  replace s1 := s1.next hb
  replace s2 := s2.next hb
  replace hB := hB.trans (hb.mono hB.size)
  replace k0 := (hb.cell (p := ⟨w.heap.size, 0, none⟩) hq).trans k0
  replace k1 := (hb.cell (p := ⟨w.heap.size, 1, none⟩) hq).trans k1
  replace k2 := (hb.cell (p := ⟨w.heap.size, 2, none⟩) hq).trans k2
  replace k3 := (hb.cell (p := ⟨w.heap.size, 3, none⟩) hq).trans k3
  replace hq := Nat.lt_of_lt_of_le hq hb.size
  clear hb
  go_wp2_with fail
  refine (gdb _ sb).mono ?_
  rintro e w11 ⟨d5, x5, rfl, hb⟩
  replace sa := sa.next hb
  replace sb := sb.next hb
  replace sv := sv.next hb
  replace sc := sc.next hb
  replace s1 := s1.next hb
  replace s2 := s2.next hb
  replace hB := hB.trans (hb.mono hB.size)
  replace k0 := (hb.cell (p := ⟨w.heap.size, 0, none⟩) hq).trans k0
  replace k1 := (hb.cell (p := ⟨w.heap.size, 1, none⟩) hq).trans k1
  replace k2 := (hb.cell (p := ⟨w.heap.size, 2, none⟩) hq).trans k2
  replace k3 := (hb.cell (p := ⟨w.heap.size, 3, none⟩) hq).trans k3
  replace hq := Nat.lt_of_lt_of_le hq hb.size
  clear hb
  go_wp2_with fail
  refine (gdab _ _ _ s1).mono ?_
  rintro e w12 ⟨d6, x6, rfl, hb⟩
  replace sa := sa.next hb
  replace sb := sb.next hb
  replace sv := sv.next hb
  replace sc := sc.next hb
  replace s1 := s1.next hb
  replace s2 := s2.next hb
  replace hB := hB.trans (hb.mono hB.size)
  replace k0 := (hb.cell (p := ⟨w.heap.size, 0, none⟩) hq).trans k0
  replace k1 := (hb.cell (p := ⟨w.heap.size, 1, none⟩) hq).trans k1
  replace k2 := (hb.cell (p := ⟨w.heap.size, 2, none⟩) hq).trans k2
  replace k3 := (hb.cell (p := ⟨w.heap.size, 3, none⟩) hq).trans k3
  replace hq := Nat.lt_of_lt_of_le hq hb.size
  clear hb
  go_wp2_with fail
  refine (awake_any _).mono ?_
  rintro e w13 ⟨rfl, hb⟩
  replace sa := sa.next hb
  replace sb := sb.next hb
  replace sv := sv.next hb
  replace sc := sc.next hb
  replace s1 := s1.next hb
  replace s2 := s2.next hb
  replace hB := hB.trans (hb.mono hB.size)
  replace k0 := (hb.cell (p := ⟨w.heap.size, 0, none⟩) hq).trans k0
  replace k1 := (hb.cell (p := ⟨w.heap.size, 1, none⟩) hq).trans k1
  replace k2 := (hb.cell (p := ⟨w.heap.size, 2, none⟩) hq).trans k2
  replace k3 := (hb.cell (p := ⟨w.heap.size, 3, none⟩) hq).trans k3
  replace hq := Nat.lt_of_lt_of_le hq hb.size
  clear hb
  go_wp2_with fail
  go_ret
  exact ⟨rfl, hB⟩

set_option maxRecDepth 100000 in
set_option maxHeartbeats 4000000 in
theorem walk_nsa (p : Int) (Aa : Option Addr) (ca : Nat) (a : List (List Int)) (Ab : Option Addr) (cb : Nat) (b : List (List Int)) (Av : Option Addr) (cv : Nat) (v : List Int) (Ac : Option Addr) (cc : Nat) (c : List (List Int)) (wa : ∀ r ∈ a, Words r) (wb : ∀ r ∈ b, Words r) (_wv : Words v) (wc : ∀ r ∈ c, Words r) (_lc : c.length ≤ 9223372036854775807) (hv : (fairB p a 10 && fairB p b 10 && belB p v 10) = true) (hc : fairB p c 6 = true) (h1 : mulB a b = true) (h2 : mulB b c = true) (h0 : b.length ≠ 0) (hs : squ a = false) (w : World) (sa : Sll w Aa ca a) (sb : Sll w Ab cb b) (sv : Sl w Av cv v) (sc : Sll w Ac cc c) :
    Calls Try.prog 8 #[.agg #[.int .u64 p, .slice Aa a.length ca, .slice Ab b.length cb, .slice Av v.length cv], .slice Ac c.length cc] w fun e w' => e = .returned (.bool true) ∧ Below w.heap.size w w' := by
  have hv0 := hv
  rw [Bool.and_eq_true, Bool.and_eq_true] at hv0
  obtain ⟨hp, za, ea, na, la⟩ := fair_is (by omega) wa hv0.1.1
  obtain ⟨_, zb, eb, nb, lb⟩ := fair_is (by omega) wb hv0.1.2
  obtain ⟨_, zc, ec, nc, lcc⟩ := fair_is (by omega) wc hc
  have hg := hp.good
  have hbd := hp.bd
  have gv := fun W h1 h2 h3 => valid_any p Aa Ab Av ca cb cv a b v W h1 h2 h3
  rw [hv] at gv
  have gc := fun W (h : Sll W Ac cc c) => fair_any p Ac cc 6 c (by omega) W h
  rw [hc] at gc
  obtain ⟨ra, rb, nab⟩ := mulB_iff.1 h1
  have hAB := mulM_mat (p := p) (by omega) a b
  have lb0 : ncol b ≤ 10 := lb 0
  have zAB : Sized (mulM p a b) := hAB.sized (by omega) (by omega)
  have gab := fun W (q1 : Sll W Aa ca a) (q2 : Sll W Ab cb b) => mul_ok p hp Aa Ab ca cb a b za zb ea eb ra rb nab W q1 q2
  obtain ⟨_, rc, nbc⟩ := mulB_iff.1 h2
  have hBC := mulM_mat (p := p) (by omega) b c
  have lc0 : ncol c ≤ 6 := lcc 0
  have zBC : Sized (mulM p b c) := hBC.sized (by omega) (by omega)
  have gbc := fun W (q1 : Sll W Ab cb b) (q2 : Sll W Ac cc c) => mul_ok p hp Ab Ac cb cc b c zb zc eb ec rb rc nbc W q1 q2
  obtain ⟨k1', k2'⟩ := rank_mul hg ra rb ea eb nab
  have kk1 : (rnk p (mulM p a b) : Int) ≤ rnk p a := by omega
  have kk2 : (rnk p (mulM p a b) : Int) ≤ rnk p b := by omega
  have gr1 := fun W A c (q : Sll W A c (mulM p a b)) => rank_ok p hp A c (mulM p a b) zAB hAB.els hAB.isRect W q
  have gr2 := fun W (q : Sll W Aa ca a) => rank_ok p hp Aa ca a za ea ra W q
  have gr3 := fun W (q : Sll W Ab cb b) => rank_ok p hp Ab cb b zb eb rb W q
  have gdb := fun W (q : Sll W Ab cb b) => det_gen p hp Ab cb b zb eb W q
  have gdab := fun W A c (q : Sll W A c (mulM p a b)) => det_gen p hp A c (mulM p a b) zAB hAB.els W q
  have h0' : (0 : Int) < b.length := by omega
  have has := mul_assoc_rows (p := p) (C := c) (by omega) ra rb nab (show 0 < b.length by omega)
  have ha0 : 0 < a.length := ncol_pos (by omega)
  have gl := fun W A d (q1 : Sll W A d (mulM p a b)) (q2 : Sll W Ac cc c) => mul_ok p hp A Ac d cc (mulM p a b) c zAB zc hAB.els ec hAB.isRect rc (by rw [hAB.cols ha0]; exact nbc) W q1 q2
  have gr := fun W A d (q1 : Sll W Aa ca a) (q2 : Sll W A d (mulM p b c)) => mul_ok p hp Aa A ca d a (mulM p b c) za zBC ea hBC.els ra hBC.isRect (by rw [mulM_len]; exact nab) W q1 q2
  rw [← has] at gr
  have hL := mulM_mat (p := p) (by omega) (mulM p a b) c
  have zL : Sized (mulM p (mulM p a b) c) := hL.sized (by rw [mulM_len]; omega) (by omega)
  clear has
  generalize rnk p (mulM p a b) = R1 at *
  generalize rnk p a = R2 at *
  generalize rnk p b = R3 at *
  clear k1' k2'
  replace sa := sa.push (.cells #[.int .u64 p, .slice Aa a.length ca, .slice Ab b.length cb, .slice Av v.length cv] 26)
  replace sb := sb.push (.cells #[.int .u64 p, .slice Aa a.length ca, .slice Ab b.length cb, .slice Av v.length cv] 26)
  replace sv := sv.push (.cells #[.int .u64 p, .slice Aa a.length ca, .slice Ab b.length cb, .slice Av v.length cv] 26)
  replace sc := sc.push (.cells #[.int .u64 p, .slice Aa a.length ca, .slice Ab b.length cb, .slice Av v.length cv] 26)
  have k0 : (w.alloc (.cells #[.int .u64 p, .slice Aa a.length ca, .slice Ab b.length cb, .slice Av v.length cv] 26)).cell? ⟨w.heap.size, 0, none⟩ = some (.int .u64 p) := by go_simp
  have k1 : (w.alloc (.cells #[.int .u64 p, .slice Aa a.length ca, .slice Ab b.length cb, .slice Av v.length cv] 26)).cell? ⟨w.heap.size, 1, none⟩ = some (.slice Aa a.length ca) := by go_simp
  have k2 : (w.alloc (.cells #[.int .u64 p, .slice Aa a.length ca, .slice Ab b.length cb, .slice Av v.length cv] 26)).cell? ⟨w.heap.size, 2, none⟩ = some (.slice Ab b.length cb) := by go_simp
  have k3 : (w.alloc (.cells #[.int .u64 p, .slice Aa a.length ca, .slice Ab b.length cb, .slice Av v.length cv] 26)).cell? ⟨w.heap.size, 3, none⟩ = some (.slice Av v.length cv) := by go_simp
  have hq : w.heap.size < (w.alloc (.cells #[.int .u64 p, .slice Aa a.length ca, .slice Ab b.length cb, .slice Av v.length cv] 26)).heap.size := by simp
  have hB := bnew (Below.refl w.heap.size w) (.cells #[.int .u64 p, .slice Aa a.length ca, .slice Ab b.length cb, .slice Av v.length cv] 26) (Nat.le_refl _)
  go_enter Try.func8, Try.ntmps8
  go_wp2_with fail
  refine (gv _ sa sb sv).mono ?_
  rintro e w1 ⟨rfl, hb⟩
  replace sa := sa.next hb
  replace sb := sb.next hb
  replace sv := sv.next hb
  replace sc := sc.next hb
  replace hB := hB.trans (hb.mono hB.size)
  replace k0 := (hb.cell (p := ⟨w.heap.size, 0, none⟩) hq).trans k0
  replace k1 := (hb.cell (p := ⟨w.heap.size, 1, none⟩) hq).trans k1
  replace k2 := (hb.cell (p := ⟨w.heap.size, 2, none⟩) hq).trans k2
  replace k3 := (hb.cell (p := ⟨w.heap.size, 3, none⟩) hq).trans k3
  replace hq := Nat.lt_of_lt_of_le hq hb.size
  clear hb
  go_wp2_with fail
  refine (gc _ sc).mono ?_
  rintro e w2 ⟨rfl, hb⟩
  replace sa := sa.next hb
  replace sb := sb.next hb
  replace sv := sv.next hb
  replace sc := sc.next hb
  replace hB := hB.trans (hb.mono hB.size)
  replace k0 := (hb.cell (p := ⟨w.heap.size, 0, none⟩) hq).trans k0
  replace k1 := (hb.cell (p := ⟨w.heap.size, 1, none⟩) hq).trans k1
  replace k2 := (hb.cell (p := ⟨w.heap.size, 2, none⟩) hq).trans k2
  replace k3 := (hb.cell (p := ⟨w.heap.size, 3, none⟩) hq).trans k3
  replace hq := Nat.lt_of_lt_of_le hq hb.size
  clear hb
  go_wp2_with fail
  refine (gab _ sa sb).mono ?_
  rintro e w3 ⟨A1, c1, rfl, s1, hb⟩
  replace sa := sa.next hb
  replace sb := sb.next hb
  replace sv := sv.next hb
  replace sc := sc.next hb
  replace hB := hB.trans (hb.mono hB.size)
  replace k0 := (hb.cell (p := ⟨w.heap.size, 0, none⟩) hq).trans k0
  replace k1 := (hb.cell (p := ⟨w.heap.size, 1, none⟩) hq).trans k1
  replace k2 := (hb.cell (p := ⟨w.heap.size, 2, none⟩) hq).trans k2
  replace k3 := (hb.cell (p := ⟨w.heap.size, 3, none⟩) hq).trans k3
  replace hq := Nat.lt_of_lt_of_le hq hb.size
  clear hb
  go_wp2_with fail
  refine (gbc _ sb sc).mono ?_
  rintro e w4 ⟨A2, c2, rfl, s2, hb⟩
  replace sa := sa.next hb
  replace sb := sb.next hb
  replace sv := sv.next hb
  replace sc := sc.next hb
  replace s1 := s1.next hb
  replace hB := hB.trans (hb.mono hB.size)
  replace k0 := (hb.cell (p := ⟨w.heap.size, 0, none⟩) hq).trans k0
  replace k1 := (hb.cell (p := ⟨w.heap.size, 1, none⟩) hq).trans k1
  replace k2 := (hb.cell (p := ⟨w.heap.size, 2, none⟩) hq).trans k2
  replace k3 := (hb.cell (p := ⟨w.heap.size, 3, none⟩) hq).trans k3
  replace hq := Nat.lt_of_lt_of_le hq hb.size
  clear hb
  go_wp2_with fail
  refine (gl _ _ _ s1 sc).mono ?_
  rintro e w5 ⟨A3, c3, rfl, s3, hb⟩
  replace sa := sa.next hb
  replace sb := sb.next hb
  replace sv := sv.next hb
  replace sc := sc.next hb
  replace s1 := s1.next hb
  replace s2 := s2.next hb
  replace hB := hB.trans (hb.mono hB.size)
  replace k0 := (hb.cell (p := ⟨w.heap.size, 0, none⟩) hq).trans k0
  replace k1 := (hb.cell (p := ⟨w.heap.size, 1, none⟩) hq).trans k1
  replace k2 := (hb.cell (p := ⟨w.heap.size, 2, none⟩) hq).trans k2
  replace k3 := (hb.cell (p := ⟨w.heap.size, 3, none⟩) hq).trans k3
  replace hq := Nat.lt_of_lt_of_le hq hb.size
  clear hb
  go_wp2_with fail
  refine (gr _ _ _ sa s2).mono ?_
  rintro e w6 ⟨A4, c4, rfl, s4, hb⟩
  replace sa := sa.next hb
  replace sb := sb.next hb
  replace sv := sv.next hb
  replace sc := sc.next hb
  replace s1 := s1.next hb
  replace s3 := s3.next hb
  replace hB := hB.trans (hb.mono hB.size)
  replace k0 := (hb.cell (p := ⟨w.heap.size, 0, none⟩) hq).trans k0
  replace k1 := (hb.cell (p := ⟨w.heap.size, 1, none⟩) hq).trans k1
  replace k2 := (hb.cell (p := ⟨w.heap.size, 2, none⟩) hq).trans k2
  replace k3 := (hb.cell (p := ⟨w.heap.size, 3, none⟩) hq).trans k3
  replace hq := Nat.lt_of_lt_of_le hq hb.size
  clear hb s2
  go_wp2_with fail
  refine (sameM_b _ _ _ _ _ _ s3 s4 zL).mono ?_
  rintro e w7 ⟨rfl, hb⟩
  replace sa := sa.next hb
  replace sb := sb.next hb
  replace sv := sv.next hb
  replace sc := sc.next hb
  replace s1 := s1.next hb
  replace hB := hB.trans (hb.mono hB.size)
  replace k0 := (hb.cell (p := ⟨w.heap.size, 0, none⟩) hq).trans k0
  replace k1 := (hb.cell (p := ⟨w.heap.size, 1, none⟩) hq).trans k1
  replace k2 := (hb.cell (p := ⟨w.heap.size, 2, none⟩) hq).trans k2
  replace k3 := (hb.cell (p := ⟨w.heap.size, 3, none⟩) hq).trans k3
  replace hq := Nat.lt_of_lt_of_le hq hb.size
  clear hb s3 s4
  go_wp2_with fail
  refine (gr1 _ _ _ s1).mono ?_
  rintro e w8 ⟨rfl, hb⟩
  replace sa := sa.next hb
  replace sb := sb.next hb
  replace sv := sv.next hb
  replace sc := sc.next hb
  replace s1 := s1.next hb
  replace hB := hB.trans (hb.mono hB.size)
  replace k0 := (hb.cell (p := ⟨w.heap.size, 0, none⟩) hq).trans k0
  replace k1 := (hb.cell (p := ⟨w.heap.size, 1, none⟩) hq).trans k1
  replace k2 := (hb.cell (p := ⟨w.heap.size, 2, none⟩) hq).trans k2
  replace k3 := (hb.cell (p := ⟨w.heap.size, 3, none⟩) hq).trans k3
  replace hq := Nat.lt_of_lt_of_le hq hb.size
  clear hb
  go_wp2_with fail
  refine (gr2 _ sa).mono ?_
  rintro e w9 ⟨rfl, hb⟩
  replace sa := sa.next hb
  replace sb := sb.next hb
  replace sv := sv.next hb
  replace sc := sc.next hb
  replace s1 := s1.next hb
  replace hB := hB.trans (hb.mono hB.size)
  replace k0 := (hb.cell (p := ⟨w.heap.size, 0, none⟩) hq).trans k0
  replace k1 := (hb.cell (p := ⟨w.heap.size, 1, none⟩) hq).trans k1
  replace k2 := (hb.cell (p := ⟨w.heap.size, 2, none⟩) hq).trans k2
  replace k3 := (hb.cell (p := ⟨w.heap.size, 3, none⟩) hq).trans k3
  replace hq := Nat.lt_of_lt_of_le hq hb.size
  clear hb
  go_wp2_with fail
  refine (gr3 _ sb).mono ?_
  rintro e w10 ⟨rfl, hb⟩
  replace sa := sa.next hb
  replace sb := sb.next hb
  replace sv := sv.next hb
  replace sc := sc.next hb
  replace s1 := s1.next hb
  replace hB := hB.trans (hb.mono hB.size)
  replace k0 := (hb.cell (p := ⟨w.heap.size, 0, none⟩) hq).trans k0
  replace k1 := (hb.cell (p := ⟨w.heap.size, 1, none⟩) hq).trans k1
  replace k2 := (hb.cell (p := ⟨w.heap.size, 2, none⟩) hq).trans k2
  replace k3 := (hb.cell (p := ⟨w.heap.size, 3, none⟩) hq).trans k3
  replace hq := Nat.lt_of_lt_of_le hq hb.size
  clear hb
  go_wp2_with fail
  refine (det_bad p Aa ca a za hs _ sa).mono ?_
  rintro e w11 ⟨rfl, hb⟩
  replace sa := sa.next hb
  replace sb := sb.next hb
  replace sv := sv.next hb
  replace sc := sc.next hb
  replace s1 := s1.next hb
  replace hB := hB.trans (hb.mono hB.size)
  replace k0 := (hb.cell (p := ⟨w.heap.size, 0, none⟩) hq).trans k0
  replace k1 := (hb.cell (p := ⟨w.heap.size, 1, none⟩) hq).trans k1
  replace k2 := (hb.cell (p := ⟨w.heap.size, 2, none⟩) hq).trans k2
  replace k3 := (hb.cell (p := ⟨w.heap.size, 3, none⟩) hq).trans k3
  replace hq := Nat.lt_of_lt_of_le hq hb.size
  clear hb
  go_wp2_with fail
  refine (gdb _ sb).mono ?_
  rintro e w12 ⟨d5, x5, rfl, hb⟩
  replace sa := sa.next hb
  replace sb := sb.next hb
  replace sv := sv.next hb
  replace sc := sc.next hb
  replace s1 := s1.next hb
  replace hB := hB.trans (hb.mono hB.size)
  replace k0 := (hb.cell (p := ⟨w.heap.size, 0, none⟩) hq).trans k0
  replace k1 := (hb.cell (p := ⟨w.heap.size, 1, none⟩) hq).trans k1
  replace k2 := (hb.cell (p := ⟨w.heap.size, 2, none⟩) hq).trans k2
  replace k3 := (hb.cell (p := ⟨w.heap.size, 3, none⟩) hq).trans k3
  replace hq := Nat.lt_of_lt_of_le hq hb.size
  clear hb
  go_wp2_with fail
  refine (gdab _ _ _ s1).mono ?_
  rintro e w13 ⟨d6, x6, rfl, hb⟩
  replace sa := sa.next hb
  replace sb := sb.next hb
  replace sv := sv.next hb
  replace sc := sc.next hb
  replace s1 := s1.next hb
  replace hB := hB.trans (hb.mono hB.size)
  replace k0 := (hb.cell (p := ⟨w.heap.size, 0, none⟩) hq).trans k0
  replace k1 := (hb.cell (p := ⟨w.heap.size, 1, none⟩) hq).trans k1
  replace k2 := (hb.cell (p := ⟨w.heap.size, 2, none⟩) hq).trans k2
  replace k3 := (hb.cell (p := ⟨w.heap.size, 3, none⟩) hq).trans k3
  replace hq := Nat.lt_of_lt_of_le hq hb.size
  clear hb
  go_wp2_with fail
  refine (awake_any _).mono ?_
  rintro e w14 ⟨rfl, hb⟩
  replace sa := sa.next hb
  replace sb := sb.next hb
  replace sv := sv.next hb
  replace sc := sc.next hb
  replace s1 := s1.next hb
  replace hB := hB.trans (hb.mono hB.size)
  replace k0 := (hb.cell (p := ⟨w.heap.size, 0, none⟩) hq).trans k0
  replace k1 := (hb.cell (p := ⟨w.heap.size, 1, none⟩) hq).trans k1
  replace k2 := (hb.cell (p := ⟨w.heap.size, 2, none⟩) hq).trans k2
  replace k3 := (hb.cell (p := ⟨w.heap.size, 3, none⟩) hq).trans k3
  replace hq := Nat.lt_of_lt_of_le hq hb.size
  clear hb
  go_wp2_with fail
  go_ret
  exact ⟨rfl, hB⟩

set_option maxRecDepth 100000 in
set_option maxHeartbeats 4000000 in
theorem walk_nsb (p : Int) (Aa : Option Addr) (ca : Nat) (a : List (List Int)) (Ab : Option Addr) (cb : Nat) (b : List (List Int)) (Av : Option Addr) (cv : Nat) (v : List Int) (Ac : Option Addr) (cc : Nat) (c : List (List Int)) (wa : ∀ r ∈ a, Words r) (wb : ∀ r ∈ b, Words r) (_wv : Words v) (wc : ∀ r ∈ c, Words r) (_lc : c.length ≤ 9223372036854775807) (hv : (fairB p a 10 && fairB p b 10 && belB p v 10) = true) (hc : fairB p c 6 = true) (h1 : mulB a b = true) (h2 : mulB b c = true) (h0 : b.length ≠ 0) (hs : squ a = true) (hs2 : squ b = false) (w : World) (sa : Sll w Aa ca a) (sb : Sll w Ab cb b) (sv : Sl w Av cv v) (sc : Sll w Ac cc c) :
    Calls Try.prog 8 #[.agg #[.int .u64 p, .slice Aa a.length ca, .slice Ab b.length cb, .slice Av v.length cv], .slice Ac c.length cc] w fun e w' => e = .returned (.bool true) ∧ Below w.heap.size w w' := by
  have hv0 := hv
  rw [Bool.and_eq_true, Bool.and_eq_true] at hv0
  obtain ⟨hp, za, ea, na, la⟩ := fair_is (by omega) wa hv0.1.1
  obtain ⟨_, zb, eb, nb, lb⟩ := fair_is (by omega) wb hv0.1.2
  obtain ⟨_, zc, ec, nc, lcc⟩ := fair_is (by omega) wc hc
  have hg := hp.good
  have hbd := hp.bd
  have gv := fun W h1 h2 h3 => valid_any p Aa Ab Av ca cb cv a b v W h1 h2 h3
  rw [hv] at gv
  have gc := fun W (h : Sll W Ac cc c) => fair_any p Ac cc 6 c (by omega) W h
  rw [hc] at gc
  obtain ⟨ra, rb, nab⟩ := mulB_iff.1 h1
  have hAB := mulM_mat (p := p) (by omega) a b
  have lb0 : ncol b ≤ 10 := lb 0
  have zAB : Sized (mulM p a b) := hAB.sized (by omega) (by omega)
  have gab := fun W (q1 : Sll W Aa ca a) (q2 : Sll W Ab cb b) => mul_ok p hp Aa Ab ca cb a b za zb ea eb ra rb nab W q1 q2
  obtain ⟨_, rc, nbc⟩ := mulB_iff.1 h2
  have hBC := mulM_mat (p := p) (by omega) b c
  have lc0 : ncol c ≤ 6 := lcc 0
  have zBC : Sized (mulM p b c) := hBC.sized (by omega) (by omega)
  have gbc := fun W (q1 : Sll W Ab cb b) (q2 : Sll W Ac cc c) => mul_ok p hp Ab Ac cb cc b c zb zc eb ec rb rc nbc W q1 q2
  obtain ⟨k1', k2'⟩ := rank_mul hg ra rb ea eb nab
  have kk1 : (rnk p (mulM p a b) : Int) ≤ rnk p a := by omega
  have kk2 : (rnk p (mulM p a b) : Int) ≤ rnk p b := by omega
  have gr1 := fun W A c (q : Sll W A c (mulM p a b)) => rank_ok p hp A c (mulM p a b) zAB hAB.els hAB.isRect W q
  have gr2 := fun W (q : Sll W Aa ca a) => rank_ok p hp Aa ca a za ea ra W q
  have gr3 := fun W (q : Sll W Ab cb b) => rank_ok p hp Ab cb b zb eb rb W q
  have gdb := fun W (q : Sll W Ab cb b) => det_gen p hp Ab cb b zb eb W q
  have gdab := fun W A c (q : Sll W A c (mulM p a b)) => det_gen p hp A c (mulM p a b) zAB hAB.els W q
  have h0' : (0 : Int) < b.length := by omega
  have has := mul_assoc_rows (p := p) (C := c) (by omega) ra rb nab (show 0 < b.length by omega)
  have ha0 : 0 < a.length := ncol_pos (by omega)
  have gl := fun W A d (q1 : Sll W A d (mulM p a b)) (q2 : Sll W Ac cc c) => mul_ok p hp A Ac d cc (mulM p a b) c zAB zc hAB.els ec hAB.isRect rc (by rw [hAB.cols ha0]; exact nbc) W q1 q2
  have gr := fun W A d (q1 : Sll W Aa ca a) (q2 : Sll W A d (mulM p b c)) => mul_ok p hp Aa A ca d a (mulM p b c) za zBC ea hBC.els ra hBC.isRect (by rw [mulM_len]; exact nab) W q1 q2
  rw [← has] at gr
  have hL := mulM_mat (p := p) (by omega) (mulM p a b) c
  have zL : Sized (mulM p (mulM p a b) c) := hL.sized (by rw [mulM_len]; omega) (by omega)
  clear has
  generalize rnk p (mulM p a b) = R1 at *
  generalize rnk p a = R2 at *
  generalize rnk p b = R3 at *
  clear k1' k2'
  replace sa := sa.push (.cells #[.int .u64 p, .slice Aa a.length ca, .slice Ab b.length cb, .slice Av v.length cv] 26)
  replace sb := sb.push (.cells #[.int .u64 p, .slice Aa a.length ca, .slice Ab b.length cb, .slice Av v.length cv] 26)
  replace sv := sv.push (.cells #[.int .u64 p, .slice Aa a.length ca, .slice Ab b.length cb, .slice Av v.length cv] 26)
  replace sc := sc.push (.cells #[.int .u64 p, .slice Aa a.length ca, .slice Ab b.length cb, .slice Av v.length cv] 26)
  have k0 : (w.alloc (.cells #[.int .u64 p, .slice Aa a.length ca, .slice Ab b.length cb, .slice Av v.length cv] 26)).cell? ⟨w.heap.size, 0, none⟩ = some (.int .u64 p) := by go_simp
  have k1 : (w.alloc (.cells #[.int .u64 p, .slice Aa a.length ca, .slice Ab b.length cb, .slice Av v.length cv] 26)).cell? ⟨w.heap.size, 1, none⟩ = some (.slice Aa a.length ca) := by go_simp
  have k2 : (w.alloc (.cells #[.int .u64 p, .slice Aa a.length ca, .slice Ab b.length cb, .slice Av v.length cv] 26)).cell? ⟨w.heap.size, 2, none⟩ = some (.slice Ab b.length cb) := by go_simp
  have k3 : (w.alloc (.cells #[.int .u64 p, .slice Aa a.length ca, .slice Ab b.length cb, .slice Av v.length cv] 26)).cell? ⟨w.heap.size, 3, none⟩ = some (.slice Av v.length cv) := by go_simp
  have hq : w.heap.size < (w.alloc (.cells #[.int .u64 p, .slice Aa a.length ca, .slice Ab b.length cb, .slice Av v.length cv] 26)).heap.size := by simp
  have hB := bnew (Below.refl w.heap.size w) (.cells #[.int .u64 p, .slice Aa a.length ca, .slice Ab b.length cb, .slice Av v.length cv] 26) (Nat.le_refl _)
  go_enter Try.func8, Try.ntmps8
  go_wp2_with fail
  refine (gv _ sa sb sv).mono ?_
  rintro e w1 ⟨rfl, hb⟩
  replace sa := sa.next hb
  replace sb := sb.next hb
  replace sv := sv.next hb
  replace sc := sc.next hb
  replace hB := hB.trans (hb.mono hB.size)
  replace k0 := (hb.cell (p := ⟨w.heap.size, 0, none⟩) hq).trans k0
  replace k1 := (hb.cell (p := ⟨w.heap.size, 1, none⟩) hq).trans k1
  replace k2 := (hb.cell (p := ⟨w.heap.size, 2, none⟩) hq).trans k2
  replace k3 := (hb.cell (p := ⟨w.heap.size, 3, none⟩) hq).trans k3
  replace hq := Nat.lt_of_lt_of_le hq hb.size
  clear hb
  go_wp2_with fail
  refine (gc _ sc).mono ?_
  rintro e w2 ⟨rfl, hb⟩
  replace sa := sa.next hb
  replace sb := sb.next hb
  replace sv := sv.next hb
  replace sc := sc.next hb
  replace hB := hB.trans (hb.mono hB.size)
  replace k0 := (hb.cell (p := ⟨w.heap.size, 0, none⟩) hq).trans k0
  replace k1 := (hb.cell (p := ⟨w.heap.size, 1, none⟩) hq).trans k1
  replace k2 := (hb.cell (p := ⟨w.heap.size, 2, none⟩) hq).trans k2
  replace k3 := (hb.cell (p := ⟨w.heap.size, 3, none⟩) hq).trans k3
  replace hq := Nat.lt_of_lt_of_le hq hb.size
  clear hb
  go_wp2_with fail
  refine (gab _ sa sb).mono ?_
  rintro e w3 ⟨A1, c1, rfl, s1, hb⟩
  replace sa := sa.next hb
  replace sb := sb.next hb
  replace sv := sv.next hb
  replace sc := sc.next hb
  replace hB := hB.trans (hb.mono hB.size)
  replace k0 := (hb.cell (p := ⟨w.heap.size, 0, none⟩) hq).trans k0
  replace k1 := (hb.cell (p := ⟨w.heap.size, 1, none⟩) hq).trans k1
  replace k2 := (hb.cell (p := ⟨w.heap.size, 2, none⟩) hq).trans k2
  replace k3 := (hb.cell (p := ⟨w.heap.size, 3, none⟩) hq).trans k3
  replace hq := Nat.lt_of_lt_of_le hq hb.size
  clear hb
  go_wp2_with fail
  refine (gbc _ sb sc).mono ?_
  rintro e w4 ⟨A2, c2, rfl, s2, hb⟩
  replace sa := sa.next hb
  replace sb := sb.next hb
  replace sv := sv.next hb
  replace sc := sc.next hb
  replace s1 := s1.next hb
  replace hB := hB.trans (hb.mono hB.size)
  replace k0 := (hb.cell (p := ⟨w.heap.size, 0, none⟩) hq).trans k0
  replace k1 := (hb.cell (p := ⟨w.heap.size, 1, none⟩) hq).trans k1
  replace k2 := (hb.cell (p := ⟨w.heap.size, 2, none⟩) hq).trans k2
  replace k3 := (hb.cell (p := ⟨w.heap.size, 3, none⟩) hq).trans k3
  replace hq := Nat.lt_of_lt_of_le hq hb.size
  clear hb
  go_wp2_with fail
  refine (gl _ _ _ s1 sc).mono ?_
  rintro e w5 ⟨A3, c3, rfl, s3, hb⟩
  replace sa := sa.next hb
  replace sb := sb.next hb
  replace sv := sv.next hb
  replace sc := sc.next hb
  replace s1 := s1.next hb
  replace s2 := s2.next hb
  replace hB := hB.trans (hb.mono hB.size)
  replace k0 := (hb.cell (p := ⟨w.heap.size, 0, none⟩) hq).trans k0
  replace k1 := (hb.cell (p := ⟨w.heap.size, 1, none⟩) hq).trans k1
  replace k2 := (hb.cell (p := ⟨w.heap.size, 2, none⟩) hq).trans k2
  replace k3 := (hb.cell (p := ⟨w.heap.size, 3, none⟩) hq).trans k3
  replace hq := Nat.lt_of_lt_of_le hq hb.size
  clear hb
  go_wp2_with fail
  refine (gr _ _ _ sa s2).mono ?_
  rintro e w6 ⟨A4, c4, rfl, s4, hb⟩
  replace sa := sa.next hb
  replace sb := sb.next hb
  replace sv := sv.next hb
  replace sc := sc.next hb
  replace s1 := s1.next hb
  replace s3 := s3.next hb
  replace hB := hB.trans (hb.mono hB.size)
  replace k0 := (hb.cell (p := ⟨w.heap.size, 0, none⟩) hq).trans k0
  replace k1 := (hb.cell (p := ⟨w.heap.size, 1, none⟩) hq).trans k1
  replace k2 := (hb.cell (p := ⟨w.heap.size, 2, none⟩) hq).trans k2
  replace k3 := (hb.cell (p := ⟨w.heap.size, 3, none⟩) hq).trans k3
  replace hq := Nat.lt_of_lt_of_le hq hb.size
  clear hb s2
  go_wp2_with fail
  refine (sameM_b _ _ _ _ _ _ s3 s4 zL).mono ?_
  rintro e w7 ⟨rfl, hb⟩
  replace sa := sa.next hb
  replace sb := sb.next hb
  replace sv := sv.next hb
  replace sc := sc.next hb
  replace s1 := s1.next hb
  replace hB := hB.trans (hb.mono hB.size)
  replace k0 := (hb.cell (p := ⟨w.heap.size, 0, none⟩) hq).trans k0
  replace k1 := (hb.cell (p := ⟨w.heap.size, 1, none⟩) hq).trans k1
  replace k2 := (hb.cell (p := ⟨w.heap.size, 2, none⟩) hq).trans k2
  replace k3 := (hb.cell (p := ⟨w.heap.size, 3, none⟩) hq).trans k3
  replace hq := Nat.lt_of_lt_of_le hq hb.size
  clear hb s3 s4
  go_wp2_with fail
  refine (gr1 _ _ _ s1).mono ?_
  rintro e w8 ⟨rfl, hb⟩
  replace sa := sa.next hb
  replace sb := sb.next hb
  replace sv := sv.next hb
  replace sc := sc.next hb
  replace s1 := s1.next hb
  replace hB := hB.trans (hb.mono hB.size)
  replace k0 := (hb.cell (p := ⟨w.heap.size, 0, none⟩) hq).trans k0
  replace k1 := (hb.cell (p := ⟨w.heap.size, 1, none⟩) hq).trans k1
  replace k2 := (hb.cell (p := ⟨w.heap.size, 2, none⟩) hq).trans k2
  replace k3 := (hb.cell (p := ⟨w.heap.size, 3, none⟩) hq).trans k3
  replace hq := Nat.lt_of_lt_of_le hq hb.size
  clear hb
  go_wp2_with fail
  refine (gr2 _ sa).mono ?_
  rintro e w9 ⟨rfl, hb⟩
  replace sa := sa.next hb
  replace sb := sb.next hb
  replace sv := sv.next hb
  replace sc := sc.next hb
  replace s1 := s1.next hb
  replace hB := hB.trans (hb.mono hB.size)
  replace k0 := (hb.cell (p := ⟨w.heap.size, 0, none⟩) hq).trans k0
  replace k1 := (hb.cell (p := ⟨w.heap.size, 1, none⟩) hq).trans k1
  replace k2 := (hb.cell (p := ⟨w.heap.size, 2, none⟩) hq).trans k2
  replace k3 := (hb.cell (p := ⟨w.heap.size, 3, none⟩) hq).trans k3
  replace hq := Nat.lt_of_lt_of_le hq hb.size
  clear hb
  go_wp2_with fail
  refine (gr3 _ sb).mono ?_
  rintro e w10 ⟨rfl, hb⟩
  replace sa := sa.next hb
  replace sb := sb.next hb
  replace sv := sv.next hb
  replace sc := sc.next hb
  replace s1 := s1.next hb
  replace hB := hB.trans (hb.mono hB.size)
  replace k0 := (hb.cell (p := ⟨w.heap.size, 0, none⟩) hq).trans k0
  replace k1 := (hb.cell (p := ⟨w.heap.size, 1, none⟩) hq).trans k1
  replace k2 := (hb.cell (p := ⟨w.heap.size, 2, none⟩) hq).trans k2
  replace k3 := (hb.cell (p := ⟨w.heap.size, 3, none⟩) hq).trans k3
  replace hq := Nat.lt_of_lt_of_le hq hb.size
  clear hb
  go_wp2_with fail
  refine (det_ok p hp Aa ca a za ea hs _ sa).mono ?_
  rintro e w11 ⟨rfl, hb⟩
  replace sa := sa.next hb
  replace sb := sb.next hb
  replace sv := sv.next hb
  replace sc := sc.next hb
  replace s1 := s1.next hb
  replace hB := hB.trans (hb.mono hB.size)
  replace k0 := (hb.cell (p := ⟨w.heap.size, 0, none⟩) hq).trans k0
  replace k1 := (hb.cell (p := ⟨w.heap.size, 1, none⟩) hq).trans k1
  replace k2 := (hb.cell (p := ⟨w.heap.size, 2, none⟩) hq).trans k2
  replace k3 := (hb.cell (p := ⟨w.heap.size, 3, none⟩) hq).trans k3
  replace hq := Nat.lt_of_lt_of_le hq hb.size
  clear hb
  go_wp2_with fail
  refine (det_bad p Ab cb b zb hs2 _ sb).mono ?_
  rintro e w12 ⟨rfl, hb⟩
  replace sa := sa.next hb
  replace sb := sb.next hb
  replace sv := sv.next hb
  replace sc := sc.next hb
  replace s1 := s1.next hb
  replace hB := hB.trans (hb.mono hB.size)
  replace k0 := (hb.cell (p := ⟨w.heap.size, 0, none⟩) hq).trans k0
  replace k1 := (hb.cell (p := ⟨w.heap.size, 1, none⟩) hq).trans k1
  replace k2 := (hb.cell (p := ⟨w.heap.size, 2, none⟩) hq).trans k2
  replace k3 := (hb.cell (p := ⟨w.heap.size, 3, none⟩) hq).trans k3
  replace hq := Nat.lt_of_lt_of_le hq hb.size
  clear hb
  go_wp2_with fail
  refine (gdab _ _ _ s1).mono ?_
  rintro e w13 ⟨d6, x6, rfl, hb⟩
  replace sa := sa.next hb
  replace sb := sb.next hb
  replace sv := sv.next hb
  replace sc := sc.next hb
  replace s1 := s1.next hb
  replace hB := hB.trans (hb.mono hB.size)
  replace k0 := (hb.cell (p := ⟨w.heap.size, 0, none⟩) hq).trans k0
  replace k1 := (hb.cell (p := ⟨w.heap.size, 1, none⟩) hq).trans k1
  replace k2 := (hb.cell (p := ⟨w.heap.size, 2, none⟩) hq).trans k2
  replace k3 := (hb.cell (p := ⟨w.heap.size, 3, none⟩) hq).trans k3
  replace hq := Nat.lt_of_lt_of_le hq hb.size
  clear hb
  go_wp2_with fail
  refine (awake_any _).mono ?_
  rintro e w14 ⟨rfl, hb⟩
  replace sa := sa.next hb
  replace sb := sb.next hb
  replace sv := sv.next hb
  replace sc := sc.next hb
  replace s1 := s1.next hb
  replace hB := hB.trans (hb.mono hB.size)
  replace k0 := (hb.cell (p := ⟨w.heap.size, 0, none⟩) hq).trans k0
  replace k1 := (hb.cell (p := ⟨w.heap.size, 1, none⟩) hq).trans k1
  replace k2 := (hb.cell (p := ⟨w.heap.size, 2, none⟩) hq).trans k2
  replace k3 := (hb.cell (p := ⟨w.heap.size, 3, none⟩) hq).trans k3
  replace hq := Nat.lt_of_lt_of_le hq hb.size
  clear hb
  go_wp2_with fail
  go_ret
  exact ⟨rfl, hB⟩

set_option maxRecDepth 100000 in
set_option maxHeartbeats 4000000 in
theorem walk_sq (p : Int) (Aa : Option Addr) (ca : Nat) (a : List (List Int)) (Ab : Option Addr) (cb : Nat) (b : List (List Int)) (Av : Option Addr) (cv : Nat) (v : List Int) (Ac : Option Addr) (cc : Nat) (c : List (List Int)) (wa : ∀ r ∈ a, Words r) (wb : ∀ r ∈ b, Words r) (_wv : Words v) (wc : ∀ r ∈ c, Words r) (_lc : c.length ≤ 9223372036854775807) (hv : (fairB p a 10 && fairB p b 10 && belB p v 10) = true) (hc : fairB p c 6 = true) (h1 : mulB a b = true) (h2 : mulB b c = true) (h0 : b.length ≠ 0) (hs : squ a = true) (hs2 : squ b = true) (w : World) (sa : Sll w Aa ca a) (sb : Sll w Ab cb b) (sv : Sl w Av cv v) (sc : Sll w Ac cc c) :
    Calls Try.prog 8 #[.agg #[.int .u64 p, .slice Aa a.length ca, .slice Ab b.length cb, .slice Av v.length cv], .slice Ac c.length cc] w fun e w' => e = .returned (.bool true) ∧ Below w.heap.size w w' := by
  have hv0 := hv
  rw [Bool.and_eq_true, Bool.and_eq_true] at hv0
  obtain ⟨hp, za, ea, na, la⟩ := fair_is (by omega) wa hv0.1.1
  obtain ⟨_, zb, eb, nb, lb⟩ := fair_is (by omega) wb hv0.1.2
  obtain ⟨_, zc, ec, nc, lcc⟩ := fair_is (by omega) wc hc
  have hg := hp.good
  have hbd := hp.bd
  have gv := fun W h1 h2 h3 => valid_any p Aa Ab Av ca cb cv a b v W h1 h2 h3
  rw [hv] at gv
  have gc := fun W (h : Sll W Ac cc c) => fair_any p Ac cc 6 c (by omega) W h
  rw [hc] at gc
  obtain ⟨ra, rb, nab⟩ := mulB_iff.1 h1
  have hAB := mulM_mat (p := p) (by omega) a b
  have lb0 : ncol b ≤ 10 := lb 0
  have zAB : Sized (mulM p a b) := hAB.sized (by omega) (by omega)
  have gab := fun W (q1 : Sll W Aa ca a) (q2 : Sll W Ab cb b) => mul_ok p hp Aa Ab ca cb a b za zb ea eb ra rb nab W q1 q2
  obtain ⟨_, rc, nbc⟩ := mulB_iff.1 h2
  have hBC := mulM_mat (p := p) (by omega) b c
  have lc0 : ncol c ≤ 6 := lcc 0
  have zBC : Sized (mulM p b c) := hBC.sized (by omega) (by omega)
  have gbc := fun W (q1 : Sll W Ab cb b) (q2 : Sll W Ac cc c) => mul_ok p hp Ab Ac cb cc b c zb zc eb ec rb rc nbc W q1 q2
  obtain ⟨k1', k2'⟩ := rank_mul hg ra rb ea eb nab
  have kk1 : (rnk p (mulM p a b) : Int) ≤ rnk p a := by omega
  have kk2 : (rnk p (mulM p a b) : Int) ≤ rnk p b := by omega
  have gr1 := fun W A c (q : Sll W A c (mulM p a b)) => rank_ok p hp A c (mulM p a b) zAB hAB.els hAB.isRect W q
  have gr2 := fun W (q : Sll W Aa ca a) => rank_ok p hp Aa ca a za ea ra W q
  have gr3 := fun W (q : Sll W Ab cb b) => rank_ok p hp Ab cb b zb eb rb W q
  have gdb := fun W (q : Sll W Ab cb b) => det_gen p hp Ab cb b zb eb W q
  have gdab := fun W A c (q : Sll W A c (mulM p a b)) => det_gen p hp A c (mulM p a b) zAB hAB.els W q
  have h0' : (0 : Int) < b.length := by omega
  have has := mul_assoc_rows (p := p) (C := c) (by omega) ra rb nab (show 0 < b.length by omega)
  have ha0 : 0 < a.length := ncol_pos (by omega)
  have gl := fun W A d (q1 : Sll W A d (mulM p a b)) (q2 : Sll W Ac cc c) => mul_ok p hp A Ac d cc (mulM p a b) c zAB zc hAB.els ec hAB.isRect rc (by rw [hAB.cols ha0]; exact nbc) W q1 q2
  have gr := fun W A d (q1 : Sll W Aa ca a) (q2 : Sll W A d (mulM p b c)) => mul_ok p hp Aa A ca d a (mulM p b c) za zBC ea hBC.els ra hBC.isRect (by rw [mulM_len]; exact nab) W q1 q2
  rw [← has] at gr
  have hL := mulM_mat (p := p) (by omega) (mulM p a b) c
  have zL : Sized (mulM p (mulM p a b) c) := hL.sized (by rw [mulM_len]; omega) (by omega)
  clear has
  have gd1 := fun W (q : Sll W Aa ca a) => det_ok p hp Aa ca a za ea hs W q
  have gd2 := fun W (q : Sll W Ab cb b) => det_ok p hp Ab cb b zb eb hs2 W q
  have gd3 := fun W A c (q : Sll W A c (mulM p a b)) => det_ok p hp A c (mulM p a b) zAB hAB.els (mulM_sq (by omega) hs hs2 nab) W q
  rw [det_mulM hg hs hs2 ea eb nab] at gd3
  have hb1 := dtm_bd hg hs ea
  have hb2 := dtm_bd hg hs2 eb
  generalize rnk p (mulM p a b) = R1 at *
  generalize rnk p a = R2 at *
  generalize rnk p b = R3 at *
  clear k1' k2'
  generalize dtm p a = D1 at *
  generalize dtm p b = D2 at *
  replace sa := sa.push (.cells #[.int .u64 p, .slice Aa a.length ca, .slice Ab b.length cb, .slice Av v.length cv] 26)
  replace sb := sb.push (.cells #[.int .u64 p, .slice Aa a.length ca, .slice Ab b.length cb, .slice Av v.length cv] 26)
  replace sv := sv.push (.cells #[.int .u64 p, .slice Aa a.length ca, .slice Ab b.length cb, .slice Av v.length cv] 26)
  replace sc := sc.push (.cells #[.int .u64 p, .slice Aa a.length ca, .slice Ab b.length cb, .slice Av v.length cv] 26)
  have k0 : (w.alloc (.cells #[.int .u64 p, .slice Aa a.length ca, .slice Ab b.length cb, .slice Av v.length cv] 26)).cell? ⟨w.heap.size, 0, none⟩ = some (.int .u64 p) := by go_simp
  have k1 : (w.alloc (.cells #[.int .u64 p, .slice Aa a.length ca, .slice Ab b.length cb, .slice Av v.length cv] 26)).cell? ⟨w.heap.size, 1, none⟩ = some (.slice Aa a.length ca) := by go_simp
  have k2 : (w.alloc (.cells #[.int .u64 p, .slice Aa a.length ca, .slice Ab b.length cb, .slice Av v.length cv] 26)).cell? ⟨w.heap.size, 2, none⟩ = some (.slice Ab b.length cb) := by go_simp
  have k3 : (w.alloc (.cells #[.int .u64 p, .slice Aa a.length ca, .slice Ab b.length cb, .slice Av v.length cv] 26)).cell? ⟨w.heap.size, 3, none⟩ = some (.slice Av v.length cv) := by go_simp
  have hq : w.heap.size < (w.alloc (.cells #[.int .u64 p, .slice Aa a.length ca, .slice Ab b.length cb, .slice Av v.length cv] 26)).heap.size := by simp
  have hB := bnew (Below.refl w.heap.size w) (.cells #[.int .u64 p, .slice Aa a.length ca, .slice Ab b.length cb, .slice Av v.length cv] 26) (Nat.le_refl _)
  go_enter Try.func8, Try.ntmps8
  go_wp2_with fail
  refine (gv _ sa sb sv).mono ?_
  rintro e w1 ⟨rfl, hb⟩
  replace sa := sa.next hb
  replace sb := sb.next hb
  replace sv := sv.next hb
  replace sc := sc.next hb
  replace hB := hB.trans (hb.mono hB.size)
  replace k0 := (hb.cell (p := ⟨w.heap.size, 0, none⟩) hq).trans k0
  replace k1 := (hb.cell (p := ⟨w.heap.size, 1, none⟩) hq).trans k1
  replace k2 := (hb.cell (p := ⟨w.heap.size, 2, none⟩) hq).trans k2
  replace k3 := (hb.cell (p := ⟨w.heap.size, 3, none⟩) hq).trans k3
  replace hq := Nat.lt_of_lt_of_le hq hb.size
  clear hb
  go_wp2_with fail
  refine (gc _ sc).mono ?_
  rintro e w2 ⟨rfl, hb⟩
  replace sa := sa.next hb
  replace sb := sb.next hb
  replace sv := sv.next hb
  replace sc := sc.next hb
  replace hB := hB.trans (hb.mono hB.size)
  replace k0 := (hb.cell (p := ⟨w.heap.size, 0, none⟩) hq).trans k0
  replace k1 := (hb.cell (p := ⟨w.heap.size, 1, none⟩) hq).trans k1
  replace k2 := (hb.cell (p := ⟨w.heap.size, 2, none⟩) hq).trans k2
  replace k3 := (hb.cell (p := ⟨w.heap.size, 3, none⟩) hq).trans k3
  replace hq := Nat.lt_of_lt_of_le hq hb.size
  clear hb
  go_wp2_with fail
  refine (gab _ sa sb).mono ?_
  rintro e w3 ⟨A1, c1, rfl, s1, hb⟩
  replace sa := sa.next hb
  replace sb := sb.next hb
  replace sv := sv.next hb
  replace sc := sc.next hb
  replace hB := hB.trans (hb.mono hB.size)
  replace k0 := (hb.cell (p := ⟨w.heap.size, 0, none⟩) hq).trans k0
  replace k1 := (hb.cell (p := ⟨w.heap.size, 1, none⟩) hq).trans k1
  replace k2 := (hb.cell (p := ⟨w.heap.size, 2, none⟩) hq).trans k2
  replace k3 := (hb.cell (p := ⟨w.heap.size, 3, none⟩) hq).trans k3
  replace hq := Nat.lt_of_lt_of_le hq hb.size
  clear hb
  go_wp2_with fail
  refine (gbc _ sb sc).mono ?_
  rintro e w4 ⟨A2, c2, rfl, s2, hb⟩
  replace sa := sa.next hb
  replace sb := sb.next hb
  replace sv := sv.next hb
  replace sc := sc.next hb
  replace s1 := s1.next hb
  replace hB := hB.trans (hb.mono hB.size)
  replace k0 := (hb.cell (p := ⟨w.heap.size, 0, none⟩) hq).trans k0
  replace k1 := (hb.cell (p := ⟨w.heap.size, 1, none⟩) hq).trans k1
  replace k2 := (hb.cell (p := ⟨w.heap.size, 2, none⟩) hq).trans k2
  replace k3 := (hb.cell (p := ⟨w.heap.size, 3, none⟩) hq).trans k3
  replace hq := Nat.lt_of_lt_of_le hq hb.size
  clear hb
  go_wp2_with fail
  refine (gl _ _ _ s1 sc).mono ?_
  rintro e w5 ⟨A3, c3, rfl, s3, hb⟩
  replace sa := sa.next hb
  replace sb := sb.next hb
  replace sv := sv.next hb
  replace sc := sc.next hb
  replace s1 := s1.next hb
  replace s2 := s2.next hb
  replace hB := hB.trans (hb.mono hB.size)
  replace k0 := (hb.cell (p := ⟨w.heap.size, 0, none⟩) hq).trans k0
  replace k1 := (hb.cell (p := ⟨w.heap.size, 1, none⟩) hq).trans k1
  replace k2 := (hb.cell (p := ⟨w.heap.size, 2, none⟩) hq).trans k2
  replace k3 := (hb.cell (p := ⟨w.heap.size, 3, none⟩) hq).trans k3
  replace hq := Nat.lt_of_lt_of_le hq hb.size
  clear hb
  go_wp2_with fail
  refine (gr _ _ _ sa s2).mono ?_
  rintro e w6 ⟨A4, c4, rfl, s4, hb⟩
  replace sa := sa.next hb
  replace sb := sb.next hb
  replace sv := sv.next hb
  replace sc := sc.next hb
  replace s1 := s1.next hb
  replace s3 := s3.next hb
  replace hB := hB.trans (hb.mono hB.size)
  replace k0 := (hb.cell (p := ⟨w.heap.size, 0, none⟩) hq).trans k0
  replace k1 := (hb.cell (p := ⟨w.heap.size, 1, none⟩) hq).trans k1
  replace k2 := (hb.cell (p := ⟨w.heap.size, 2, none⟩) hq).trans k2
  replace k3 := (hb.cell (p := ⟨w.heap.size, 3, none⟩) hq).trans k3
  replace hq := Nat.lt_of_lt_of_le hq hb.size
  clear hb s2
  go_wp2_with fail
  refine (sameM_b _ _ _ _ _ _ s3 s4 zL).mono ?_
  rintro e w7 ⟨rfl, hb⟩
  replace sa := sa.next hb
  replace sb := sb.next hb
  replace sv := sv.next hb
  replace sc := sc.next hb
  replace s1 := s1.next hb
  replace hB := hB.trans (hb.mono hB.size)
  replace k0 := (hb.cell (p := ⟨w.heap.size, 0, none⟩) hq).trans k0
  replace k1 := (hb.cell (p := ⟨w.heap.size, 1, none⟩) hq).trans k1
  replace k2 := (hb.cell (p := ⟨w.heap.size, 2, none⟩) hq).trans k2
  replace k3 := (hb.cell (p := ⟨w.heap.size, 3, none⟩) hq).trans k3
  replace hq := Nat.lt_of_lt_of_le hq hb.size
  clear hb s3 s4
  go_wp2_with fail
  refine (gr1 _ _ _ s1).mono ?_
  rintro e w8 ⟨rfl, hb⟩
  replace sa := sa.next hb
  replace sb := sb.next hb
  replace sv := sv.next hb
  replace sc := sc.next hb
  replace s1 := s1.next hb
  replace hB := hB.trans (hb.mono hB.size)
  replace k0 := (hb.cell (p := ⟨w.heap.size, 0, none⟩) hq).trans k0
  replace k1 := (hb.cell (p := ⟨w.heap.size, 1, none⟩) hq).trans k1
  replace k2 := (hb.cell (p := ⟨w.heap.size, 2, none⟩) hq).trans k2
  replace k3 := (hb.cell (p := ⟨w.heap.size, 3, none⟩) hq).trans k3
  replace hq := Nat.lt_of_lt_of_le hq hb.size
  clear hb
  go_wp2_with fail
  refine (gr2 _ sa).mono ?_
  rintro e w9 ⟨rfl, hb⟩
  replace sa := sa.next hb
  replace sb := sb.next hb
  replace sv := sv.next hb
  replace sc := sc.next hb
  replace s1 := s1.next hb
  replace hB := hB.trans (hb.mono hB.size)
  replace k0 := (hb.cell (p := ⟨w.heap.size, 0, none⟩) hq).trans k0
  replace k1 := (hb.cell (p := ⟨w.heap.size, 1, none⟩) hq).trans k1
  replace k2 := (hb.cell (p := ⟨w.heap.size, 2, none⟩) hq).trans k2
  replace k3 := (hb.cell (p := ⟨w.heap.size, 3, none⟩) hq).trans k3
  replace hq := Nat.lt_of_lt_of_le hq hb.size
  clear hb
  go_wp2_with fail
  refine (gr3 _ sb).mono ?_
  rintro e w10 ⟨rfl, hb⟩
  replace sa := sa.next hb
  replace sb := sb.next hb
  replace sv := sv.next hb
  replace sc := sc.next hb
  replace s1 := s1.next hb
  replace hB := hB.trans (hb.mono hB.size)
  replace k0 := (hb.cell (p := ⟨w.heap.size, 0, none⟩) hq).trans k0
  replace k1 := (hb.cell (p := ⟨w.heap.size, 1, none⟩) hq).trans k1
  replace k2 := (hb.cell (p := ⟨w.heap.size, 2, none⟩) hq).trans k2
  replace k3 := (hb.cell (p := ⟨w.heap.size, 3, none⟩) hq).trans k3
  replace hq := Nat.lt_of_lt_of_le hq hb.size
  clear hb
  go_wp2_with fail
  refine (gd1 _ sa).mono ?_
  rintro e w11 ⟨rfl, hb⟩
  replace sa := sa.next hb
  replace sb := sb.next hb
  replace sv := sv.next hb
  replace sc := sc.next hb
  replace s1 := s1.next hb
  replace hB := hB.trans (hb.mono hB.size)
  replace k0 := (hb.cell (p := ⟨w.heap.size, 0, none⟩) hq).trans k0
  replace k1 := (hb.cell (p := ⟨w.heap.size, 1, none⟩) hq).trans k1
  replace k2 := (hb.cell (p := ⟨w.heap.size, 2, none⟩) hq).trans k2
  replace k3 := (hb.cell (p := ⟨w.heap.size, 3, none⟩) hq).trans k3
  replace hq := Nat.lt_of_lt_of_le hq hb.size
  clear hb
  go_wp2_with fail
  refine (gd2 _ sb).mono ?_
  rintro e w12 ⟨rfl, hb⟩
  replace sa := sa.next hb
  replace sb := sb.next hb
  replace sv := sv.next hb
  replace sc := sc.next hb
  replace s1 := s1.next hb
  replace hB := hB.trans (hb.mono hB.size)
  replace k0 := (hb.cell (p := ⟨w.heap.size, 0, none⟩) hq).trans k0
  replace k1 := (hb.cell (p := ⟨w.heap.size, 1, none⟩) hq).trans k1
  replace k2 := (hb.cell (p := ⟨w.heap.size, 2, none⟩) hq).trans k2
  replace k3 := (hb.cell (p := ⟨w.heap.size, 3, none⟩) hq).trans k3
  replace hq := Nat.lt_of_lt_of_le hq hb.size
  clear hb
  go_wp2_with fail
  refine (gd3 _ _ _ s1).mono ?_
  rintro e w13 ⟨rfl, hb⟩
  replace sa := sa.next hb
  replace sb := sb.next hb
  replace sv := sv.next hb
  replace sc := sc.next hb
  replace s1 := s1.next hb
  replace hB := hB.trans (hb.mono hB.size)
  replace k0 := (hb.cell (p := ⟨w.heap.size, 0, none⟩) hq).trans k0
  replace k1 := (hb.cell (p := ⟨w.heap.size, 1, none⟩) hq).trans k1
  replace k2 := (hb.cell (p := ⟨w.heap.size, 2, none⟩) hq).trans k2
  replace k3 := (hb.cell (p := ⟨w.heap.size, 3, none⟩) hq).trans k3
  replace hq := Nat.lt_of_lt_of_le hq hb.size
  clear hb
  go_wp2_with fail
  refine (mul_any _ _ _ hp hb1.1 hb1.2 hb2.1 hb2.2 _).mono ?_
  rintro e w' ⟨rfl, rfl⟩
  go_wp2_with fail
  refine (awake_any _).mono ?_
  rintro e w15 ⟨rfl, hb⟩
  replace sa := sa.next hb
  replace sb := sb.next hb
  replace sv := sv.next hb
  replace sc := sc.next hb
  replace s1 := s1.next hb
  replace hB := hB.trans (hb.mono hB.size)
  replace k0 := (hb.cell (p := ⟨w.heap.size, 0, none⟩) hq).trans k0
  replace k1 := (hb.cell (p := ⟨w.heap.size, 1, none⟩) hq).trans k1
  replace k2 := (hb.cell (p := ⟨w.heap.size, 2, none⟩) hq).trans k2
  replace k3 := (hb.cell (p := ⟨w.heap.size, 3, none⟩) hq).trans k3
  replace hq := Nat.lt_of_lt_of_le hq hb.size
  clear hb
  go_wp2_with fail
  go_ret
  exact ⟨rfl, hB⟩

set_option maxRecDepth 100000 in
set_option maxHeartbeats 4000000 in
theorem walk (p : Int) (Aa : Option Addr) (ca : Nat) (a : List (List Int)) (Ab : Option Addr) (cb : Nat) (b : List (List Int)) (Av : Option Addr) (cv : Nat) (v : List Int) (Ac : Option Addr) (cc : Nat) (c : List (List Int)) (wa : ∀ r ∈ a, Words r) (wb : ∀ r ∈ b, Words r) (wv : Words v) (wc : ∀ r ∈ c, Words r) (lc : c.length ≤ 9223372036854775807)  (w : World) (sa : Sll w Aa ca a) (sb : Sll w Ab cb b) (sv : Sl w Av cv v) (sc : Sll w Ac cc c) :
    Calls Try.prog 8 #[.agg #[.int .u64 p, .slice Aa a.length ca, .slice Ab b.length cb, .slice Av v.length cv], .slice Ac c.length cc] w fun e w' => e = .returned (.bool true) ∧ Below w.heap.size w w' := by
  cases hv : (fairB p a 10 && fairB p b 10 && belB p v 10) with
  | false => exact walk_invalid p Aa ca a Ab cb b Av cv v Ac cc c wa wb wv wc lc hv w sa sb sv sc
  | true =>
    cases hc : fairB p c 6 with
    | false => exact walk_unfair p Aa ca a Ab cb b Av cv v Ac cc c wa wb wv wc lc hv hc w sa sb sv sc
    | true =>
      cases h1 : mulB a b with
      | false => exact walk_ab p Aa ca a Ab cb b Av cv v Ac cc c wa wb wv wc lc hv hc h1 w sa sb sv sc
      | true =>
        cases h2 : mulB b c with
        | false => exact walk_bc p Aa ca a Ab cb b Av cv v Ac cc c wa wb wv wc lc hv hc h1 h2 w sa sb sv sc
        | true =>
          by_cases h0 : b.length = 0
          · exact walk_empty p Aa ca a Ab cb b Av cv v Ac cc c wa wb wv wc lc hv hc h1 h2 h0 w sa sb sv sc
          · cases hs : squ a with
            | false => exact walk_nsa p Aa ca a Ab cb b Av cv v Ac cc c wa wb wv wc lc hv hc h1 h2 h0 hs w sa sb sv sc
            | true =>
              cases hs2 : squ b with
              | false => exact walk_nsb p Aa ca a Ab cb b Av cv v Ac cc c wa wb wv wc lc hv hc h1 h2 h0 hs hs2 w sa sb sv sc
              | true => exact walk_sq p Aa ca a Ab cb b Av cv v Ac cc c wa wb wv wc lc hv hc h1 h2 h0 hs hs2 w sa sb sv sc

set_option maxRecDepth 100000 in
theorem lifted (os : Os) (started : os.Started) (H : Type) (enc : TypeId × Value → H) :
    ReturnsInHanded {} Try.checked os 8 .any (Rows.matrixAssociativeSpec.pre6 enc Try.prog Try.f8 Rows.matrixAssociativeRow.domain false) (Rows.matrixAssociativeSpec.post enc Try.prog Try.f8 false true false false) := by
  refine returnsInHanded_of_change (C := Try.checked) own started (by kernel_rfl) Try.func8
    (ChangeSpec.witness6 (enc := enc) (C := Try.checked) false ⟨#[], #[.agg #[.int .u64 0, .slice none 0 0, .slice none 0 0, .slice none 0 0], .slice none 0 0], []⟩ 8 (by kernel_rfl) (by kernel_rfl) (by kernel_rfl) (by kernel_rfl)) ?_
  intro W base args ds gs before hval0 hW hcnd _
  have hval : ∀ (j : Nat) t v, Try.f8.params[j]? = some t → args[j]? = some v → Value.okWide Try.prog W .any base t v := hval0
  have hW' := hW
  obtain ⟨p, q, hA0, hV, rfl, hfz, hnd⟩ := hW
  have hA : DataW.TrodAll enc Try.prog W 0 (fun _ => true) true Try.f8.params.toList args.toList ds p := hA0
  rw [Try.params8] at hA hval
  obtain ⟨v0, v1, d0, d1, p0, p1, rfl, rfl, rfl, t0, t1⟩ := trodAll_two hA
  obtain ⟨rfl, rfl⟩ := trodVars_none hV
  clear hA0 hval0
  simp only [List.append_nil] at hW'
  have l0 : ∀ x ∈ p0, x.block < W.heap.size := fun x hx => hW'.lt x (by simp [hx])
  obtain ⟨x0, A0, a0, ca0, B0, b0, cb0, V0, u0, cu0, rfl, _, sa0, wa0, sb0, wb0, sv0, wv0⟩ := arg_ops (hval 0 26 v0 rfl rfl) t0 l0
  have l1 : ∀ x ∈ p1, x.block < W.heap.size := fun x hx => hW'.lt x (by simp [hx])
  obtain ⟨A1, x1, c1, rfl, r1, b1, n1⟩ := arg_ll (hval 1 23 v1 rfl rfl) t1 l1
  refine (walk x0 A0 ca0 a0 B0 cb0 b0 V0 cu0 u0 A1 c1 x1 wa0 wb0 wv0 b1 n1 W sa0 sb0 sv0 r1).mono fun e W' ⟨he, hb⟩ => ?_
  subst he
  exact ⟨_, rfl, post_of_below (pa := p0 ++ p1) (pv := []) hW' (fun _ _ _ => (trodAll_cons_mk (shut_bool Try.underlying4 _) trodAll_mk0)) (fun sp hsp => trodAll_mk2 (stay_ops t0 hb l0 sp (fun x hx => hsp x (by simp [hx]))) (stay_ll t1 hb l1 sp (fun x hx => hsp x (by simp [hx])))) (fun _ _ => rfl) (by simp)
    hb (ok_one (by kernel_rfl) rfl (okWide_bool_mk Try.underlying4 _))⟩

theorem over : Rows.matrixAssociativeRow.holds Try.pinned (OpenSpec.ofChange Rows.matrixAssociativeSpec) :=
  OpenClaim.holds_of_wide 8 Try.f8 rfl rfl rfl rfl rfl rfl rfl ⟨rfl, rfl, rfl, rfl, rfl⟩ rfl rfl rfl rfl rfl (by kernel_rfl) Try.func8 (by kernel_rfl)
    (of_decide_eq_true (by kernel_rfl)) (by unfold Func.isWrapper; first | (rw [if_pos (by decide +kernel)]; kernel_rfl) | (rw [if_neg (by decide +kernel)]; exact ⟨rfl, rfl⟩))
    (fun os started H enc _ => lifted os started H enc)

theorem proved : Rows.MatrixAssociativeSaid := over
end Go.Proofs.Ytgkhngiiimnchaa.matrixAssociative
