/- Complete agrees with the specification for every matrix and all fixed components. No conditions. -/
import Derived.Test.YtjijlefplidhpaaHRefA
import Derived.Test.YtjijlefplidhpaaHRefE
namespace Go.Proofs.Ytjijlefplidhpaa.hyperinvertibleCompleteMatchesReference
set_option maxRecDepth 100000
open Go.ChangeShapes Go.WideShapes Go.ChangeAt Go.RowKit PolyMath FieldMath MatMath

set_option maxHeartbeats 4000000 in
theorem walk_unsup (p : Int) (Am : Option Addr) (cm : Nat) (m : List (List Int)) (Ai : Option Addr) (ci : Nat) (ins : List (Int × Int)) (Ao : Option Addr) (co_ : Nat) (outs : List (Int × Int)) (_wm : ∀ r ∈ m, Words r) (_lm : m.length ≤ 9223372036854775807) (_wi : PWords ins) (_wo : PWords outs) (hs : (qOf p != 0) = false) (w : World) (sm : Sll w Am cm m) (si : Pt w Ai ci ins) (so : Pt w Ao co_ outs) :
    Calls Try.prog 7 #[.agg #[.int .u64 p, .slice Am m.length cm, .slice Ai ins.length ci, .slice Ao outs.length co_]] w fun e w' => e = .returned (.bool true) ∧ Below w.heap.size w w' := by
  have gs := fun W => rSupported_any p W
  rw [hs] at gs
  replace sm := sm.push (.cells #[.int .u64 p, .slice Am m.length cm, .slice Ai ins.length ci, .slice Ao outs.length co_] 48)
  replace si := si.push (.cells #[.int .u64 p, .slice Am m.length cm, .slice Ai ins.length ci, .slice Ao outs.length co_] 48)
  replace so := so.push (.cells #[.int .u64 p, .slice Am m.length cm, .slice Ai ins.length ci, .slice Ao outs.length co_] 48)
  have k0 : (w.alloc (.cells #[.int .u64 p, .slice Am m.length cm, .slice Ai ins.length ci, .slice Ao outs.length co_] 48)).cell? ⟨w.heap.size, 0, none⟩ = some (.int .u64 p) := by go_simp
  have k1 : (w.alloc (.cells #[.int .u64 p, .slice Am m.length cm, .slice Ai ins.length ci, .slice Ao outs.length co_] 48)).cell? ⟨w.heap.size, 1, none⟩ = some (.slice Am m.length cm) := by go_simp
  have k2 : (w.alloc (.cells #[.int .u64 p, .slice Am m.length cm, .slice Ai ins.length ci, .slice Ao outs.length co_] 48)).cell? ⟨w.heap.size, 2, none⟩ = some (.slice Ai ins.length ci) := by go_simp
  have k3 : (w.alloc (.cells #[.int .u64 p, .slice Am m.length cm, .slice Ai ins.length ci, .slice Ao outs.length co_] 48)).cell? ⟨w.heap.size, 3, none⟩ = some (.slice Ao outs.length co_) := by go_simp
  have hq : w.heap.size < (w.alloc (.cells #[.int .u64 p, .slice Am m.length cm, .slice Ai ins.length ci, .slice Ao outs.length co_] 48)).heap.size := by simp
  have hB := bnew (Below.refl w.heap.size w) (.cells #[.int .u64 p, .slice Am m.length cm, .slice Ai ins.length ci, .slice Ao outs.length co_] 48) (Nat.le_refl _)
  go_enter Try.func7, Try.ntmps7
  go_wp2_with fail
  refine (awake7_any _).mono ?_
  rintro e w1 ⟨rfl, hb⟩
  replace sm := sm.next hb
  replace si := si.next hb
  replace so := so.next hb
  replace hB := hB.trans (hb.mono hB.size)
  replace k0 := (hb.cell (p := ⟨w.heap.size, 0, none⟩) hq).trans k0
  replace k1 := (hb.cell (p := ⟨w.heap.size, 1, none⟩) hq).trans k1
  replace k2 := (hb.cell (p := ⟨w.heap.size, 2, none⟩) hq).trans k2
  replace k3 := (hb.cell (p := ⟨w.heap.size, 3, none⟩) hq).trans k3
  replace hq := Nat.lt_of_lt_of_le hq hb.size
  clear hb
  go_wp2_with fail
  refine (gs _).mono ?_
  rintro e w2 ⟨rfl, hb⟩
  replace sm := sm.next hb
  replace si := si.next hb
  replace so := so.next hb
  replace hB := hB.trans (hb.mono hB.size)
  replace k0 := (hb.cell (p := ⟨w.heap.size, 0, none⟩) hq).trans k0
  replace k1 := (hb.cell (p := ⟨w.heap.size, 1, none⟩) hq).trans k1
  replace k2 := (hb.cell (p := ⟨w.heap.size, 2, none⟩) hq).trans k2
  replace k3 := (hb.cell (p := ⟨w.heap.size, 3, none⟩) hq).trans k3
  replace hq := Nat.lt_of_lt_of_le hq hb.size
  clear hb
  go_wp2_with fail
  go_ret
  exact ⟨rfl, hB⟩

set_option maxHeartbeats 4000000 in
theorem walk_big (p : Int) (Am : Option Addr) (cm : Nat) (m : List (List Int)) (Ai : Option Addr) (ci : Nat) (ins : List (Int × Int)) (Ao : Option Addr) (co_ : Nat) (outs : List (Int × Int)) (_wm : ∀ r ∈ m, Words r) (_lm : m.length ≤ 9223372036854775807) (_wi : PWords ins) (_wo : PWords outs) (hs : (qOf p != 0) = true) (h1 : smallB m 7 7 = false) (w : World) (sm : Sll w Am cm m) (si : Pt w Ai ci ins) (so : Pt w Ao co_ outs) :
    Calls Try.prog 7 #[.agg #[.int .u64 p, .slice Am m.length cm, .slice Ai ins.length ci, .slice Ao outs.length co_]] w fun e w' => e = .returned (.bool true) ∧ Below w.heap.size w w' := by
  have gs := fun W => rSupported_any p W
  rw [hs] at gs
  have gm := fun W (q : Sll W Am cm m) => small_any Am cm 7 7 m (by omega) W q
  rw [h1] at gm
  replace sm := sm.push (.cells #[.int .u64 p, .slice Am m.length cm, .slice Ai ins.length ci, .slice Ao outs.length co_] 48)
  replace si := si.push (.cells #[.int .u64 p, .slice Am m.length cm, .slice Ai ins.length ci, .slice Ao outs.length co_] 48)
  replace so := so.push (.cells #[.int .u64 p, .slice Am m.length cm, .slice Ai ins.length ci, .slice Ao outs.length co_] 48)
  have k0 : (w.alloc (.cells #[.int .u64 p, .slice Am m.length cm, .slice Ai ins.length ci, .slice Ao outs.length co_] 48)).cell? ⟨w.heap.size, 0, none⟩ = some (.int .u64 p) := by go_simp
  have k1 : (w.alloc (.cells #[.int .u64 p, .slice Am m.length cm, .slice Ai ins.length ci, .slice Ao outs.length co_] 48)).cell? ⟨w.heap.size, 1, none⟩ = some (.slice Am m.length cm) := by go_simp
  have k2 : (w.alloc (.cells #[.int .u64 p, .slice Am m.length cm, .slice Ai ins.length ci, .slice Ao outs.length co_] 48)).cell? ⟨w.heap.size, 2, none⟩ = some (.slice Ai ins.length ci) := by go_simp
  have k3 : (w.alloc (.cells #[.int .u64 p, .slice Am m.length cm, .slice Ai ins.length ci, .slice Ao outs.length co_] 48)).cell? ⟨w.heap.size, 3, none⟩ = some (.slice Ao outs.length co_) := by go_simp
  have hq : w.heap.size < (w.alloc (.cells #[.int .u64 p, .slice Am m.length cm, .slice Ai ins.length ci, .slice Ao outs.length co_] 48)).heap.size := by simp
  have hB := bnew (Below.refl w.heap.size w) (.cells #[.int .u64 p, .slice Am m.length cm, .slice Ai ins.length ci, .slice Ao outs.length co_] 48) (Nat.le_refl _)
  go_enter Try.func7, Try.ntmps7
  go_wp2_with fail
  refine (awake7_any _).mono ?_
  rintro e w1 ⟨rfl, hb⟩
  replace sm := sm.next hb
  replace si := si.next hb
  replace so := so.next hb
  replace hB := hB.trans (hb.mono hB.size)
  replace k0 := (hb.cell (p := ⟨w.heap.size, 0, none⟩) hq).trans k0
  replace k1 := (hb.cell (p := ⟨w.heap.size, 1, none⟩) hq).trans k1
  replace k2 := (hb.cell (p := ⟨w.heap.size, 2, none⟩) hq).trans k2
  replace k3 := (hb.cell (p := ⟨w.heap.size, 3, none⟩) hq).trans k3
  replace hq := Nat.lt_of_lt_of_le hq hb.size
  clear hb
  go_wp2_with fail
  refine (gs _).mono ?_
  rintro e w2 ⟨rfl, hb⟩
  replace sm := sm.next hb
  replace si := si.next hb
  replace so := so.next hb
  replace hB := hB.trans (hb.mono hB.size)
  replace k0 := (hb.cell (p := ⟨w.heap.size, 0, none⟩) hq).trans k0
  replace k1 := (hb.cell (p := ⟨w.heap.size, 1, none⟩) hq).trans k1
  replace k2 := (hb.cell (p := ⟨w.heap.size, 2, none⟩) hq).trans k2
  replace k3 := (hb.cell (p := ⟨w.heap.size, 3, none⟩) hq).trans k3
  replace hq := Nat.lt_of_lt_of_le hq hb.size
  clear hb
  go_wp2_with fail
  refine (gm _ sm).mono ?_
  rintro e w' ⟨rfl, rfl⟩
  go_wp2_with fail
  go_ret
  exact ⟨rfl, hB⟩

set_option maxHeartbeats 4000000 in
theorem walk_bm (p : Int) (Am : Option Addr) (cm : Nat) (m : List (List Int)) (Ai : Option Addr) (ci : Nat) (ins : List (Int × Int)) (Ao : Option Addr) (co_ : Nat) (outs : List (Int × Int)) (_wm : ∀ r ∈ m, Words r) (_lm : m.length ≤ 9223372036854775807) (_wi : PWords ins) (_wo : PWords outs) (hs : (qOf p != 0) = true) (h1 : smallB m 7 7 = true) (h2 : belM p m = false) (w : World) (sm : Sll w Am cm m) (si : Pt w Ai ci ins) (so : Pt w Ao co_ outs) :
    Calls Try.prog 7 #[.agg #[.int .u64 p, .slice Am m.length cm, .slice Ai ins.length ci, .slice Ao outs.length co_]] w fun e w' => e = .returned (.bool true) ∧ Below w.heap.size w w' := by
  have gs := fun W => rSupported_any p W
  rw [hs] at gs
  have gm := fun W (q : Sll W Am cm m) => small_any Am cm 7 7 m (by omega) W q
  rw [h1] at gm
  obtain ⟨q1, q2⟩ := of_decide_eq_true h1
  have hro : ∀ i, (ro m i).length ≤ 7 := fun i => by
    by_cases hi : i < m.length
    · exact q2 _ (List.mem_of_getElem? (ro_get hi))
    · unfold ro; rw [List.getElem?_eq_none (by omega)]; exact Nat.zero_le _
  have gb := fun W (q : Sll W Am cm m) => belM_any p Am cm m (by omega) (fun i => by have := hro i; omega) W q
  rw [h2] at gb
  replace sm := sm.push (.cells #[.int .u64 p, .slice Am m.length cm, .slice Ai ins.length ci, .slice Ao outs.length co_] 48)
  replace si := si.push (.cells #[.int .u64 p, .slice Am m.length cm, .slice Ai ins.length ci, .slice Ao outs.length co_] 48)
  replace so := so.push (.cells #[.int .u64 p, .slice Am m.length cm, .slice Ai ins.length ci, .slice Ao outs.length co_] 48)
  have k0 : (w.alloc (.cells #[.int .u64 p, .slice Am m.length cm, .slice Ai ins.length ci, .slice Ao outs.length co_] 48)).cell? ⟨w.heap.size, 0, none⟩ = some (.int .u64 p) := by go_simp
  have k1 : (w.alloc (.cells #[.int .u64 p, .slice Am m.length cm, .slice Ai ins.length ci, .slice Ao outs.length co_] 48)).cell? ⟨w.heap.size, 1, none⟩ = some (.slice Am m.length cm) := by go_simp
  have k2 : (w.alloc (.cells #[.int .u64 p, .slice Am m.length cm, .slice Ai ins.length ci, .slice Ao outs.length co_] 48)).cell? ⟨w.heap.size, 2, none⟩ = some (.slice Ai ins.length ci) := by go_simp
  have k3 : (w.alloc (.cells #[.int .u64 p, .slice Am m.length cm, .slice Ai ins.length ci, .slice Ao outs.length co_] 48)).cell? ⟨w.heap.size, 3, none⟩ = some (.slice Ao outs.length co_) := by go_simp
  have hq : w.heap.size < (w.alloc (.cells #[.int .u64 p, .slice Am m.length cm, .slice Ai ins.length ci, .slice Ao outs.length co_] 48)).heap.size := by simp
  have hB := bnew (Below.refl w.heap.size w) (.cells #[.int .u64 p, .slice Am m.length cm, .slice Ai ins.length ci, .slice Ao outs.length co_] 48) (Nat.le_refl _)
  go_enter Try.func7, Try.ntmps7
  go_wp2_with fail
  refine (awake7_any _).mono ?_
  rintro e w1 ⟨rfl, hb⟩
  replace sm := sm.next hb
  replace si := si.next hb
  replace so := so.next hb
  replace hB := hB.trans (hb.mono hB.size)
  replace k0 := (hb.cell (p := ⟨w.heap.size, 0, none⟩) hq).trans k0
  replace k1 := (hb.cell (p := ⟨w.heap.size, 1, none⟩) hq).trans k1
  replace k2 := (hb.cell (p := ⟨w.heap.size, 2, none⟩) hq).trans k2
  replace k3 := (hb.cell (p := ⟨w.heap.size, 3, none⟩) hq).trans k3
  replace hq := Nat.lt_of_lt_of_le hq hb.size
  clear hb
  go_wp2_with fail
  refine (gs _).mono ?_
  rintro e w2 ⟨rfl, hb⟩
  replace sm := sm.next hb
  replace si := si.next hb
  replace so := so.next hb
  replace hB := hB.trans (hb.mono hB.size)
  replace k0 := (hb.cell (p := ⟨w.heap.size, 0, none⟩) hq).trans k0
  replace k1 := (hb.cell (p := ⟨w.heap.size, 1, none⟩) hq).trans k1
  replace k2 := (hb.cell (p := ⟨w.heap.size, 2, none⟩) hq).trans k2
  replace k3 := (hb.cell (p := ⟨w.heap.size, 3, none⟩) hq).trans k3
  replace hq := Nat.lt_of_lt_of_le hq hb.size
  clear hb
  go_wp2_with fail
  refine (gm _ sm).mono ?_
  rintro e w' ⟨rfl, rfl⟩
  go_wp2_with fail
  refine (gb _ sm).mono ?_
  rintro e w' ⟨rfl, rfl⟩
  go_wp2_with fail
  go_ret
  exact ⟨rfl, hB⟩

set_option maxHeartbeats 4000000 in
theorem walk_i8 (p : Int) (Am : Option Addr) (cm : Nat) (m : List (List Int)) (Ai : Option Addr) (ci : Nat) (ins : List (Int × Int)) (Ao : Option Addr) (co_ : Nat) (outs : List (Int × Int)) (_wm : ∀ r ∈ m, Words r) (_lm : m.length ≤ 9223372036854775807) (_wi : PWords ins) (_wo : PWords outs) (hs : (qOf p != 0) = true) (h1 : smallB m 7 7 = true) (h2 : belM p m = true) (h3 : 8 < ins.length) (w : World) (sm : Sll w Am cm m) (si : Pt w Ai ci ins) (so : Pt w Ao co_ outs) :
    Calls Try.prog 7 #[.agg #[.int .u64 p, .slice Am m.length cm, .slice Ai ins.length ci, .slice Ao outs.length co_]] w fun e w' => e = .returned (.bool true) ∧ Below w.heap.size w w' := by
  have gs := fun W => rSupported_any p W
  rw [hs] at gs
  have gm := fun W (q : Sll W Am cm m) => small_any Am cm 7 7 m (by omega) W q
  rw [h1] at gm
  obtain ⟨q1, q2⟩ := of_decide_eq_true h1
  have hro : ∀ i, (ro m i).length ≤ 7 := fun i => by
    by_cases hi : i < m.length
    · exact q2 _ (List.mem_of_getElem? (ro_get hi))
    · unfold ro; rw [List.getElem?_eq_none (by omega)]; exact Nat.zero_le _
  have gb := fun W (q : Sll W Am cm m) => belM_any p Am cm m (by omega) (fun i => by have := hro i; omega) W q
  rw [h2] at gb
  have h3' : (8 : Int) < ins.length := by omega
  replace sm := sm.push (.cells #[.int .u64 p, .slice Am m.length cm, .slice Ai ins.length ci, .slice Ao outs.length co_] 48)
  replace si := si.push (.cells #[.int .u64 p, .slice Am m.length cm, .slice Ai ins.length ci, .slice Ao outs.length co_] 48)
  replace so := so.push (.cells #[.int .u64 p, .slice Am m.length cm, .slice Ai ins.length ci, .slice Ao outs.length co_] 48)
  have k0 : (w.alloc (.cells #[.int .u64 p, .slice Am m.length cm, .slice Ai ins.length ci, .slice Ao outs.length co_] 48)).cell? ⟨w.heap.size, 0, none⟩ = some (.int .u64 p) := by go_simp
  have k1 : (w.alloc (.cells #[.int .u64 p, .slice Am m.length cm, .slice Ai ins.length ci, .slice Ao outs.length co_] 48)).cell? ⟨w.heap.size, 1, none⟩ = some (.slice Am m.length cm) := by go_simp
  have k2 : (w.alloc (.cells #[.int .u64 p, .slice Am m.length cm, .slice Ai ins.length ci, .slice Ao outs.length co_] 48)).cell? ⟨w.heap.size, 2, none⟩ = some (.slice Ai ins.length ci) := by go_simp
  have k3 : (w.alloc (.cells #[.int .u64 p, .slice Am m.length cm, .slice Ai ins.length ci, .slice Ao outs.length co_] 48)).cell? ⟨w.heap.size, 3, none⟩ = some (.slice Ao outs.length co_) := by go_simp
  have hq : w.heap.size < (w.alloc (.cells #[.int .u64 p, .slice Am m.length cm, .slice Ai ins.length ci, .slice Ao outs.length co_] 48)).heap.size := by simp
  have hB := bnew (Below.refl w.heap.size w) (.cells #[.int .u64 p, .slice Am m.length cm, .slice Ai ins.length ci, .slice Ao outs.length co_] 48) (Nat.le_refl _)
  go_enter Try.func7, Try.ntmps7
  go_wp2_with fail
  refine (awake7_any _).mono ?_
  rintro e w1 ⟨rfl, hb⟩
  replace sm := sm.next hb
  replace si := si.next hb
  replace so := so.next hb
  replace hB := hB.trans (hb.mono hB.size)
  replace k0 := (hb.cell (p := ⟨w.heap.size, 0, none⟩) hq).trans k0
  replace k1 := (hb.cell (p := ⟨w.heap.size, 1, none⟩) hq).trans k1
  replace k2 := (hb.cell (p := ⟨w.heap.size, 2, none⟩) hq).trans k2
  replace k3 := (hb.cell (p := ⟨w.heap.size, 3, none⟩) hq).trans k3
  replace hq := Nat.lt_of_lt_of_le hq hb.size
  clear hb
  go_wp2_with fail
  refine (gs _).mono ?_
  rintro e w2 ⟨rfl, hb⟩
  replace sm := sm.next hb
  replace si := si.next hb
  replace so := so.next hb
  replace hB := hB.trans (hb.mono hB.size)
  replace k0 := (hb.cell (p := ⟨w.heap.size, 0, none⟩) hq).trans k0
  replace k1 := (hb.cell (p := ⟨w.heap.size, 1, none⟩) hq).trans k1
  replace k2 := (hb.cell (p := ⟨w.heap.size, 2, none⟩) hq).trans k2
  replace k3 := (hb.cell (p := ⟨w.heap.size, 3, none⟩) hq).trans k3
  replace hq := Nat.lt_of_lt_of_le hq hb.size
  clear hb
  go_wp2_with fail
  refine (gm _ sm).mono ?_
  rintro e w' ⟨rfl, rfl⟩
  go_wp2_with fail
  refine (gb _ sm).mono ?_
  rintro e w' ⟨rfl, rfl⟩
  go_wp2_with fail
  go_ret
  exact ⟨rfl, hB⟩

set_option maxHeartbeats 4000000 in
theorem walk_o8 (p : Int) (Am : Option Addr) (cm : Nat) (m : List (List Int)) (Ai : Option Addr) (ci : Nat) (ins : List (Int × Int)) (Ao : Option Addr) (co_ : Nat) (outs : List (Int × Int)) (_wm : ∀ r ∈ m, Words r) (_lm : m.length ≤ 9223372036854775807) (_wi : PWords ins) (_wo : PWords outs) (hs : (qOf p != 0) = true) (h1 : smallB m 7 7 = true) (h2 : belM p m = true) (h3 : ins.length ≤ 8) (h4 : 8 < outs.length) (w : World) (sm : Sll w Am cm m) (si : Pt w Ai ci ins) (so : Pt w Ao co_ outs) :
    Calls Try.prog 7 #[.agg #[.int .u64 p, .slice Am m.length cm, .slice Ai ins.length ci, .slice Ao outs.length co_]] w fun e w' => e = .returned (.bool true) ∧ Below w.heap.size w w' := by
  have gs := fun W => rSupported_any p W
  rw [hs] at gs
  have gm := fun W (q : Sll W Am cm m) => small_any Am cm 7 7 m (by omega) W q
  rw [h1] at gm
  obtain ⟨q1, q2⟩ := of_decide_eq_true h1
  have hro : ∀ i, (ro m i).length ≤ 7 := fun i => by
    by_cases hi : i < m.length
    · exact q2 _ (List.mem_of_getElem? (ro_get hi))
    · unfold ro; rw [List.getElem?_eq_none (by omega)]; exact Nat.zero_le _
  have gb := fun W (q : Sll W Am cm m) => belM_any p Am cm m (by omega) (fun i => by have := hro i; omega) W q
  rw [h2] at gb
  have h3' : ¬ (8 : Int) < ins.length := by omega
  have h4' : (8 : Int) < outs.length := by omega
  replace sm := sm.push (.cells #[.int .u64 p, .slice Am m.length cm, .slice Ai ins.length ci, .slice Ao outs.length co_] 48)
  replace si := si.push (.cells #[.int .u64 p, .slice Am m.length cm, .slice Ai ins.length ci, .slice Ao outs.length co_] 48)
  replace so := so.push (.cells #[.int .u64 p, .slice Am m.length cm, .slice Ai ins.length ci, .slice Ao outs.length co_] 48)
  have k0 : (w.alloc (.cells #[.int .u64 p, .slice Am m.length cm, .slice Ai ins.length ci, .slice Ao outs.length co_] 48)).cell? ⟨w.heap.size, 0, none⟩ = some (.int .u64 p) := by go_simp
  have k1 : (w.alloc (.cells #[.int .u64 p, .slice Am m.length cm, .slice Ai ins.length ci, .slice Ao outs.length co_] 48)).cell? ⟨w.heap.size, 1, none⟩ = some (.slice Am m.length cm) := by go_simp
  have k2 : (w.alloc (.cells #[.int .u64 p, .slice Am m.length cm, .slice Ai ins.length ci, .slice Ao outs.length co_] 48)).cell? ⟨w.heap.size, 2, none⟩ = some (.slice Ai ins.length ci) := by go_simp
  have k3 : (w.alloc (.cells #[.int .u64 p, .slice Am m.length cm, .slice Ai ins.length ci, .slice Ao outs.length co_] 48)).cell? ⟨w.heap.size, 3, none⟩ = some (.slice Ao outs.length co_) := by go_simp
  have hq : w.heap.size < (w.alloc (.cells #[.int .u64 p, .slice Am m.length cm, .slice Ai ins.length ci, .slice Ao outs.length co_] 48)).heap.size := by simp
  have hB := bnew (Below.refl w.heap.size w) (.cells #[.int .u64 p, .slice Am m.length cm, .slice Ai ins.length ci, .slice Ao outs.length co_] 48) (Nat.le_refl _)
  go_enter Try.func7, Try.ntmps7
  go_wp2_with fail
  refine (awake7_any _).mono ?_
  rintro e w1 ⟨rfl, hb⟩
  replace sm := sm.next hb
  replace si := si.next hb
  replace so := so.next hb
  replace hB := hB.trans (hb.mono hB.size)
  replace k0 := (hb.cell (p := ⟨w.heap.size, 0, none⟩) hq).trans k0
  replace k1 := (hb.cell (p := ⟨w.heap.size, 1, none⟩) hq).trans k1
  replace k2 := (hb.cell (p := ⟨w.heap.size, 2, none⟩) hq).trans k2
  replace k3 := (hb.cell (p := ⟨w.heap.size, 3, none⟩) hq).trans k3
  replace hq := Nat.lt_of_lt_of_le hq hb.size
  clear hb
  go_wp2_with fail
  refine (gs _).mono ?_
  rintro e w2 ⟨rfl, hb⟩
  replace sm := sm.next hb
  replace si := si.next hb
  replace so := so.next hb
  replace hB := hB.trans (hb.mono hB.size)
  replace k0 := (hb.cell (p := ⟨w.heap.size, 0, none⟩) hq).trans k0
  replace k1 := (hb.cell (p := ⟨w.heap.size, 1, none⟩) hq).trans k1
  replace k2 := (hb.cell (p := ⟨w.heap.size, 2, none⟩) hq).trans k2
  replace k3 := (hb.cell (p := ⟨w.heap.size, 3, none⟩) hq).trans k3
  replace hq := Nat.lt_of_lt_of_le hq hb.size
  clear hb
  go_wp2_with fail
  refine (gm _ sm).mono ?_
  rintro e w' ⟨rfl, rfl⟩
  go_wp2_with fail
  refine (gb _ sm).mono ?_
  rintro e w' ⟨rfl, rfl⟩
  go_wp2_with fail
  go_ret
  exact ⟨rfl, hB⟩

set_option maxHeartbeats 4000000 in
theorem walk_bi (p : Int) (Am : Option Addr) (cm : Nat) (m : List (List Int)) (Ai : Option Addr) (ci : Nat) (ins : List (Int × Int)) (Ao : Option Addr) (co_ : Nat) (outs : List (Int × Int)) (_wm : ∀ r ∈ m, Words r) (_lm : m.length ≤ 9223372036854775807) (_wi : PWords ins) (_wo : PWords outs) (hs : (qOf p != 0) = true) (h1 : smallB m 7 7 = true) (h2 : belM p m = true) (h3 : ins.length ≤ 8) (h4 : outs.length ≤ 8) (h5 : belP p ins = false) (w : World) (sm : Sll w Am cm m) (si : Pt w Ai ci ins) (so : Pt w Ao co_ outs) :
    Calls Try.prog 7 #[.agg #[.int .u64 p, .slice Am m.length cm, .slice Ai ins.length ci, .slice Ao outs.length co_]] w fun e w' => e = .returned (.bool true) ∧ Below w.heap.size w w' := by
  have gs := fun W => rSupported_any p W
  rw [hs] at gs
  have gm := fun W (q : Sll W Am cm m) => small_any Am cm 7 7 m (by omega) W q
  rw [h1] at gm
  obtain ⟨q1, q2⟩ := of_decide_eq_true h1
  have hro : ∀ i, (ro m i).length ≤ 7 := fun i => by
    by_cases hi : i < m.length
    · exact q2 _ (List.mem_of_getElem? (ro_get hi))
    · unfold ro; rw [List.getElem?_eq_none (by omega)]; exact Nat.zero_le _
  have gb := fun W (q : Sll W Am cm m) => belM_any p Am cm m (by omega) (fun i => by have := hro i; omega) W q
  rw [h2] at gb
  have h3' : ¬ (8 : Int) < ins.length := by omega
  have h4' : ¬ (8 : Int) < outs.length := by omega
  have gi := fun W (q : Pt W Ai ci ins) => belP_any p Ai ci ins (by omega) W q
  have go := fun W (q : Pt W Ao co_ outs) => belP_any p Ao co_ outs (by omega) W q
  rw [h5] at gi
  replace sm := sm.push (.cells #[.int .u64 p, .slice Am m.length cm, .slice Ai ins.length ci, .slice Ao outs.length co_] 48)
  replace si := si.push (.cells #[.int .u64 p, .slice Am m.length cm, .slice Ai ins.length ci, .slice Ao outs.length co_] 48)
  replace so := so.push (.cells #[.int .u64 p, .slice Am m.length cm, .slice Ai ins.length ci, .slice Ao outs.length co_] 48)
  have k0 : (w.alloc (.cells #[.int .u64 p, .slice Am m.length cm, .slice Ai ins.length ci, .slice Ao outs.length co_] 48)).cell? ⟨w.heap.size, 0, none⟩ = some (.int .u64 p) := by go_simp
  have k1 : (w.alloc (.cells #[.int .u64 p, .slice Am m.length cm, .slice Ai ins.length ci, .slice Ao outs.length co_] 48)).cell? ⟨w.heap.size, 1, none⟩ = some (.slice Am m.length cm) := by go_simp
  have k2 : (w.alloc (.cells #[.int .u64 p, .slice Am m.length cm, .slice Ai ins.length ci, .slice Ao outs.length co_] 48)).cell? ⟨w.heap.size, 2, none⟩ = some (.slice Ai ins.length ci) := by go_simp
  have k3 : (w.alloc (.cells #[.int .u64 p, .slice Am m.length cm, .slice Ai ins.length ci, .slice Ao outs.length co_] 48)).cell? ⟨w.heap.size, 3, none⟩ = some (.slice Ao outs.length co_) := by go_simp
  have hq : w.heap.size < (w.alloc (.cells #[.int .u64 p, .slice Am m.length cm, .slice Ai ins.length ci, .slice Ao outs.length co_] 48)).heap.size := by simp
  have hB := bnew (Below.refl w.heap.size w) (.cells #[.int .u64 p, .slice Am m.length cm, .slice Ai ins.length ci, .slice Ao outs.length co_] 48) (Nat.le_refl _)
  go_enter Try.func7, Try.ntmps7
  go_wp2_with fail
  refine (awake7_any _).mono ?_
  rintro e w1 ⟨rfl, hb⟩
  replace sm := sm.next hb
  replace si := si.next hb
  replace so := so.next hb
  replace hB := hB.trans (hb.mono hB.size)
  replace k0 := (hb.cell (p := ⟨w.heap.size, 0, none⟩) hq).trans k0
  replace k1 := (hb.cell (p := ⟨w.heap.size, 1, none⟩) hq).trans k1
  replace k2 := (hb.cell (p := ⟨w.heap.size, 2, none⟩) hq).trans k2
  replace k3 := (hb.cell (p := ⟨w.heap.size, 3, none⟩) hq).trans k3
  replace hq := Nat.lt_of_lt_of_le hq hb.size
  clear hb
  go_wp2_with fail
  refine (gs _).mono ?_
  rintro e w2 ⟨rfl, hb⟩
  replace sm := sm.next hb
  replace si := si.next hb
  replace so := so.next hb
  replace hB := hB.trans (hb.mono hB.size)
  replace k0 := (hb.cell (p := ⟨w.heap.size, 0, none⟩) hq).trans k0
  replace k1 := (hb.cell (p := ⟨w.heap.size, 1, none⟩) hq).trans k1
  replace k2 := (hb.cell (p := ⟨w.heap.size, 2, none⟩) hq).trans k2
  replace k3 := (hb.cell (p := ⟨w.heap.size, 3, none⟩) hq).trans k3
  replace hq := Nat.lt_of_lt_of_le hq hb.size
  clear hb
  go_wp2_with fail
  refine (gm _ sm).mono ?_
  rintro e w' ⟨rfl, rfl⟩
  go_wp2_with fail
  refine (gb _ sm).mono ?_
  rintro e w' ⟨rfl, rfl⟩
  go_wp2_with fail
  refine (gi _ si).mono ?_
  rintro e w' ⟨rfl, rfl⟩
  go_wp2_with fail
  go_ret
  exact ⟨rfl, hB⟩

set_option maxHeartbeats 4000000 in
theorem walk_bo (p : Int) (Am : Option Addr) (cm : Nat) (m : List (List Int)) (Ai : Option Addr) (ci : Nat) (ins : List (Int × Int)) (Ao : Option Addr) (co_ : Nat) (outs : List (Int × Int)) (_wm : ∀ r ∈ m, Words r) (_lm : m.length ≤ 9223372036854775807) (_wi : PWords ins) (_wo : PWords outs) (hs : (qOf p != 0) = true) (h1 : smallB m 7 7 = true) (h2 : belM p m = true) (h3 : ins.length ≤ 8) (h4 : outs.length ≤ 8) (h5 : belP p ins = true) (h6 : belP p outs = false) (w : World) (sm : Sll w Am cm m) (si : Pt w Ai ci ins) (so : Pt w Ao co_ outs) :
    Calls Try.prog 7 #[.agg #[.int .u64 p, .slice Am m.length cm, .slice Ai ins.length ci, .slice Ao outs.length co_]] w fun e w' => e = .returned (.bool true) ∧ Below w.heap.size w w' := by
  have gs := fun W => rSupported_any p W
  rw [hs] at gs
  have gm := fun W (q : Sll W Am cm m) => small_any Am cm 7 7 m (by omega) W q
  rw [h1] at gm
  obtain ⟨q1, q2⟩ := of_decide_eq_true h1
  have hro : ∀ i, (ro m i).length ≤ 7 := fun i => by
    by_cases hi : i < m.length
    · exact q2 _ (List.mem_of_getElem? (ro_get hi))
    · unfold ro; rw [List.getElem?_eq_none (by omega)]; exact Nat.zero_le _
  have gb := fun W (q : Sll W Am cm m) => belM_any p Am cm m (by omega) (fun i => by have := hro i; omega) W q
  rw [h2] at gb
  have h3' : ¬ (8 : Int) < ins.length := by omega
  have h4' : ¬ (8 : Int) < outs.length := by omega
  have gi := fun W (q : Pt W Ai ci ins) => belP_any p Ai ci ins (by omega) W q
  have go := fun W (q : Pt W Ao co_ outs) => belP_any p Ao co_ outs (by omega) W q
  rw [h5] at gi
  rw [h6] at go
  replace sm := sm.push (.cells #[.int .u64 p, .slice Am m.length cm, .slice Ai ins.length ci, .slice Ao outs.length co_] 48)
  replace si := si.push (.cells #[.int .u64 p, .slice Am m.length cm, .slice Ai ins.length ci, .slice Ao outs.length co_] 48)
  replace so := so.push (.cells #[.int .u64 p, .slice Am m.length cm, .slice Ai ins.length ci, .slice Ao outs.length co_] 48)
  have k0 : (w.alloc (.cells #[.int .u64 p, .slice Am m.length cm, .slice Ai ins.length ci, .slice Ao outs.length co_] 48)).cell? ⟨w.heap.size, 0, none⟩ = some (.int .u64 p) := by go_simp
  have k1 : (w.alloc (.cells #[.int .u64 p, .slice Am m.length cm, .slice Ai ins.length ci, .slice Ao outs.length co_] 48)).cell? ⟨w.heap.size, 1, none⟩ = some (.slice Am m.length cm) := by go_simp
  have k2 : (w.alloc (.cells #[.int .u64 p, .slice Am m.length cm, .slice Ai ins.length ci, .slice Ao outs.length co_] 48)).cell? ⟨w.heap.size, 2, none⟩ = some (.slice Ai ins.length ci) := by go_simp
  have k3 : (w.alloc (.cells #[.int .u64 p, .slice Am m.length cm, .slice Ai ins.length ci, .slice Ao outs.length co_] 48)).cell? ⟨w.heap.size, 3, none⟩ = some (.slice Ao outs.length co_) := by go_simp
  have hq : w.heap.size < (w.alloc (.cells #[.int .u64 p, .slice Am m.length cm, .slice Ai ins.length ci, .slice Ao outs.length co_] 48)).heap.size := by simp
  have hB := bnew (Below.refl w.heap.size w) (.cells #[.int .u64 p, .slice Am m.length cm, .slice Ai ins.length ci, .slice Ao outs.length co_] 48) (Nat.le_refl _)
  go_enter Try.func7, Try.ntmps7
  go_wp2_with fail
  refine (awake7_any _).mono ?_
  rintro e w1 ⟨rfl, hb⟩
  replace sm := sm.next hb
  replace si := si.next hb
  replace so := so.next hb
  replace hB := hB.trans (hb.mono hB.size)
  replace k0 := (hb.cell (p := ⟨w.heap.size, 0, none⟩) hq).trans k0
  replace k1 := (hb.cell (p := ⟨w.heap.size, 1, none⟩) hq).trans k1
  replace k2 := (hb.cell (p := ⟨w.heap.size, 2, none⟩) hq).trans k2
  replace k3 := (hb.cell (p := ⟨w.heap.size, 3, none⟩) hq).trans k3
  replace hq := Nat.lt_of_lt_of_le hq hb.size
  clear hb
  go_wp2_with fail
  refine (gs _).mono ?_
  rintro e w2 ⟨rfl, hb⟩
  replace sm := sm.next hb
  replace si := si.next hb
  replace so := so.next hb
  replace hB := hB.trans (hb.mono hB.size)
  replace k0 := (hb.cell (p := ⟨w.heap.size, 0, none⟩) hq).trans k0
  replace k1 := (hb.cell (p := ⟨w.heap.size, 1, none⟩) hq).trans k1
  replace k2 := (hb.cell (p := ⟨w.heap.size, 2, none⟩) hq).trans k2
  replace k3 := (hb.cell (p := ⟨w.heap.size, 3, none⟩) hq).trans k3
  replace hq := Nat.lt_of_lt_of_le hq hb.size
  clear hb
  go_wp2_with fail
  refine (gm _ sm).mono ?_
  rintro e w' ⟨rfl, rfl⟩
  go_wp2_with fail
  refine (gb _ sm).mono ?_
  rintro e w' ⟨rfl, rfl⟩
  go_wp2_with fail
  refine (gi _ si).mono ?_
  rintro e w' ⟨rfl, rfl⟩
  go_wp2_with fail
  refine (go _ so).mono ?_
  rintro e w' ⟨rfl, rfl⟩
  go_wp2_with fail
  go_ret
  exact ⟨rfl, hB⟩

set_option maxHeartbeats 4000000 in
theorem walk_arg (p : Int) (Am : Option Addr) (cm : Nat) (m : List (List Int)) (Ai : Option Addr) (ci : Nat) (ins : List (Int × Int)) (Ao : Option Addr) (co_ : Nat) (outs : List (Int × Int)) (wm : ∀ r ∈ m, Words r) (_lm : m.length ≤ 9223372036854775807) (wi : PWords ins) (wo : PWords outs) (hs : (qOf p != 0) = true) (h1 : smallB m 7 7 = true) (h2 : belM p m = true) (h3 : ins.length ≤ 8) (h4 : outs.length ≤ 8) (hp : OkP p) (h5 : belP p ins = true) (h6 : belP p outs = true) (h7 : argB m ins outs = false) (w : World) (sm : Sll w Am cm m) (si : Pt w Ai ci ins) (so : Pt w Ao co_ outs) :
    Calls Try.prog 7 #[.agg #[.int .u64 p, .slice Am m.length cm, .slice Ai ins.length ci, .slice Ao outs.length co_]] w fun e w' => e = .returned (.bool true) ∧ Below w.heap.size w w' := by
  have gs := fun W => rSupported_any p W
  rw [hs] at gs
  have gm := fun W (q : Sll W Am cm m) => small_any Am cm 7 7 m (by omega) W q
  rw [h1] at gm
  obtain ⟨q1, q2⟩ := of_decide_eq_true h1
  have hro : ∀ i, (ro m i).length ≤ 7 := fun i => by
    by_cases hi : i < m.length
    · exact q2 _ (List.mem_of_getElem? (ro_get hi))
    · unfold ro; rw [List.getElem?_eq_none (by omega)]; exact Nat.zero_le _
  have gb := fun W (q : Sll W Am cm m) => belM_any p Am cm m (by omega) (fun i => by have := hro i; omega) W q
  rw [h2] at gb
  have h3' : ¬ (8 : Int) < ins.length := by omega
  have h4' : ¬ (8 : Int) < outs.length := by omega
  have gi := fun W (q : Pt W Ai ci ins) => belP_any p Ai ci ins (by omega) W q
  have go := fun W (q : Pt W Ao co_ outs) => belP_any p Ao co_ outs (by omega) W q
  rw [h5] at gi
  rw [h6] at go
  have hbi := of_decide_eq_true h5
  have hbo := of_decide_eq_true h6
  have hbm := of_decide_eq_true h2
  have hc : CArg p m ins outs := ⟨by omega, fun i => by have := hro i; omega, fun r hr => el_of (wm r hr) (hbm r hr), wi, wo, hbi, hbo, by omega, by omega⟩
  have g1 := fun W (a1 : Sll W Am cm m) (a2 : Pt W Ai ci ins) (a3 : Pt W Ao co_ outs) => cmpl_any p hp Am Ai Ao cm ci co_ m ins outs hc W a1 a2 a3
  have g1' : ∀ W, Sll W Am cm m → Pt W Ai ci ins → Pt W Ao co_ outs → Calls Try.prog 26 #[.int .u64 p, .slice Am m.length cm, .slice Ai ins.length ci, .slice Ao outs.length co_] W fun e w' => Err3 1 W e w' := fun W a1 a2 a3 => (g1 W a1 a2 a3).mono fun e w' hx => by
    unfold CmpE at hx
    rw [h7, if_neg (by simp)] at hx
    exact hx
  have g2 := fun W (a1 : Sll W Am cm m) (a2 : Pt W Ai ci ins) (a3 : Pt W Ao co_ outs) => rCmpl_bad p Am Ai Ao cm ci co_ m ins outs hc h7 W a1 a2 a3
  unfold Err3 at g1' g2
  clear g1
  replace sm := sm.push (.cells #[.int .u64 p, .slice Am m.length cm, .slice Ai ins.length ci, .slice Ao outs.length co_] 48)
  replace si := si.push (.cells #[.int .u64 p, .slice Am m.length cm, .slice Ai ins.length ci, .slice Ao outs.length co_] 48)
  replace so := so.push (.cells #[.int .u64 p, .slice Am m.length cm, .slice Ai ins.length ci, .slice Ao outs.length co_] 48)
  have k0 : (w.alloc (.cells #[.int .u64 p, .slice Am m.length cm, .slice Ai ins.length ci, .slice Ao outs.length co_] 48)).cell? ⟨w.heap.size, 0, none⟩ = some (.int .u64 p) := by go_simp
  have k1 : (w.alloc (.cells #[.int .u64 p, .slice Am m.length cm, .slice Ai ins.length ci, .slice Ao outs.length co_] 48)).cell? ⟨w.heap.size, 1, none⟩ = some (.slice Am m.length cm) := by go_simp
  have k2 : (w.alloc (.cells #[.int .u64 p, .slice Am m.length cm, .slice Ai ins.length ci, .slice Ao outs.length co_] 48)).cell? ⟨w.heap.size, 2, none⟩ = some (.slice Ai ins.length ci) := by go_simp
  have k3 : (w.alloc (.cells #[.int .u64 p, .slice Am m.length cm, .slice Ai ins.length ci, .slice Ao outs.length co_] 48)).cell? ⟨w.heap.size, 3, none⟩ = some (.slice Ao outs.length co_) := by go_simp
  have hq : w.heap.size < (w.alloc (.cells #[.int .u64 p, .slice Am m.length cm, .slice Ai ins.length ci, .slice Ao outs.length co_] 48)).heap.size := by simp
  have hB := bnew (Below.refl w.heap.size w) (.cells #[.int .u64 p, .slice Am m.length cm, .slice Ai ins.length ci, .slice Ao outs.length co_] 48) (Nat.le_refl _)
  go_enter Try.func7, Try.ntmps7
  go_wp2_with fail
  refine (awake7_any _).mono ?_
  rintro e w1 ⟨rfl, hb⟩
  replace sm := sm.next hb
  replace si := si.next hb
  replace so := so.next hb
  replace hB := hB.trans (hb.mono hB.size)
  replace k0 := (hb.cell (p := ⟨w.heap.size, 0, none⟩) hq).trans k0
  replace k1 := (hb.cell (p := ⟨w.heap.size, 1, none⟩) hq).trans k1
  replace k2 := (hb.cell (p := ⟨w.heap.size, 2, none⟩) hq).trans k2
  replace k3 := (hb.cell (p := ⟨w.heap.size, 3, none⟩) hq).trans k3
  replace hq := Nat.lt_of_lt_of_le hq hb.size
  clear hb
  go_wp2_with fail
  refine (gs _).mono ?_
  rintro e w2 ⟨rfl, hb⟩
  replace sm := sm.next hb
  replace si := si.next hb
  replace so := so.next hb
  replace hB := hB.trans (hb.mono hB.size)
  replace k0 := (hb.cell (p := ⟨w.heap.size, 0, none⟩) hq).trans k0
  replace k1 := (hb.cell (p := ⟨w.heap.size, 1, none⟩) hq).trans k1
  replace k2 := (hb.cell (p := ⟨w.heap.size, 2, none⟩) hq).trans k2
  replace k3 := (hb.cell (p := ⟨w.heap.size, 3, none⟩) hq).trans k3
  replace hq := Nat.lt_of_lt_of_le hq hb.size
  clear hb
  go_wp2_with fail
  refine (gm _ sm).mono ?_
  rintro e w' ⟨rfl, rfl⟩
  go_wp2_with fail
  refine (gb _ sm).mono ?_
  rintro e w' ⟨rfl, rfl⟩
  go_wp2_with fail
  refine (gi _ si).mono ?_
  rintro e w' ⟨rfl, rfl⟩
  go_wp2_with fail
  refine (go _ so).mono ?_
  rintro e w' ⟨rfl, rfl⟩
  go_wp2_with fail
  refine (g1' _ sm si so).mono ?_
  rintro e w7 ⟨rfl, hb⟩
  replace sm := sm.next hb
  replace si := si.next hb
  replace so := so.next hb
  replace hB := hB.trans (hb.mono hB.size)
  replace k0 := (hb.cell (p := ⟨w.heap.size, 0, none⟩) hq).trans k0
  replace k1 := (hb.cell (p := ⟨w.heap.size, 1, none⟩) hq).trans k1
  replace k2 := (hb.cell (p := ⟨w.heap.size, 2, none⟩) hq).trans k2
  replace k3 := (hb.cell (p := ⟨w.heap.size, 3, none⟩) hq).trans k3
  replace hq := Nat.lt_of_lt_of_le hq hb.size
  clear hb
  go_wp2_with fail
  refine (g2 _ sm si so).mono ?_
  rintro e w8 ⟨rfl, hb⟩
  replace sm := sm.next hb
  replace si := si.next hb
  replace so := so.next hb
  replace hB := hB.trans (hb.mono hB.size)
  replace k0 := (hb.cell (p := ⟨w.heap.size, 0, none⟩) hq).trans k0
  replace k1 := (hb.cell (p := ⟨w.heap.size, 1, none⟩) hq).trans k1
  replace k2 := (hb.cell (p := ⟨w.heap.size, 2, none⟩) hq).trans k2
  replace k3 := (hb.cell (p := ⟨w.heap.size, 3, none⟩) hq).trans k3
  replace hq := Nat.lt_of_lt_of_le hq hb.size
  clear hb
  go_wp2_with fail
  refine (same_b none none [] 0 0 _ (Sl.nothing _) (Sl.nothing _) (by decide)).mono ?_
  rintro e w9 ⟨rfl, hb⟩
  replace sm := sm.next hb
  replace si := si.next hb
  replace so := so.next hb
  replace hB := hB.trans (hb.mono hB.size)
  replace k0 := (hb.cell (p := ⟨w.heap.size, 0, none⟩) hq).trans k0
  replace k1 := (hb.cell (p := ⟨w.heap.size, 1, none⟩) hq).trans k1
  replace k2 := (hb.cell (p := ⟨w.heap.size, 2, none⟩) hq).trans k2
  replace k3 := (hb.cell (p := ⟨w.heap.size, 3, none⟩) hq).trans k3
  replace hq := Nat.lt_of_lt_of_le hq hb.size
  clear hb
  go_wp2_with fail
  refine (same_b none none [] 0 0 _ (Sl.nothing _) (Sl.nothing _) (by decide)).mono ?_
  rintro e w10 ⟨rfl, hb⟩
  replace sm := sm.next hb
  replace si := si.next hb
  replace so := so.next hb
  replace hB := hB.trans (hb.mono hB.size)
  replace k0 := (hb.cell (p := ⟨w.heap.size, 0, none⟩) hq).trans k0
  replace k1 := (hb.cell (p := ⟨w.heap.size, 1, none⟩) hq).trans k1
  replace k2 := (hb.cell (p := ⟨w.heap.size, 2, none⟩) hq).trans k2
  replace k3 := (hb.cell (p := ⟨w.heap.size, 3, none⟩) hq).trans k3
  replace hq := Nat.lt_of_lt_of_le hq hb.size
  clear hb
  go_wp2_with fail
  go_ret
  exact ⟨rfl, hB⟩

set_option maxHeartbeats 4000000 in
theorem walk_zero (p : Int) (Am : Option Addr) (cm : Nat) (m : List (List Int)) (Ai : Option Addr) (ci : Nat) (ins : List (Int × Int)) (Ao : Option Addr) (co_ : Nat) (outs : List (Int × Int)) (wm : ∀ r ∈ m, Words r) (_lm : m.length ≤ 9223372036854775807) (wi : PWords ins) (wo : PWords outs) (hs : (qOf p != 0) = true) (h1 : smallB m 7 7 = true) (h2 : belM p m = true) (h3 : ins.length ≤ 8) (h4 : outs.length ≤ 8) (hp : OkP p) (h5 : belP p ins = true) (h6 : belP p outs = true) (h7 : argB m ins outs = true) (h8 : cmp p m ins outs = none) (w : World) (sm : Sll w Am cm m) (si : Pt w Ai ci ins) (so : Pt w Ao co_ outs) :
    Calls Try.prog 7 #[.agg #[.int .u64 p, .slice Am m.length cm, .slice Ai ins.length ci, .slice Ao outs.length co_]] w fun e w' => e = .returned (.bool true) ∧ Below w.heap.size w w' := by
  have gs := fun W => rSupported_any p W
  rw [hs] at gs
  have gm := fun W (q : Sll W Am cm m) => small_any Am cm 7 7 m (by omega) W q
  rw [h1] at gm
  obtain ⟨q1, q2⟩ := of_decide_eq_true h1
  have hro : ∀ i, (ro m i).length ≤ 7 := fun i => by
    by_cases hi : i < m.length
    · exact q2 _ (List.mem_of_getElem? (ro_get hi))
    · unfold ro; rw [List.getElem?_eq_none (by omega)]; exact Nat.zero_le _
  have gb := fun W (q : Sll W Am cm m) => belM_any p Am cm m (by omega) (fun i => by have := hro i; omega) W q
  rw [h2] at gb
  have h3' : ¬ (8 : Int) < ins.length := by omega
  have h4' : ¬ (8 : Int) < outs.length := by omega
  have gi := fun W (q : Pt W Ai ci ins) => belP_any p Ai ci ins (by omega) W q
  have go := fun W (q : Pt W Ao co_ outs) => belP_any p Ao co_ outs (by omega) W q
  rw [h5] at gi
  rw [h6] at go
  have hbi := of_decide_eq_true h5
  have hbo := of_decide_eq_true h6
  have hbm := of_decide_eq_true h2
  have hc : CArg p m ins outs := ⟨by omega, fun i => by have := hro i; omega, fun r hr => el_of (wm r hr) (hbm r hr), wi, wo, hbi, hbo, by omega, by omega⟩
  have g1 := fun W (a1 : Sll W Am cm m) (a2 : Pt W Ai ci ins) (a3 : Pt W Ao co_ outs) => cmpl_any p hp Am Ai Ao cm ci co_ m ins outs hc W a1 a2 a3
  have g2 := fun W (a1 : Sll W Am cm m) (a2 : Pt W Ai ci ins) (a3 : Pt W Ao co_ outs) => rCmpl_any p hp Am Ai Ao cm ci co_ m ins outs hc h7 W a1 a2 a3
  have g1' : ∀ W, Sll W Am cm m → Pt W Ai ci ins → Pt W Ao co_ outs → Calls Try.prog 26 #[.int .u64 p, .slice Am m.length cm, .slice Ai ins.length ci, .slice Ao outs.length co_] W fun e w' => Err3 8 W e w' := fun W a1 a2 a3 => (g1 W a1 a2 a3).mono fun e w' hx => by
    unfold CmpE at hx
    rw [h7, if_pos rfl, h8] at hx
    exact hx
  have g2' : ∀ W, Sll W Am cm m → Pt W Ai ci ins → Pt W Ao co_ outs → Calls Try.prog 27 #[.int .u64 p, .slice Am m.length cm, .slice Ai ins.length ci, .slice Ao outs.length co_] W fun e w' => Err3 8 W e w' := fun W a1 a2 a3 => (g2 W a1 a2 a3).mono fun e w' hx => by
    unfold CmpE at hx
    rw [h7, if_pos rfl, h8] at hx
    exact hx
  unfold Err3 at g1' g2'
  clear g1 g2
  replace sm := sm.push (.cells #[.int .u64 p, .slice Am m.length cm, .slice Ai ins.length ci, .slice Ao outs.length co_] 48)
  replace si := si.push (.cells #[.int .u64 p, .slice Am m.length cm, .slice Ai ins.length ci, .slice Ao outs.length co_] 48)
  replace so := so.push (.cells #[.int .u64 p, .slice Am m.length cm, .slice Ai ins.length ci, .slice Ao outs.length co_] 48)
  have k0 : (w.alloc (.cells #[.int .u64 p, .slice Am m.length cm, .slice Ai ins.length ci, .slice Ao outs.length co_] 48)).cell? ⟨w.heap.size, 0, none⟩ = some (.int .u64 p) := by go_simp
  have k1 : (w.alloc (.cells #[.int .u64 p, .slice Am m.length cm, .slice Ai ins.length ci, .slice Ao outs.length co_] 48)).cell? ⟨w.heap.size, 1, none⟩ = some (.slice Am m.length cm) := by go_simp
  have k2 : (w.alloc (.cells #[.int .u64 p, .slice Am m.length cm, .slice Ai ins.length ci, .slice Ao outs.length co_] 48)).cell? ⟨w.heap.size, 2, none⟩ = some (.slice Ai ins.length ci) := by go_simp
  have k3 : (w.alloc (.cells #[.int .u64 p, .slice Am m.length cm, .slice Ai ins.length ci, .slice Ao outs.length co_] 48)).cell? ⟨w.heap.size, 3, none⟩ = some (.slice Ao outs.length co_) := by go_simp
  have hq : w.heap.size < (w.alloc (.cells #[.int .u64 p, .slice Am m.length cm, .slice Ai ins.length ci, .slice Ao outs.length co_] 48)).heap.size := by simp
  have hB := bnew (Below.refl w.heap.size w) (.cells #[.int .u64 p, .slice Am m.length cm, .slice Ai ins.length ci, .slice Ao outs.length co_] 48) (Nat.le_refl _)
  go_enter Try.func7, Try.ntmps7
  go_wp2_with fail
  refine (awake7_any _).mono ?_
  rintro e w1 ⟨rfl, hb⟩
  replace sm := sm.next hb
  replace si := si.next hb
  replace so := so.next hb
  replace hB := hB.trans (hb.mono hB.size)
  replace k0 := (hb.cell (p := ⟨w.heap.size, 0, none⟩) hq).trans k0
  replace k1 := (hb.cell (p := ⟨w.heap.size, 1, none⟩) hq).trans k1
  replace k2 := (hb.cell (p := ⟨w.heap.size, 2, none⟩) hq).trans k2
  replace k3 := (hb.cell (p := ⟨w.heap.size, 3, none⟩) hq).trans k3
  replace hq := Nat.lt_of_lt_of_le hq hb.size
  clear hb
  go_wp2_with fail
  refine (gs _).mono ?_
  rintro e w2 ⟨rfl, hb⟩
  replace sm := sm.next hb
  replace si := si.next hb
  replace so := so.next hb
  replace hB := hB.trans (hb.mono hB.size)
  replace k0 := (hb.cell (p := ⟨w.heap.size, 0, none⟩) hq).trans k0
  replace k1 := (hb.cell (p := ⟨w.heap.size, 1, none⟩) hq).trans k1
  replace k2 := (hb.cell (p := ⟨w.heap.size, 2, none⟩) hq).trans k2
  replace k3 := (hb.cell (p := ⟨w.heap.size, 3, none⟩) hq).trans k3
  replace hq := Nat.lt_of_lt_of_le hq hb.size
  clear hb
  go_wp2_with fail
  refine (gm _ sm).mono ?_
  rintro e w' ⟨rfl, rfl⟩
  go_wp2_with fail
  refine (gb _ sm).mono ?_
  rintro e w' ⟨rfl, rfl⟩
  go_wp2_with fail
  refine (gi _ si).mono ?_
  rintro e w' ⟨rfl, rfl⟩
  go_wp2_with fail
  refine (go _ so).mono ?_
  rintro e w' ⟨rfl, rfl⟩
  go_wp2_with fail
  refine (g1' _ sm si so).mono ?_
  rintro e w7 ⟨rfl, hb⟩
  replace sm := sm.next hb
  replace si := si.next hb
  replace so := so.next hb
  replace hB := hB.trans (hb.mono hB.size)
  replace k0 := (hb.cell (p := ⟨w.heap.size, 0, none⟩) hq).trans k0
  replace k1 := (hb.cell (p := ⟨w.heap.size, 1, none⟩) hq).trans k1
  replace k2 := (hb.cell (p := ⟨w.heap.size, 2, none⟩) hq).trans k2
  replace k3 := (hb.cell (p := ⟨w.heap.size, 3, none⟩) hq).trans k3
  replace hq := Nat.lt_of_lt_of_le hq hb.size
  clear hb
  go_wp2_with fail
  refine (g2' _ sm si so).mono ?_
  rintro e w8 ⟨rfl, hb⟩
  replace sm := sm.next hb
  replace si := si.next hb
  replace so := so.next hb
  replace hB := hB.trans (hb.mono hB.size)
  replace k0 := (hb.cell (p := ⟨w.heap.size, 0, none⟩) hq).trans k0
  replace k1 := (hb.cell (p := ⟨w.heap.size, 1, none⟩) hq).trans k1
  replace k2 := (hb.cell (p := ⟨w.heap.size, 2, none⟩) hq).trans k2
  replace k3 := (hb.cell (p := ⟨w.heap.size, 3, none⟩) hq).trans k3
  replace hq := Nat.lt_of_lt_of_le hq hb.size
  clear hb
  go_wp2_with fail
  refine (same_b none none [] 0 0 _ (Sl.nothing _) (Sl.nothing _) (by decide)).mono ?_
  rintro e w9 ⟨rfl, hb⟩
  replace sm := sm.next hb
  replace si := si.next hb
  replace so := so.next hb
  replace hB := hB.trans (hb.mono hB.size)
  replace k0 := (hb.cell (p := ⟨w.heap.size, 0, none⟩) hq).trans k0
  replace k1 := (hb.cell (p := ⟨w.heap.size, 1, none⟩) hq).trans k1
  replace k2 := (hb.cell (p := ⟨w.heap.size, 2, none⟩) hq).trans k2
  replace k3 := (hb.cell (p := ⟨w.heap.size, 3, none⟩) hq).trans k3
  replace hq := Nat.lt_of_lt_of_le hq hb.size
  clear hb
  go_wp2_with fail
  refine (same_b none none [] 0 0 _ (Sl.nothing _) (Sl.nothing _) (by decide)).mono ?_
  rintro e w10 ⟨rfl, hb⟩
  replace sm := sm.next hb
  replace si := si.next hb
  replace so := so.next hb
  replace hB := hB.trans (hb.mono hB.size)
  replace k0 := (hb.cell (p := ⟨w.heap.size, 0, none⟩) hq).trans k0
  replace k1 := (hb.cell (p := ⟨w.heap.size, 1, none⟩) hq).trans k1
  replace k2 := (hb.cell (p := ⟨w.heap.size, 2, none⟩) hq).trans k2
  replace k3 := (hb.cell (p := ⟨w.heap.size, 3, none⟩) hq).trans k3
  replace hq := Nat.lt_of_lt_of_le hq hb.size
  clear hb
  go_wp2_with fail
  go_ret
  exact ⟨rfl, hB⟩

set_option maxHeartbeats 4000000 in
theorem walk_ok (p : Int) (Am : Option Addr) (cm : Nat) (m : List (List Int)) (Ai : Option Addr) (ci : Nat) (ins : List (Int × Int)) (Ao : Option Addr) (co_ : Nat) (outs : List (Int × Int)) (wm : ∀ r ∈ m, Words r) (_lm : m.length ≤ 9223372036854775807) (wi : PWords ins) (wo : PWords outs) (hs : (qOf p != 0) = true) (h1 : smallB m 7 7 = true) (h2 : belM p m = true) (h3 : ins.length ≤ 8) (h4 : outs.length ≤ 8) (hp : OkP p) (h5 : belP p ins = true) (h6 : belP p outs = true) (x : List Int) (h7 : argB m ins outs = true) (h8 : cmp p m ins outs = some x) (w : World) (sm : Sll w Am cm m) (si : Pt w Ai ci ins) (so : Pt w Ao co_ outs) :
    Calls Try.prog 7 #[.agg #[.int .u64 p, .slice Am m.length cm, .slice Ai ins.length ci, .slice Ao outs.length co_]] w fun e w' => e = .returned (.bool true) ∧ Below w.heap.size w w' := by
  have gs := fun W => rSupported_any p W
  rw [hs] at gs
  have gm := fun W (q : Sll W Am cm m) => small_any Am cm 7 7 m (by omega) W q
  rw [h1] at gm
  obtain ⟨q1, q2⟩ := of_decide_eq_true h1
  have hro : ∀ i, (ro m i).length ≤ 7 := fun i => by
    by_cases hi : i < m.length
    · exact q2 _ (List.mem_of_getElem? (ro_get hi))
    · unfold ro; rw [List.getElem?_eq_none (by omega)]; exact Nat.zero_le _
  have gb := fun W (q : Sll W Am cm m) => belM_any p Am cm m (by omega) (fun i => by have := hro i; omega) W q
  rw [h2] at gb
  have h3' : ¬ (8 : Int) < ins.length := by omega
  have h4' : ¬ (8 : Int) < outs.length := by omega
  have gi := fun W (q : Pt W Ai ci ins) => belP_any p Ai ci ins (by omega) W q
  have go := fun W (q : Pt W Ao co_ outs) => belP_any p Ao co_ outs (by omega) W q
  rw [h5] at gi
  rw [h6] at go
  have hbi := of_decide_eq_true h5
  have hbo := of_decide_eq_true h6
  have hbm := of_decide_eq_true h2
  have hc : CArg p m ins outs := ⟨by omega, fun i => by have := hro i; omega, fun r hr => el_of (wm r hr) (hbm r hr), wi, wo, hbi, hbo, by omega, by omega⟩
  have g1 := fun W (a1 : Sll W Am cm m) (a2 : Pt W Ai ci ins) (a3 : Pt W Ao co_ outs) => cmpl_any p hp Am Ai Ao cm ci co_ m ins outs hc W a1 a2 a3
  have g2 := fun W (a1 : Sll W Am cm m) (a2 : Pt W Ai ci ins) (a3 : Pt W Ao co_ outs) => rCmpl_any p hp Am Ai Ao cm ci co_ m ins outs hc h7 W a1 a2 a3
  have g1' : ∀ W, Sll W Am cm m → Pt W Ai ci ins → Pt W Ao co_ outs → Calls Try.prog 26 #[.int .u64 p, .slice Am m.length cm, .slice Ai ins.length ci, .slice Ao outs.length co_] W fun e w' => Two3 x (app p m x) W e w' := fun W a1 a2 a3 => (g1 W a1 a2 a3).mono fun e w' hx => by
    unfold CmpE at hx
    rw [h7, if_pos rfl, h8] at hx
    exact hx
  have g2' : ∀ W, Sll W Am cm m → Pt W Ai ci ins → Pt W Ao co_ outs → Calls Try.prog 27 #[.int .u64 p, .slice Am m.length cm, .slice Ai ins.length ci, .slice Ao outs.length co_] W fun e w' => Two3 x (app p m x) W e w' := fun W a1 a2 a3 => (g2 W a1 a2 a3).mono fun e w' hx => by
    unfold CmpE at hx
    rw [h7, if_pos rfl, h8] at hx
    exact hx
  unfold Two3 at g1' g2'
  have hxl : x.length ≤ 1000 := by
    unfold cmp at h8
    split at h8
    · cases h8
    · injection h8 with h8
      rw [← h8, fil_len, xin_len]
      have := hro 0
      unfold ncol
      omega
  have hyl : (app p m x).length ≤ 1000 := by rw [app_len]; omega
  generalize app p m x = Y at *
  clear g1 g2
  replace sm := sm.push (.cells #[.int .u64 p, .slice Am m.length cm, .slice Ai ins.length ci, .slice Ao outs.length co_] 48)
  replace si := si.push (.cells #[.int .u64 p, .slice Am m.length cm, .slice Ai ins.length ci, .slice Ao outs.length co_] 48)
  replace so := so.push (.cells #[.int .u64 p, .slice Am m.length cm, .slice Ai ins.length ci, .slice Ao outs.length co_] 48)
  have k0 : (w.alloc (.cells #[.int .u64 p, .slice Am m.length cm, .slice Ai ins.length ci, .slice Ao outs.length co_] 48)).cell? ⟨w.heap.size, 0, none⟩ = some (.int .u64 p) := by go_simp
  have k1 : (w.alloc (.cells #[.int .u64 p, .slice Am m.length cm, .slice Ai ins.length ci, .slice Ao outs.length co_] 48)).cell? ⟨w.heap.size, 1, none⟩ = some (.slice Am m.length cm) := by go_simp
  have k2 : (w.alloc (.cells #[.int .u64 p, .slice Am m.length cm, .slice Ai ins.length ci, .slice Ao outs.length co_] 48)).cell? ⟨w.heap.size, 2, none⟩ = some (.slice Ai ins.length ci) := by go_simp
  have k3 : (w.alloc (.cells #[.int .u64 p, .slice Am m.length cm, .slice Ai ins.length ci, .slice Ao outs.length co_] 48)).cell? ⟨w.heap.size, 3, none⟩ = some (.slice Ao outs.length co_) := by go_simp
  have hq : w.heap.size < (w.alloc (.cells #[.int .u64 p, .slice Am m.length cm, .slice Ai ins.length ci, .slice Ao outs.length co_] 48)).heap.size := by simp
  have hB := bnew (Below.refl w.heap.size w) (.cells #[.int .u64 p, .slice Am m.length cm, .slice Ai ins.length ci, .slice Ao outs.length co_] 48) (Nat.le_refl _)
  go_enter Try.func7, Try.ntmps7
  go_wp2_with fail
  refine (awake7_any _).mono ?_
  rintro e w1 ⟨rfl, hb⟩
  replace sm := sm.next hb
  replace si := si.next hb
  replace so := so.next hb
  replace hB := hB.trans (hb.mono hB.size)
  replace k0 := (hb.cell (p := ⟨w.heap.size, 0, none⟩) hq).trans k0
  replace k1 := (hb.cell (p := ⟨w.heap.size, 1, none⟩) hq).trans k1
  replace k2 := (hb.cell (p := ⟨w.heap.size, 2, none⟩) hq).trans k2
  replace k3 := (hb.cell (p := ⟨w.heap.size, 3, none⟩) hq).trans k3
  replace hq := Nat.lt_of_lt_of_le hq hb.size
  clear hb
  go_wp2_with fail
  refine (gs _).mono ?_
  rintro e w2 ⟨rfl, hb⟩
  replace sm := sm.next hb
  replace si := si.next hb
  replace so := so.next hb
  replace hB := hB.trans (hb.mono hB.size)
  replace k0 := (hb.cell (p := ⟨w.heap.size, 0, none⟩) hq).trans k0
  replace k1 := (hb.cell (p := ⟨w.heap.size, 1, none⟩) hq).trans k1
  replace k2 := (hb.cell (p := ⟨w.heap.size, 2, none⟩) hq).trans k2
  replace k3 := (hb.cell (p := ⟨w.heap.size, 3, none⟩) hq).trans k3
  replace hq := Nat.lt_of_lt_of_le hq hb.size
  clear hb
  go_wp2_with fail
  refine (gm _ sm).mono ?_
  rintro e w' ⟨rfl, rfl⟩
  go_wp2_with fail
  refine (gb _ sm).mono ?_
  rintro e w' ⟨rfl, rfl⟩
  go_wp2_with fail
  refine (gi _ si).mono ?_
  rintro e w' ⟨rfl, rfl⟩
  go_wp2_with fail
  refine (go _ so).mono ?_
  rintro e w' ⟨rfl, rfl⟩
  go_wp2_with fail
  refine (g1' _ sm si so).mono ?_
  rintro e w7 ⟨Aa, ca, Ab, cb, rfl, sa, sb, hb⟩
  replace sm := sm.next hb
  replace si := si.next hb
  replace so := so.next hb
  replace hB := hB.trans (hb.mono hB.size)
  replace k0 := (hb.cell (p := ⟨w.heap.size, 0, none⟩) hq).trans k0
  replace k1 := (hb.cell (p := ⟨w.heap.size, 1, none⟩) hq).trans k1
  replace k2 := (hb.cell (p := ⟨w.heap.size, 2, none⟩) hq).trans k2
  replace k3 := (hb.cell (p := ⟨w.heap.size, 3, none⟩) hq).trans k3
  replace hq := Nat.lt_of_lt_of_le hq hb.size
  clear hb
  go_wp2_with fail
  refine (g2' _ sm si so).mono ?_
  rintro e w8 ⟨Ac, cc, Ad, cd, rfl, sc, sd, hb⟩
  replace sm := sm.next hb
  replace si := si.next hb
  replace so := so.next hb
  replace sa := sa.next hb
  replace sb := sb.next hb
  replace hB := hB.trans (hb.mono hB.size)
  replace k0 := (hb.cell (p := ⟨w.heap.size, 0, none⟩) hq).trans k0
  replace k1 := (hb.cell (p := ⟨w.heap.size, 1, none⟩) hq).trans k1
  replace k2 := (hb.cell (p := ⟨w.heap.size, 2, none⟩) hq).trans k2
  replace k3 := (hb.cell (p := ⟨w.heap.size, 3, none⟩) hq).trans k3
  replace hq := Nat.lt_of_lt_of_le hq hb.size
  clear hb
  go_wp2_with fail
  refine (same_b _ _ x _ _ _ sa sc hxl).mono ?_
  rintro e w9 ⟨rfl, hb⟩
  replace sm := sm.next hb
  replace si := si.next hb
  replace so := so.next hb
  replace sa := sa.next hb
  replace sb := sb.next hb
  replace sc := sc.next hb
  replace sd := sd.next hb
  replace hB := hB.trans (hb.mono hB.size)
  replace k0 := (hb.cell (p := ⟨w.heap.size, 0, none⟩) hq).trans k0
  replace k1 := (hb.cell (p := ⟨w.heap.size, 1, none⟩) hq).trans k1
  replace k2 := (hb.cell (p := ⟨w.heap.size, 2, none⟩) hq).trans k2
  replace k3 := (hb.cell (p := ⟨w.heap.size, 3, none⟩) hq).trans k3
  replace hq := Nat.lt_of_lt_of_le hq hb.size
  clear hb
  go_wp2_with fail
  refine (same_b _ _ Y _ _ _ sb sd hyl).mono ?_
  rintro e w10 ⟨rfl, hb⟩
  replace sm := sm.next hb
  replace si := si.next hb
  replace so := so.next hb
  replace sa := sa.next hb
  replace sb := sb.next hb
  replace sc := sc.next hb
  replace sd := sd.next hb
  replace hB := hB.trans (hb.mono hB.size)
  replace k0 := (hb.cell (p := ⟨w.heap.size, 0, none⟩) hq).trans k0
  replace k1 := (hb.cell (p := ⟨w.heap.size, 1, none⟩) hq).trans k1
  replace k2 := (hb.cell (p := ⟨w.heap.size, 2, none⟩) hq).trans k2
  replace k3 := (hb.cell (p := ⟨w.heap.size, 3, none⟩) hq).trans k3
  replace hq := Nat.lt_of_lt_of_le hq hb.size
  clear hb
  go_wp2_with fail
  go_ret
  exact ⟨rfl, hB⟩

set_option maxHeartbeats 4000000 in
theorem walk (p : Int) (Am : Option Addr) (cm : Nat) (m : List (List Int)) (Ai : Option Addr) (ci : Nat) (ins : List (Int × Int)) (Ao : Option Addr) (co_ : Nat) (outs : List (Int × Int)) (wm : ∀ r ∈ m, Words r) (lm : m.length ≤ 9223372036854775807) (wi : PWords ins) (wo : PWords outs)  (w : World) (sm : Sll w Am cm m) (si : Pt w Ai ci ins) (so : Pt w Ao co_ outs) :
    Calls Try.prog 7 #[.agg #[.int .u64 p, .slice Am m.length cm, .slice Ai ins.length ci, .slice Ao outs.length co_]] w fun e w' => e = .returned (.bool true) ∧ Below w.heap.size w w' := by
  rcases sup_cases p with hs | ⟨hs, hp⟩
  · exact walk_unsup p Am cm m Ai ci ins Ao co_ outs wm lm wi wo hs w sm si so
  · cases h1 : smallB m 7 7 with
    | false => exact walk_big p Am cm m Ai ci ins Ao co_ outs wm lm wi wo hs h1 w sm si so
    | true =>
      cases h2 : belM p m with
      | false => exact walk_bm p Am cm m Ai ci ins Ao co_ outs wm lm wi wo hs h1 h2 w sm si so
      | true =>
        by_cases h3 : 8 < ins.length
        · exact walk_i8 p Am cm m Ai ci ins Ao co_ outs wm lm wi wo hs h1 h2 h3 w sm si so
        · by_cases h4 : 8 < outs.length
          · exact walk_o8 p Am cm m Ai ci ins Ao co_ outs wm lm wi wo hs h1 h2 (by omega) h4 w sm si so
          · cases h5 : belP p ins with
            | false => exact walk_bi p Am cm m Ai ci ins Ao co_ outs wm lm wi wo hs h1 h2 (by omega) (by omega) h5 w sm si so
            | true =>
              cases h6 : belP p outs with
              | false => exact walk_bo p Am cm m Ai ci ins Ao co_ outs wm lm wi wo hs h1 h2 (by omega) (by omega) h5 h6 w sm si so
              | true =>
                cases h7 : argB m ins outs with
                | false => exact walk_arg p Am cm m Ai ci ins Ao co_ outs wm lm wi wo hs h1 h2 (by omega) (by omega) hp h5 h6 h7 w sm si so
                | true =>
                  cases h8 : cmp p m ins outs with
                  | none => exact walk_zero p Am cm m Ai ci ins Ao co_ outs wm lm wi wo hs h1 h2 (by omega) (by omega) hp h5 h6 h7 h8 w sm si so
                  | some x => exact walk_ok p Am cm m Ai ci ins Ao co_ outs wm lm wi wo hs h1 h2 (by omega) (by omega) hp h5 h6 x h7 h8 w sm si so

theorem lifted (os : Os) (started : os.Started) (H : Type) (enc : TypeId × Value → H) :
    ReturnsInHanded {} Try.checked os 7 .any (Rows.hyperinvertibleCompleteMatchesReferenceSpec.pre6 enc Try.prog Try.f7 Rows.hyperinvertibleCompleteMatchesReferenceRow.domain false) (Rows.hyperinvertibleCompleteMatchesReferenceSpec.post enc Try.prog Try.f7 false true false false) := by
  refine returnsInHanded_of_change (C := Try.checked) own started (by kernel_rfl) Try.func7
    (ChangeSpec.witness6 (enc := enc) (C := Try.checked) false ⟨#[], #[.agg #[.int .u64 0, .slice none 0 0, .slice none 0 0, .slice none 0 0]], []⟩ 8 (by kernel_rfl) (by kernel_rfl) (by kernel_rfl) (by kernel_rfl)) ?_
  intro W base args ds gs before hval0 hW hcnd _
  have hval : ∀ (j : Nat) t v, Try.f7.params[j]? = some t → args[j]? = some v → Value.okWide Try.prog W .any base t v := hval0
  have hW' := hW
  obtain ⟨p, q, hA0, hV, rfl, hfz, hnd⟩ := hW
  have hA : DataW.TrodAll enc Try.prog W 0 (fun _ => true) true Try.f7.params.toList args.toList ds p := hA0
  rw [Try.params7] at hA hval
  obtain ⟨v0, d0, rfl, rfl, t0⟩ := trodAll_one hA
  obtain ⟨rfl, rfl⟩ := trodVars_none hV
  clear hA0 hval0
  simp only [List.append_nil] at hW'
  have l0 : ∀ x ∈ p, x.block < W.heap.size := fun x hx => hW'.lt x (by simp [hx])
  obtain ⟨x0, A0, m0, c0, B0, i0, e0, D0, o0, f0, rfl, sm, wm, lm, si, wi, so, wo⟩ := arg_part (hval 0 48 v0 rfl rfl) t0 l0
  refine (walk x0 A0 c0 m0 B0 e0 i0 D0 f0 o0 wm lm wi wo W sm si so).mono fun e W' ⟨he, hb⟩ => ?_
  subst he
  exact ⟨_, rfl, post_of_below (pa := p) (pv := []) hW' (fun _ _ _ => (trodAll_cons_mk (shut_bool Try.underlying4 _) trodAll_mk0)) (fun sp hsp => trodAll_mk1 (stay_part t0 hb l0 sp (fun x hx => hsp x (by simp [hx])))) (fun _ _ => rfl) (by simp)
    hb (ok_one (by kernel_rfl) rfl (okWide_bool_mk Try.underlying4 _))⟩

theorem over : Rows.hyperinvertibleCompleteMatchesReferenceRow.holds Try.pinned (OpenSpec.ofChange Rows.hyperinvertibleCompleteMatchesReferenceSpec) :=
  OpenClaim.holds_of_wide 7 Try.f7 rfl rfl rfl rfl rfl rfl rfl ⟨rfl, rfl, rfl, rfl, rfl⟩ rfl rfl rfl rfl rfl (by kernel_rfl) Try.func7 (by kernel_rfl)
    (of_decide_eq_true (by kernel_rfl)) (by unfold Func.isWrapper; first | (rw [if_pos (by decide +kernel)]; kernel_rfl) | (rw [if_neg (by decide +kernel)]; exact ⟨rfl, rfl⟩))
    (fun os started H enc _ => lifted os started H enc)

theorem proved : Rows.HyperinvertibleCompleteMatchesReferenceSaid := over
end Go.Proofs.Ytjijlefplidhpaa.hyperinvertibleCompleteMatchesReference
