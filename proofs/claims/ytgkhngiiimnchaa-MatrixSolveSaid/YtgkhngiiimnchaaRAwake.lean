/- The examples of the document for layer 6 hold: awake returns true. Nothing that lay is changed. No conditions. -/
import Derived.Test.YtgkhngiiimnchaaRRefB
namespace Go.Proofs.Ytgkhngiiimnchaa
open Go.RowKit PolyMath FieldMath MatMath

theorem Sll.lit2 (w : World) {A1 A2 : Option Addr} {c1 c2 : Nat} {r1 r2 : List Int} (h1 : Sl w A1 c1 r1) (h2 : Sl w A2 c2 r2) :
    Sll (w.alloc (.cells #[.slice A1 r1.length c1, .slice A2 r2.length c2] 24)) (some ⟨w.heap.size, 0, none⟩) 2 [r1, r2] := by
  refine ⟨Nat.le_refl _, (fun h => by cases h), fun ad e _ => ?_⟩
  injection e with e
  subst e
  refine ⟨w.heap.size, 0, rfl, by simp, fun j r hr => ?_⟩
  rw [cell_of_row _ w.heap.size (0 + j) _ 24 (0, 0) (World.alloc_heap_new w _), Nat.zero_add]
  match j, hr with
  | 0, hr => simp at hr; subst hr; exact ⟨A1, c1, rfl, h1.push _⟩
  | 1, hr => simp at hr; subst hr; exact ⟨A2, c2, rfl, h2.push _⟩
  | n + 2, hr => simp at hr
theorem Sll.lit1 (w : World) {A1 : Option Addr} {c1 : Nat} {r1 : List Int} (h1 : Sl w A1 c1 r1) :
    Sll (w.alloc (.cells #[.slice A1 r1.length c1] 24)) (some ⟨w.heap.size, 0, none⟩) 1 [r1] := by
  refine ⟨Nat.le_refl _, (fun h => by cases h), fun ad e _ => ?_⟩
  injection e with e
  subst e
  refine ⟨w.heap.size, 0, rfl, by simp, fun j r hr => ?_⟩
  rw [cell_of_row _ w.heap.size (0 + j) _ 24 (0, 0) (World.alloc_heap_new w _), Nat.zero_add]
  match j, hr with
  | 0, hr => simp at hr; subst hr; exact ⟨A1, c1, rfl, h1.push _⟩
  | n + 1, hr => simp at hr

theorem ok31 : OkP 31 := .inl rfl
theorem el_dec {p : Int} {xs : List Int} (h : (xs.all fun x => decide (0 ≤ x) && decide (x < p)) = true) : El p xs := fun x hx => by
  have := List.all_eq_true.1 h x hx
  simpa using this
theorem els_dec {p : Int} {rows : List (List Int)} (h : (rows.all fun xs => xs.all fun x => decide (0 ≤ x) && decide (x < p)) = true) : ∀ r ∈ rows, El p r := fun r hr => el_dec (List.all_eq_true.1 h r hr)
theorem sized_dec {rows : List (List Int)} (h : (decide (rows.length ≤ 100) && rows.all fun r => decide (r.length ≤ 100)) = true) : Sized rows := by
  rw [Bool.and_eq_true, decide_eq_true_eq, List.all_eq_true] at h
  exact .of h.1 fun r hr => by simpa using h.2 r hr
abbrev exM : List (List Int) := [[1, 2], [3, 4]]
abbrev exS : List (List Int) := [[1, 2], [2, 4]]
theorem ex_det (A : Option Addr) (c : Nat) (w : World) (h : Sll w A c exM) : Calls Try.prog 22 #[.int .u64 31, .slice A 2 c] w fun e w' => e = .returned (.tuple #[.int .u64 29, .int .i64 0]) ∧ Below w.heap.size w w' := by
  have := det_ok 31 ok31 A c exM (sized_dec (by decide)) (els_dec (by decide)) (by decide) w h
  rwa [show dtm 31 exM = 29 from by decide +kernel] at this
theorem ex_rank (A : Option Addr) (c : Nat) (w : World) (h : Sll w A c exM) : Calls Try.prog 20 #[.int .u64 31, .slice A 2 c] w fun e w' => e = .returned (.tuple #[.int .i64 2, .int .i64 0]) ∧ Below w.heap.size w w' := by
  have := rank_ok 31 ok31 A c exM (sized_dec (by decide)) (els_dec (by decide)) (by decide) w h
  rwa [show rnk 31 exM = 2 from by decide +kernel] at this
theorem ex_sol {m : List (List Int)} {b x : List Int} (hz : Sized m) (hE : ∀ r ∈ m, El 31 r) (hb : El 31 b) (hr : rect m = true) (hn : m.length = b.length) (hx : slv 31 m b = some x) (A B : Option Addr) (c cv : Nat) (w : World) (h : Sll w A c m) (sb : Sl w B cv b) :
    Calls Try.prog 25 #[.int .u64 31, .slice A m.length c, .slice B b.length cv] w fun e w' => RowE w e w' x := by
  refine (solve_any 31 ok31 A B c cv m b hz hE hb hr hn w h sb).mono ?_
  rintro e w' (⟨y, hy, hR⟩ | ⟨hn, _⟩)
  · rw [hx] at hy
    injection hy with hy
    subst hy
    exact hR
  · rw [hx] at hn; cases hn
theorem ex_nosol {m : List (List Int)} {b : List Int} (hz : Sized m) (hE : ∀ r ∈ m, El 31 r) (hb : El 31 b) (hr : rect m = true) (hn : m.length = b.length) (hx : slv 31 m b = none) (A B : Option Addr) (c cv : Nat) (w : World) (h : Sll w A c m) (sb : Sl w B cv b) :
    Calls Try.prog 25 #[.int .u64 31, .slice A m.length c, .slice B b.length cv] w fun e w' => e = .returned (.tuple #[.slice none 0 0, .int .i64 6]) ∧ Below w.heap.size w w' := by
  refine (solve_any 31 ok31 A B c cv m b hz hE hb hr hn w h sb).mono ?_
  rintro e w' (⟨y, hy, hR⟩ | ⟨_, hR⟩)
  · rw [hx] at hy; cases hy
  · exact hR
theorem ex_inv (A : Option Addr) (c : Nat) (w : World) (h : Sll w A c exS) : Calls Try.prog 27 #[.int .u64 31, .slice A 2 c] w fun e w' => e = .returned (.tuple #[.slice none 0 0, .int .i64 8]) ∧ Below w.heap.size w w' := by
  refine (inv_any 31 ok31 A c exS (sized_dec (by decide)) (els_dec (by decide)) (by decide) w h).mono ?_
  rintro e w' (⟨y, hy, hR⟩ | ⟨_, hR⟩)
  · rw [show invM 31 exS = none from by decide +kernel] at hy; cases hy
  · exact hR

set_option maxRecDepth 100000 in
set_option maxHeartbeats 4000000 in
theorem awake_any (w : World) : Calls Try.prog 12 #[] w fun e w' => e = .returned (.bool true) ∧ Below w.heap.size w w' := by
  have hm : Sll ((((((w.alloc (.cells #[.int .u64 1, .int .u64 2] 22)).alloc (.cells #[.int .u64 3, .int .u64 4] 22)).alloc (.cells #[.slice (some ⟨w.heap.size, 0, none⟩) 2 2, .slice (some ⟨w.heap.size + 1, 0, none⟩) 2 2] 24)).alloc (.cells #[.int .u64 1, .int .u64 2] 22)).alloc (.cells #[.int .u64 2, .int .u64 4] 22)).alloc (.cells #[.slice (some ⟨w.heap.size + 3, 0, none⟩) 2 2, .slice (some ⟨w.heap.size + 4, 0, none⟩) 2 2] 24)) (some ⟨w.heap.size + 2, 0, none⟩) 2 exM := by
    have h1 := (Sl.l2 w 1 2).push (.cells #[.int .u64 3, .int .u64 4] 22)
    have h2 := Sl.l2 (w.alloc (.cells #[.int .u64 1, .int .u64 2] 22)) 3 4
    rw [World.size_alloc] at h2
    have h3 := Sll.lit2 _ h1 h2
    rw [World.size_alloc, World.size_alloc] at h3
    exact ((h3.push _).push _).push _
  have hs : Sll ((((((w.alloc (.cells #[.int .u64 1, .int .u64 2] 22)).alloc (.cells #[.int .u64 3, .int .u64 4] 22)).alloc (.cells #[.slice (some ⟨w.heap.size, 0, none⟩) 2 2, .slice (some ⟨w.heap.size + 1, 0, none⟩) 2 2] 24)).alloc (.cells #[.int .u64 1, .int .u64 2] 22)).alloc (.cells #[.int .u64 2, .int .u64 4] 22)).alloc (.cells #[.slice (some ⟨w.heap.size + 3, 0, none⟩) 2 2, .slice (some ⟨w.heap.size + 4, 0, none⟩) 2 2] 24)) (some ⟨w.heap.size + 5, 0, none⟩) 2 exS := by
    have h1 := (Sl.l2 (((w.alloc (.cells #[.int .u64 1, .int .u64 2] 22)).alloc (.cells #[.int .u64 3, .int .u64 4] 22)).alloc (.cells #[.slice (some ⟨w.heap.size, 0, none⟩) 2 2, .slice (some ⟨w.heap.size + 1, 0, none⟩) 2 2] 24)) 1 2).push (.cells #[.int .u64 2, .int .u64 4] 22)
    have h2 := Sl.l2 ((((w.alloc (.cells #[.int .u64 1, .int .u64 2] 22)).alloc (.cells #[.int .u64 3, .int .u64 4] 22)).alloc (.cells #[.slice (some ⟨w.heap.size, 0, none⟩) 2 2, .slice (some ⟨w.heap.size + 1, 0, none⟩) 2 2] 24)).alloc (.cells #[.int .u64 1, .int .u64 2] 22)) 2 4
    simp only [World.size_alloc] at h1 h2
    have h3 := Sll.lit2 _ h1 h2
    simp only [World.size_alloc] at h3
    exact h3
  have hB : Below w.heap.size w ((((((w.alloc (.cells #[.int .u64 1, .int .u64 2] 22)).alloc (.cells #[.int .u64 3, .int .u64 4] 22)).alloc (.cells #[.slice (some ⟨w.heap.size, 0, none⟩) 2 2, .slice (some ⟨w.heap.size + 1, 0, none⟩) 2 2] 24)).alloc (.cells #[.int .u64 1, .int .u64 2] 22)).alloc (.cells #[.int .u64 2, .int .u64 4] 22)).alloc (.cells #[.slice (some ⟨w.heap.size + 3, 0, none⟩) 2 2, .slice (some ⟨w.heap.size + 4, 0, none⟩) 2 2] 24)) := bnew (bnew (bnew (bnew (bnew (bnew (Below.refl w.heap.size w) _ (Nat.le_refl _)) _ (Nat.le_refl _)) _ (Nat.le_refl _)) _ (Nat.le_refl _)) _ (Nat.le_refl _)) _ (Nat.le_refl _)
  go_enter Try.func12, Try.ntmps12
  go_wp2_with fail
  refine (ex_det _ _ _ hm).mono ?_
  rintro e w1 ⟨rfl, hb⟩
  replace hm := hm.next hb
  replace hs := hs.next hb
  replace hB := hB.trans (hb.mono hB.size)
  clear hb
  go_wp2_with fail
  refine (ex_rank _ _ _ hm).mono ?_
  rintro e w2 ⟨rfl, hb⟩
  replace hm := hm.next hb
  replace hs := hs.next hb
  replace hB := hB.trans (hb.mono hB.size)
  clear hb
  go_wp2_with fail
  refine (ex_sol (m := exM) (b := [5, 11]) (x := [1, 2]) (sized_dec (by decide)) (els_dec (by decide)) (el_dec (by decide)) (by decide) rfl (by decide +kernel) _ _ _ _ _ (hm.push (.cells #[.int .u64 5, .int .u64 11] 22)) (Sl.l2 w2 5 11)).mono ?_
  rintro e w3 ⟨Ax, cx, rfl, hx, hb⟩
  replace hm := (hm.push (.cells #[.int .u64 5, .int .u64 11] 22)).next hb
  replace hs := (hs.push (.cells #[.int .u64 5, .int .u64 11] 22)).next hb
  replace hB := bnew hB (.cells #[.int .u64 5, .int .u64 11] 22) (Nat.le_refl _)
  replace hB := hB.trans (hb.mono hB.size)
  clear hb
  go_wp2_with fail
  refine (ex_nosol (m := exS) (b := [1, 3]) (sized_dec (by decide)) (els_dec (by decide)) (el_dec (by decide)) (by decide) rfl (by decide +kernel) _ _ _ _ _ (hs.push (.cells #[.int .u64 1, .int .u64 3] 22)) (Sl.l2 w3 1 3)).mono ?_
  rintro e w4 ⟨rfl, hb⟩
  replace hm := (hm.push (.cells #[.int .u64 1, .int .u64 3] 22)).next hb
  replace hs := (hs.push (.cells #[.int .u64 1, .int .u64 3] 22)).next hb
  replace hx := (hx.push (.cells #[.int .u64 1, .int .u64 3] 22)).next hb
  replace hB := bnew hB (.cells #[.int .u64 1, .int .u64 3] 22) (Nat.le_refl _)
  replace hB := hB.trans (hb.mono hB.size)
  clear hb
  go_wp2_with fail
  refine (ex_sol (m := exS) (b := [1, 2]) (x := [1, 0]) (sized_dec (by decide)) (els_dec (by decide)) (el_dec (by decide)) (by decide) rfl (by decide +kernel) _ _ _ _ _ (hs.push (.cells #[.int .u64 1, .int .u64 2] 22)) (Sl.l2 w4 1 2)).mono ?_
  rintro e w5 ⟨Ay, cy, rfl, hy, hb⟩
  replace hm := (hm.push (.cells #[.int .u64 1, .int .u64 2] 22)).next hb
  replace hs := (hs.push (.cells #[.int .u64 1, .int .u64 2] 22)).next hb
  replace hx := (hx.push (.cells #[.int .u64 1, .int .u64 2] 22)).next hb
  replace hB := bnew hB (.cells #[.int .u64 1, .int .u64 2] 22) (Nat.le_refl _)
  replace hB := hB.trans (hb.mono hB.size)
  clear hb
  go_wp2_with fail
  refine (ex_inv _ _ _ hs).mono ?_
  rintro e w6 ⟨rfl, hb⟩
  replace hm := hm.next hb
  replace hx := hx.next hb
  replace hy := hy.next hb
  replace hB := hB.trans (hb.mono hB.size)
  clear hb hs
  have h1 := Sl.l1 w6 1
  have hl1 := Sll.lit1 _ h1
  simp only [World.size_alloc] at hl1
  go_wp2_with fail
  refine (mul_bad3 31 _ _ _ _ exM [[1]] (sized_dec (by decide)) (sized_dec (by decide)) (by decide) (by decide) (by decide) _ ((hm.push _).push _) hl1).mono ?_
  rintro e w7 ⟨rfl, hb⟩
  replace hx := ((hx.push (.cells #[.int .u64 1] 22)).push (.cells #[.slice (some ⟨w6.heap.size, 0, none⟩) 1 1] 24)).next hb
  replace hy := ((hy.push (.cells #[.int .u64 1] 22)).push (.cells #[.slice (some ⟨w6.heap.size, 0, none⟩) 1 1] 24)).next hb
  replace hB := bnew (bnew hB (.cells #[.int .u64 1] 22) (Nat.le_refl _)) (.cells #[.slice (some ⟨w6.heap.size, 0, none⟩) 1 1] 24) (Nat.le_refl _)
  replace hB := hB.trans (hb.mono hB.size)
  clear hb h1 hl1 hm
  go_wp2_with fail
  refine (sameL_b _ _ [1, 2] _ _ _ (hx.push (.cells #[.int .u64 1, .int .u64 2] 22)) (Sl.l2 w7 1 2) (by decide)).mono ?_
  rintro e w8 ⟨rfl, hb⟩
  replace hy := (hy.push (.cells #[.int .u64 1, .int .u64 2] 22)).next hb
  replace hB := bnew hB (.cells #[.int .u64 1, .int .u64 2] 22) (Nat.le_refl _)
  replace hB := hB.trans (hb.mono hB.size)
  clear hb hx
  go_wp2_with fail
  refine (sameL_b _ _ [1, 0] _ _ _ (hy.push (.cells #[.int .u64 1, .int .u64 0] 22)) (Sl.l2 w8 1 0) (by decide)).mono ?_
  rintro e w9 ⟨rfl, hb⟩
  replace hB := bnew hB (.cells #[.int .u64 1, .int .u64 0] 22) (Nat.le_refl _)
  replace hB := hB.trans (hb.mono hB.size)
  clear hb hy
  go_wp2_with fail
  go_ret
  exact ⟨rfl, hB⟩
end Go.Proofs.Ytgkhngiiimnchaa
