/- The examples of the document for layer 2 hold: awake returns true, and nothing that lay is changed. No conditions. -/
import Derived.Test.YtcjibadnhhnpmaaBRef
import Derived.Test.YtcjibadnhhnpmaaBRefMul
namespace Go.Proofs.Ytcjibadnhhnpmaa
open Go.RowKit BitMath

theorem Rd.lit (w : World) (xs : List Int) : Rd (w.alloc (.cells (xs.map (Value.int .u64)).toArray 22)).heap.size (w.alloc (.cells (xs.map (Value.int .u64)).toArray 22)) (some ⟨w.heap.size, 0, none⟩) xs := fun _ => by
  refine ⟨w.heap.size, 0, rfl, by simp, fun j x hx => ?_⟩
  rw [cell_of_row _ w.heap.size (0 + j) (xs.map (Value.int .u64)).toArray 22 (0, 0) (World.alloc_heap_new w _)]
  simp [hx]

theorem Rd.l1 (w : World) (x : Int) : Rd (w.alloc (.cells #[.int .u64 x] 22)).heap.size (w.alloc (.cells #[.int .u64 x] 22)) (some ⟨w.heap.size, 0, none⟩) [x] := Rd.lit w [x]
theorem Rd.l2 (w : World) (x y : Int) : Rd (w.alloc (.cells #[.int .u64 x, .int .u64 y] 22)).heap.size (w.alloc (.cells #[.int .u64 x, .int .u64 y] 22)) (some ⟨w.heap.size, 0, none⟩) [x, y] := Rd.lit w [x, y]
theorem Rd.l2b (w : World) (o : Obj) (x y : Int) : Rd ((w.alloc o).alloc (.cells #[.int .u64 x, .int .u64 y] 22)).heap.size ((w.alloc o).alloc (.cells #[.int .u64 x, .int .u64 y] 22)) (some ⟨w.heap.size + 1, 0, none⟩) [x, y] := by
  have h := Rd.l2 (w.alloc o) x y
  rwa [World.size_alloc w o] at h
theorem Rd.l3 (w : World) (x y z : Int) : Rd (w.alloc (.cells #[.int .u64 x, .int .u64 y, .int .u64 z] 22)).heap.size (w.alloc (.cells #[.int .u64 x, .int .u64 y, .int .u64 z] 22)) (some ⟨w.heap.size, 0, none⟩) [x, y, z] := Rd.lit w [x, y, z]
theorem Rd.l4 (w : World) (x y z t : Int) : Rd (w.alloc (.cells #[.int .u64 x, .int .u64 y, .int .u64 z, .int .u64 t] 22)).heap.size (w.alloc (.cells #[.int .u64 x, .int .u64 y, .int .u64 z, .int .u64 t] 22)) (some ⟨w.heap.size, 0, none⟩) [x, y, z, t] := Rd.lit w [x, y, z, t]

theorem same_is (A A' : Option Addr) (xs ys : List Int) (c c' : Nat) (w : World) (h : Rd w.heap.size w A xs) (h' : Rd w.heap.size w A' ys) (hl : xs.length ≤ 1000) (e : xs = ys) :
    Calls Try.prog 13 #[.slice A xs.length c, .slice A' ys.length c'] w fun e w' => e = .returned (.bool true) ∧ Below w.heap.size w w' := by
  have := same_any A A' xs ys c c' w h h' hl
  rwa [decide_eq_true e] at this

theorem from_6_4 (w : World) : Calls Try.prog 11 #[.int .u64 6, .int .i64 4] w fun e w' => RowOK w e w' [0, 1, 1, 0] :=
  from_good 6 4 (by decide) (by decide) ⟨by decide, by decide, (widI_le (by decide) (by decide)).2 (by decide)⟩ w
theorem from_6_2 (w : World) : Calls Try.prog 11 #[.int .u64 6, .int .i64 2] w fun e w' => e = .returned (.tuple #[.slice none 0 0, .int .i64 2]) ∧ w = w' :=
  from_bad 6 2 (by decide) (by decide) (fun h => absurd ((widI_le (k := 2) (by decide) (by decide)).1 h.2.2) (by decide)) w
theorem width_0 (w : World) : Calls Try.prog 14 #[.int .u64 0] w fun e w' => e = .returned (.int .i64 1) ∧ w = w' := width_any 0 (by decide) (by decide) w
theorem widI_6 : widI 6 = 3 := by rw [widI_eq (by decide), show (6 : Int).toNat = 6 from rfl, wid_big (by decide), wid_big (by decide), wid_small (by decide)]; rfl
theorem width_6 (w : World) : Calls Try.prog 14 #[.int .u64 6] w fun e w' => e = .returned (.int .i64 3) ∧ w = w' := by
  have := width_any 6 (by decide) (by decide) w; rwa [widI_6] at this
theorem to_0110 (A : Option Addr) (c B : Nat) (w : World) (h : Rd B w A [0, 1, 1, 0]) : Calls Try.prog 16 #[.slice A 4 c] w fun e w' => e = .returned (.tuple #[.int .u64 6, .int .i64 0]) ∧ w = w' :=
  toUint_any A [0, 1, 1, 0] c B w h (by decide)
theorem to_2 (A : Option Addr) (c B : Nat) (w : World) (h : Rd B w A [2]) : Calls Try.prog 16 #[.slice A 1 c] w fun e w' => e = .returned (.tuple #[.int .u64 0, .int .i64 7]) ∧ w = w' :=
  toUint_any A [2] c B w h (by decide)
theorem bits_lit (xs : List Int) (h : xs.all (fun x => decide (x = 0 ∨ x = 1)) = true) : Bits xs := fun x hx => of_decide_eq_true (List.all_eq_true.1 h x hx)
theorem add_1_11 (A A' : Option Addr) (c c' : Nat) (w : World) (h : Rd w.heap.size w A [1]) (h' : Rd w.heap.size w A' [1, 1]) : Calls Try.prog 19 #[.slice A 1 c, .slice A' 2 c'] w fun e w' => Row w e w' [0, 0, 1] :=
  add_any A A' c c' [1] [1, 1] (bits_lit _ (by decide)) (bits_lit _ (by decide)) (by decide) (by decide) w h h'
theorem sub_01_11 (A A' : Option Addr) (c c' : Nat) (w : World) (h : Rd w.heap.size w A [0, 1]) (h' : Rd w.heap.size w A' [1, 1]) : Calls Try.prog 22 #[.slice A 2 c, .slice A' 2 c'] w fun e w' => Row w e w' [0, 0] :=
  sub_any A A' c c' [0, 1] [1, 1] (bits_lit _ (by decide)) (bits_lit _ (by decide)) (by decide) (by decide) w h h'

theorem bnew {B : Nat} {a w : World} (h : Below B a w) (o : Obj) (hB : B ≤ a.heap.size) : Below B a (w.alloc o) := h.alloc (Nat.le_trans hB h.size) o
theorem Rd.push {w : World} {A : Option Addr} {xs : List Int} (h : Rd w.heap.size w A xs) (o : Obj) : Rd (w.alloc o).heap.size (w.alloc o) A xs := h.next ((Below.refl _ w).alloc (Nat.le_refl _) o)

set_option maxRecDepth 100000 in
set_option maxHeartbeats 2000000 in
theorem awake_any (w : World) : Calls Try.prog 10 #[] w fun e w' => e = .returned (.bool true) ∧ Below w.heap.size w w' := by
  go_enter Try.func10, Try.ntmps10
  go_wp2_with fail
  refine (from_6_4 w).mono ?_; rintro e w1 ⟨A1, c1, rfl, hR1, hB1⟩
  go_wp2_with fail
  refine (to_0110 _ _ _ _ (Rd.l4 w1 0 1 1 0)).mono ?_; rintro e w2 ⟨rfl, rfl⟩
  have hB2 := bnew hB1 (.cells #[.int .u64 0, .int .u64 1, .int .u64 1, .int .u64 0] 22) (Nat.le_refl _)
  have hR2 := hR1.push (.cells #[.int .u64 0, .int .u64 1, .int .u64 1, .int .u64 0] 22)
  generalize w1.alloc (.cells #[.int .u64 0, .int .u64 1, .int .u64 1, .int .u64 0] 22) = w2 at hB2 hR2 ⊢
  clear hB1 hR1
  go_wp2_with fail
  refine (from_6_2 _).mono ?_; rintro e w3 ⟨rfl, rfl⟩
  go_wp2_with fail
  refine (to_2 _ _ _ _ (Rd.l1 w2 2)).mono ?_; rintro e w3 ⟨rfl, rfl⟩
  have hB3 := bnew hB2 (.cells #[.int .u64 2] 22) (Nat.le_refl _)
  have hR3 := hR2.push (.cells #[.int .u64 2] 22)
  generalize w2.alloc (.cells #[.int .u64 2] 22) = w3 at hB3 hR3 ⊢
  clear hB2 hR2
  go_wp2_with fail
  refine (same_is _ _ [0, 1, 1, 0] [0, 1, 1, 0] _ _ _ (hR3.push (.cells #[.int .u64 0, .int .u64 1, .int .u64 1, .int .u64 0] 22)) (Rd.l4 w3 0 1 1 0) (by decide) rfl).mono ?_
  rintro e w4 ⟨rfl, hb4⟩
  have hB4 := (bnew hB3 (.cells #[.int .u64 0, .int .u64 1, .int .u64 1, .int .u64 0] 22) (Nat.le_refl _)).trans (hb4.mono (bnew hB3 (.cells #[.int .u64 0, .int .u64 1, .int .u64 1, .int .u64 0] 22) (Nat.le_refl _)).size)
  clear hb4 hB3 hR3
  go_wp2_with fail
  refine (width_0 _).mono ?_; rintro e w5 ⟨rfl, rfl⟩
  go_wp2_with fail
  refine (width_6 _).mono ?_; rintro e w5 ⟨rfl, rfl⟩
  go_wp2_with fail
  refine (add_1_11 _ _ _ _ _ ((Rd.l1 w4 1).push (.cells #[.int .u64 1, .int .u64 1] 22)) (Rd.l2b w4 (.cells #[.int .u64 1] 22) 1 1)).mono ?_
  rintro e w5 ⟨A5, c5, rfl, hR5, hb5⟩
  have hB5 := bnew (bnew hB4 (.cells #[.int .u64 1] 22) (Nat.le_refl _)) (.cells #[.int .u64 1, .int .u64 1] 22) (Nat.le_refl _)
  replace hB5 := hB5.trans (hb5.mono hB5.size)
  clear hb5 hB4
  go_wp2_with fail
  refine (same_is _ _ [0, 0, 1] [0, 0, 1] _ _ _ (hR5.push (.cells #[.int .u64 0, .int .u64 0, .int .u64 1] 22)) (Rd.l3 w5 0 0 1) (by decide) rfl).mono ?_
  rintro e w6 ⟨rfl, hb6⟩
  have hB6 := bnew hB5 (.cells #[.int .u64 0, .int .u64 0, .int .u64 1] 22) (Nat.le_refl _)
  replace hB6 := hB6.trans (hb6.mono hB6.size)
  clear hb6 hB5 hR5
  go_wp2_with fail
  refine (sub_01_11 _ _ _ _ _ ((Rd.l2 w6 0 1).push (.cells #[.int .u64 1, .int .u64 1] 22)) (Rd.l2b w6 (.cells #[.int .u64 0, .int .u64 1] 22) 1 1)).mono ?_
  rintro e w7 ⟨A7, c7, rfl, hR7, hb7⟩
  have hB7 := bnew (bnew hB6 (.cells #[.int .u64 0, .int .u64 1] 22) (Nat.le_refl _)) (.cells #[.int .u64 1, .int .u64 1] 22) (Nat.le_refl _)
  replace hB7 := hB7.trans (hb7.mono hB7.size)
  clear hb7 hB6
  go_wp2_with fail
  refine (same_is _ _ [0, 0] [0, 0] _ _ _ (hR7.push (.cells #[.int .u64 0, .int .u64 0] 22)) (Rd.l2 w7 0 0) (by decide) rfl).mono ?_
  rintro e w8 ⟨rfl, hb8⟩
  have hB8 := bnew hB7 (.cells #[.int .u64 0, .int .u64 0] 22) (Nat.le_refl _)
  replace hB8 := hB8.trans (hb8.mono hB8.size)
  clear hb8 hB7 hR7
  go_wp2_with fail
  go_ret
  exact ⟨rfl, hB8⟩

end Go.Proofs.Ytcjibadnhhnpmaa
