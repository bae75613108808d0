/- Slices of sharings that a law writes out; rows that the reference has checked. No conditions. -/
import Derived.Test.YtddbdjhgmeeakaaWSet
import Derived.Test.YtddbdjhgmeeakaaMF
namespace Go.Proofs.Ytddbdjhgmeeakaa
set_option maxRecDepth 100000
open Go.RowKit PolyMath FieldMath MatMath

theorem S3.lit3 (w : World) {A B : Option Addr} {c d N : Nat} {ra rb : List (List Int)} (ha : Sll w A c ra) (hb : Sll w B d rb) (la : ra.length = N) (lb : rb.length = N) :
    S3 (w.alloc (.cells #[.slice A N c, .slice B N d, .slice A N c] 57)) (some ⟨w.heap.size, 0, none⟩) 3 N [ra, rb, ra] := by
  refine ⟨Nat.le_refl _, fun _ => ⟨w.heap.size, 0, rfl, by simp, fun j m hm => ?_⟩⟩
  have hbl := bnew (Below.refl w.heap.size w) (.cells #[.slice A N c, .slice B N d, .slice A N c] 57) (Nat.le_refl _)
  rw [cell_of_row _ w.heap.size (0 + j) _ 57 (0, 0) (World.alloc_heap_new w _), Nat.zero_add]
  match j, hm with
  | 0, hm => simp at hm; subst hm; exact ⟨la, A, c, rfl, ha.next hbl⟩
  | 1, hm => simp at hm; subst hm; exact ⟨lb, B, d, rfl, hb.next hbl⟩
  | 2, hm => simp at hm; subst hm; exact ⟨la, A, c, rfl, ha.next hbl⟩
  | n + 3, hm => simp at hm
theorem S3.lit1 (w : World) {A : Option Addr} {c N : Nat} {ra : List (List Int)} (ha : Sll w A c ra) (la : ra.length = N) :
    S3 (w.alloc (.cells #[.slice A N c] 57)) (some ⟨w.heap.size, 0, none⟩) 1 N [ra] := by
  refine ⟨Nat.le_refl _, fun _ => ⟨w.heap.size, 0, rfl, by simp, fun j m hm => ?_⟩⟩
  have hbl := bnew (Below.refl w.heap.size w) (.cells #[.slice A N c] 57) (Nat.le_refl _)
  rw [cell_of_row _ w.heap.size (0 + j) _ 57 (0, 0) (World.alloc_heap_new w _), Nat.zero_add]
  match j, hm with
  | 0, hm => simp at hm; subst hm; exact ⟨la, A, c, rfl, ha.next hbl⟩
  | n + 1, hm => simp at hm
theorem Fair.msh {p : Int} {N long : Nat} {ra : List (List Int)} (h : Fair p N long ra) (hw : ∀ r ∈ ra, Words r) : Msh p long ra := fun i hi =>
  have h1 := h.2 i (by rw [← h.1]; exact hi)
  ⟨h1.1, el_of (hw _ (List.mem_of_getElem? (ro_get hi))) h1.2⟩
theorem rows_short {f : Nat → List Int} {N : Nat} (h : ∀ i, (f i).length ≤ 1000) : ∀ r ∈ (List.range N).map f, r.length ≤ 1000 := fun r hr => by
  obtain ⟨i, _, rfl⟩ := List.mem_map.1 hr
  exact h i
/-- Same of two slices with the same rows. -/
theorem same_rows (A A' : Option Addr) (N c c' : Nat) (f : Nat → List Int) (w : World) (h : Sll w A c ((List.range N).map f)) (h' : Sll w A' c' ((List.range N).map f)) (hN : N ≤ 1000) (hf : ∀ i, (f i).length ≤ 1000) :
    Calls Try.prog 30 #[.slice A N c, .slice A' N c'] w fun e w' => e = .returned (.bool true) ∧ Below w.heap.size w w' :=
  same9 A A' N c c' _ (by simp) w h h' hN (rows_short hf)
theorem same_rows5 (A A' : Option Addr) (N c c' : Nat) (f : Nat → List Int) (w : World) (h : Sll w A c ((List.range N).map f)) (h' : Sll w A' c' ((List.range N).map f)) (hN : N ≤ 1000) (hf : ∀ i, (f i).length ≤ 1000) :
    Calls Try.prog 39 #[.slice A N c, .slice A' N c'] w fun e w' => e = .returned (.bool true) ∧ Below w.heap.size w w' := by
  have hr := rows_b A A' _ c c' w h h' (by simp; omega) (rows_short hf)
  rw [show ((List.range N).map f).length = N by simp] at hr
  exact hr
end Go.Proofs.Ytddbdjhgmeeakaa
