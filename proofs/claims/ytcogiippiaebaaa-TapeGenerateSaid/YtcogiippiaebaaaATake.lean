/- Take of package tape: a call that takes n words, and one that fails. Conditions: at most 1000 words. -/
import Derived.Test.YtcogiippiaebaaaATk
namespace Go.Proofs.Ytcogiippiaebaaa
set_option maxRecDepth 100000
open Go.RowKit

/-- n words were taken. -/
def Taken (T : Nat) (b : Nat) (xs : List Int) (k n : Nat) (w : World) (e : Ending) (w' : World) : Prop :=
  ∃ A c, e = .returned (.tuple #[.slice A n c, .int .i64 0]) ∧ Sl w' A c ((xs.drop k).take n) ∧ Ty w' A ∧ Tp T w' b xs (k + n) ∧ Bex b w w'

/-- The words that a call of Take hands back. -/
theorem Sl.part {w : World} {g off c : Nat} {xs : List Int} (h : Sl w (some ⟨g, off, none⟩) c xs) (k n : Nat) (hx : xs ≠ []) : Sl w (some ⟨g, off + k, none⟩) n ((xs.drop k).take n) :=
  ⟨by rw [List.length_take, List.length_drop]; omega, (fun h => absurd h (by simp)), fun ad hA _ => by
    injection hA with hA
    subst hA
    obtain ⟨b, o, e, hb, hc⟩ := h.rd _ rfl hx
    injection e with e1 e2 _
    subst e1 e2
    refine ⟨g, off + k, rfl, hb, fun j x hj => ?_⟩
    rw [List.getElem?_take] at hj
    split at hj
    · rw [List.getElem?_drop] at hj
      rw [Nat.add_assoc]
      exact hc (k + j) x hj
    · cases hj⟩
theorem Tp.put {T b k k' : Nat} {w : World} {A : Option Addr} {c : Nat} {xs : List Int} (hb : w.heap[b]? = some (.cells #[.slice A xs.length c, .int .i64 k] T (0, 0))) (hs : Sl w A c xs) (ht : Ty w A) (hT : T ≠ 37) (hk : k' ≤ xs.length) :
    Tp T (w.setCell ⟨b, 1, none⟩ (.int .i64 k')) b xs k' ∧ Sl (w.setCell ⟨b, 1, none⟩ (.int .i64 k')) A c xs ∧ Ty (w.setCell ⟨b, 1, none⟩ (.int .i64 k')) A := by
  obtain ⟨h1, h2⟩ := hs.ex ht ((Bex.refl b w).setCell 1 (.int .i64 k')) hb hT
  have h3 : (w.setCell ⟨b, 1, none⟩ (.int .i64 k')).heap[b]? = some (.cells #[.slice A xs.length c, .int .i64 k'] T (0, 0)) := by
    rw [heap_setCell_same w b 1 _ _ _ hb]; rfl
  exact ⟨⟨⟨A, c, h3, h1, h2⟩, hk⟩, h1, h2⟩

set_option maxHeartbeats 1000000 in
theorem take_bad (b : Nat) (xs : List Int) (k : Nat) (n : Int) (w : World) (h : Tp 46 w b xs k) (hl : xs.length ≤ 1000) (hn0 : -9223372036854775808 ≤ n) (hn1 : n ≤ 9223372036854775807) (hn : n < 0 ∨ (xs.length : Int) - k < n) :
    Calls Try.prog 11 #[.pointer (some ⟨b, 0, none⟩), .int .i64 n] w fun e w' => e = .returned (.tuple #[.slice none 0 0, .int .i64 10]) ∧ Below w.heap.size w w' := by
  have hr := remaining_any b xs k w h hl
  by_cases h0 : n < 0
  · go_enter Try.func11, Try.ntmps11
    go_wp2
    go_ret2
    exact ⟨rfl, Below.refl _ _⟩
  · have hn' : (xs.length : Int) - k < n := by omega
    have hz : ¬ n < 0 := h0
    go_enter Try.func11, Try.ntmps11
    go_wp2_with (go_at_call 14; refine hr.mono ?_; rintro e w1 ⟨rfl, hb⟩)
    go_ret2
    exact ⟨rfl, hb⟩

set_option maxHeartbeats 2000000 in
theorem take_none (b : Nat) (xs : List Int) (k : Nat) (w : World) (h : Tp 46 w b xs k) (hl : xs.length ≤ 1000) :
    Calls Try.prog 11 #[.pointer (some ⟨b, 0, none⟩), .int .i64 0] w fun e w' => Taken 46 b xs k 0 w e w' := by
  have hr := remaining_any b xs k w h hl
  have hk := h.le
  have hk' : (0 : Int) ≤ (xs.length : Int) - k := by omega
  go_enter Try.func11, Try.ntmps11
  go_wp2_with fail
  refine hr.mono ?_
  rintro e w1 ⟨rfl, hb⟩
  obtain ⟨⟨A, c, h1, h2, h3⟩, _⟩ := h.next hb
  have c0 := cell_at h1 0
  have c1 := cell_at h1 1
  simp at c0 c1
  have hf := frozen_of_row w1 b 1 _ _ h1
  have hlt := heap_lt h1
  have hc := h2.cap
  have hcc : (k : Int) ≤ c := by omega
  have hP := Lib.hid (Tp.put (k' := k) h1 h2 h3 apart46 hk)
  clear h1 h2 h3
  go_wp2_with fail
  go_quiet (fail)
  go_wp2
  go_ret2
  obtain ⟨p1, p2, p3⟩ := hP.out
  have hd := fun W : World => below_drewN (Below.refl W.heap.size W) nq
  refine ⟨A, 0, rfl, ?_, p3.next (hd _), p1.next (hd _), ((Bex.of hb).setCell 1 _).next (hd _)⟩
  cases A with
  | none => exact Sl.nothing _
  | some ad => exact Sl.blank _ _ _

set_option maxHeartbeats 2000000 in
theorem take_some (b : Nat) (xs : List Int) (k n : Nat) (w : World) (h : Tp 46 w b xs k) (hl : xs.length ≤ 1000) (hn : k + n ≤ xs.length) (h0 : 0 < n) :
    Calls Try.prog 11 #[.pointer (some ⟨b, 0, none⟩), .int .i64 n] w fun e w' => Taken 46 b xs k n w e w' := by
  have hr := remaining_any b xs k w h hl
  have hn' : (n : Int) ≤ (xs.length : Int) - k := by omega
  have hg : (0 : Int) ≤ n := by omega
  have hk := h.le
  have hne : Hid (xs ≠ []) := Lib.hid (fun e => by rw [e] at hn; simp at hn; omega)
  go_enter Try.func11, Try.ntmps11
  go_wp2_with fail
  refine hr.mono ?_
  rintro e w1 ⟨rfl, hb⟩
  obtain ⟨⟨A, c, h1, h2, h3⟩, _⟩ := h.next hb
  obtain ⟨g, off, x, rfl, _, _, _⟩ := h2.at_ (k := 0) (by omega)
  have c0 := cell_at h1 0
  have c1 := cell_at h1 1
  simp at c0 c1
  have hf := frozen_of_row w1 b 1 _ _ h1
  have hlt := heap_lt h1
  have hc := h2.cap
  have hcc : (k : Int) + n ≤ c := by omega
  have hP := Lib.hid (Tp.put (k' := k + n) h1 h2 h3 apart46 hn)
  clear h1 h2 h3
  go_wp2_with fail
  go_quiet (fail)
  go_wp2
  go_ret2
  obtain ⟨p1, p2, p3⟩ := hP.out
  have hd := fun W : World => below_drewN (Below.refl W.heap.size W) nq
  have e : k + n - k = n := by omega
  refine ⟨some ⟨g, off + k, none⟩, n, congrArg (fun m => Ending.returned (.tuple #[.slice (some ⟨g, off + k, none⟩) m m, .int .i64 0])) e, (p2.part k n hne.out).next (hd _), ?_, p1.next (hd _), ((Bex.of hb).setCell 1 _).next (hd _)⟩
  exact Ty.next (fun ad hA => by cases hA; exact p3 ⟨g, off, none⟩ rfl) (hd _)

theorem take_ok (b : Nat) (xs : List Int) (k n : Nat) (w : World) (h : Tp 46 w b xs k) (hl : xs.length ≤ 1000) (hn : k + n ≤ xs.length) :
    Calls Try.prog 11 #[.pointer (some ⟨b, 0, none⟩), .int .i64 n] w fun e w' => Taken 46 b xs k n w e w' := by
  cases n with
  | zero => exact take_none b xs k w h hl
  | succ m => exact take_some b xs k (m + 1) w h hl hn (Nat.succ_pos m)
end Go.Proofs.Ytcogiippiaebaaa
