/- A slice of words that reads as a list, nil let in, with its capacity; slices that a call makes. No conditions. -/
import Derived.Test.YtbhphamfkhccpaaProg
import Derived.WalkKit
import Derived.Below
import Derived.Deep.QuietTactic
import Derived.BigQuiet
import Derived.Lib.Hide
import Derived.WalkSmall
import Derived.Laws.OwnMore
import Derived.Laws.AppendOwnNone
namespace Go.Proofs.Ytbhphamfkhccpaa
set_option maxRecDepth 100000
open Go.RowKit

/-- The slice at A with capacity c holds the words xs. -/
structure Sl (w : World) (A : Option Addr) (c : Nat) (xs : List Int) : Prop where
  cap : xs.length ≤ c
  nil : A = none → c = 0
  rd : ∀ ad, A = some ad → xs ≠ [] → ∃ b off, ad = ⟨b, off, none⟩ ∧ b < w.heap.size ∧ ∀ j x, xs[j]? = some x → w.cell? ⟨b, off + j, none⟩ = some (.int .u64 x)

section
variable {w w' : World} {A : Option Addr} {c : Nat} {xs : List Int}
theorem Sl.nothing (w : World) : Sl w none 0 [] := ⟨Nat.le_refl _, (fun _ => rfl), (fun _ h => absurd h (by simp))⟩
theorem Sl.blank (w : World) (ad : Addr) (c : Nat) : Sl w (some ad) c [] := ⟨Nat.zero_le _, (fun h => absurd h (by simp)), (fun _ _ h => absurd rfl h)⟩
theorem Sl.at_ {k : Nat} (h : Sl w A c xs) (hk : k < xs.length) : ∃ b off x, A = some ⟨b, off, none⟩ ∧ b < w.heap.size ∧ xs[k]? = some x ∧ w.cell? ⟨b, off + k, none⟩ = some (.int .u64 x) := by
  cases hA : A with
  | none => have := h.nil hA; have := h.cap; omega
  | some ad =>
    obtain ⟨b, off, rfl, hb, hc⟩ := h.rd ad hA (fun e => by rw [e] at hk; simp at hk)
    exact ⟨b, off, xs[k], rfl, hb, List.getElem?_eq_getElem hk, hc k _ (List.getElem?_eq_getElem hk)⟩
theorem Sl.keep (h : Sl w A c xs) (hs : w.heap.size ≤ w'.heap.size) (hk : ∀ p : Addr, p.block < w.heap.size → w'.cell? p = w.cell? p) : Sl w' A c xs :=
  ⟨h.cap, h.nil, fun ad hA hn => by
    obtain ⟨b, off, e, hb, hc⟩ := h.rd ad hA hn
    exact ⟨b, off, e, by omega, fun j x hx => (hk ⟨b, off + j, none⟩ hb).trans (hc j x hx)⟩⟩
theorem Sl.next (h : Sl w A c xs) (hb : Below w.heap.size w w') : Sl w' A c xs := h.keep hb.size fun _ hp => hb.cell hp
theorem Sl.take (h : Sl w A c xs) (k : Nat) : Sl w A c (xs.take k) :=
  ⟨by have := h.cap; rw [List.length_take]; omega, h.nil, fun ad hA hn => by
    obtain ⟨b, off, e, hb, hc⟩ := h.rd ad hA (fun e => hn (by rw [e]; simp))
    exact ⟨b, off, e, hb, fun j x hx => hc j x (by rw [List.getElem?_take] at hx; split at hx <;> first | exact hx | cases hx)⟩⟩
theorem Sl.push (h : Sl w A c xs) (o : Obj) : Sl (w.alloc o) A c xs := h.next ((Below.refl _ w).alloc (Nat.le_refl _) o)
theorem Sl.empty (h : Sl w A c xs) (hA : A = none) : xs = [] ∧ c = 0 := by
  have h1 := h.nil hA; have h2 := h.cap
  exact ⟨List.eq_nil_of_length_eq_zero (by omega), h1⟩
end

/-- A call hands back the words ys in a slice; what lay before lies as before. -/
def Row (w : World) (e : Ending) (w' : World) (ys : List Int) : Prop :=
  ∃ A c, e = .returned (.slice A ys.length c) ∧ Sl w' A c ys ∧ Below w.heap.size w w'

theorem info_u64 : (Try.prog.info? 22).map (fun i => (i.zero, i.size, i.bytes)) = some (some (.int .u64 0), 1, 8) := by kernel_rfl

theorem Sl.of_own {w : World} {base : Nat} {A : Option Addr} {n c : Nat} {xs : List Int} (h : w.ownsRow base 22 1 (.slice A n c) n (xs.map (Value.int .u64))) : Sl w A c xs := by
  have hl : xs.length = n := by simpa using h.1
  rcases h.2 with ⟨hv, h0⟩ | ⟨g, cap, cur, hv, _, hh, h1, h2, h3, h4⟩
  · injection hv with hA hn hc
    subst hA hc
    exact ⟨by omega, (fun _ => rfl), (fun _ h => absurd h (by simp))⟩
  · injection hv with hA hn hc
    subst hA hc
    refine ⟨by omega, (fun h => absurd h (by simp)), (fun ad hA _ => ?_)⟩
    injection hA with hA
    subst hA
    refine ⟨g, 0, rfl, (Array.getElem?_eq_some_iff.1 hh).1, fun j x hx => ?_⟩
    have hj := (List.getElem?_eq_some_iff.1 hx).1
    have h5 : (cur.toList.take (n * 1))[j]? = some (.int .u64 x) := by rw [h4, List.getElem?_map, hx]; rfl
    rw [List.getElem?_take, if_pos (by omega), Array.getElem?_toList] at h5
    rw [cell_of_row w g (0 + j) cur 22 (0, 0) hh, Nat.zero_add]
    exact h5
theorem own_form {w : World} {base n : Nat} {v : Value} {xs : List Int} (h : w.ownsRow base 22 1 v n (xs.map (Value.int .u64))) : ∃ A c, v = .slice A xs.length c ∧ Sl w A c xs := by
  have hl : xs.length = n := by simpa using h.1
  rcases h.2 with ⟨rfl, h0⟩ | ⟨g, cap, cur, rfl, _, _, hc, _⟩
  · subst h0; exact ⟨none, 0, by rw [hl], Sl.of_own h⟩
  · exact ⟨some ⟨g, 0, none⟩, cap, by rw [hl], Sl.of_own h⟩
theorem own_below {w w' : World} {base t n : Nat} {v : Value} {xs : List Value} (h : w.ownsRow base t 1 v n xs) (hb : Below w.heap.size w w') : w'.ownsRow base t 1 v n xs := by
  refine ⟨h.1, h.2.imp id ?_⟩
  rintro ⟨g, cap, cur, hv, h1, hh, r⟩
  exact ⟨g, cap, cur, hv, h1, (hb.block g (Array.getElem?_eq_some_iff.1 hh).1).trans hh, r⟩
theorem bnew {B : Nat} {a w : World} (h : Below B a w) (o : Obj) (hB : B ≤ a.heap.size) : Below B a (w.alloc o) := h.alloc (Nat.le_trans hB h.size) o
theorem Sl.lit (w : World) (xs : List Int) : Sl (w.alloc (.cells (xs.map (Value.int .u64)).toArray 22)) (some ⟨w.heap.size, 0, none⟩) xs.length xs :=
  ⟨Nat.le_refl _, (fun h => absurd h (by simp)), fun ad hA _ => by
    injection hA with hA
    subst hA
    refine ⟨w.heap.size, 0, rfl, by simp, fun j x hx => ?_⟩
    rw [cell_of_row _ w.heap.size (0 + j) (xs.map (Value.int .u64)).toArray 22 (0, 0) (heap_alloc_new w _)]
    simp [hx]⟩
theorem Sl.l2 (w : World) (x y : Int) : Sl (w.alloc (.cells #[.int .u64 x, .int .u64 y] 22)) (some ⟨w.heap.size, 0, none⟩) 2 [x, y] := Sl.lit w [x, y]
theorem Sl.l3 (w : World) (x y z : Int) : Sl (w.alloc (.cells #[.int .u64 x, .int .u64 y, .int .u64 z] 22)) (some ⟨w.heap.size, 0, none⟩) 3 [x, y, z] := Sl.lit w [x, y, z]
theorem Sl.l1 (w : World) (x : Int) : Sl (w.alloc (.cells #[.int .u64 x] 22)) (some ⟨w.heap.size, 0, none⟩) 1 [x] := Sl.lit w [x]
theorem take_all {α : Type} {l : List α} {n : Nat} (h : l.length ≤ n) : l.take n = l := List.take_of_length_le h
theorem take_next {α : Type} {xs ys : List α} {k : Nat} {x : α} (hx : xs[k]? = some x) (hy : ys[k]? = some x) (h : xs.take k = ys.take k) : xs.take (k + 1) = ys.take (k + 1) := by
  rw [List.take_add_one, List.take_add_one, hx, hy, h]
end Go.Proofs.Ytbhphamfkhccpaa
