/- A tape in memory (package tape, and the reference of layer 11): its block, its words, how many of them are consumed. The readers Remaining and Consumed. Conditions: none but a tape. -/
import Derived.Test.YtbhphamfkhccpaaPBase
import Derived.Test.YtbhphamfkhccpaaRef01
import Derived.BigRegion
namespace Go.Proofs.Ytbhphamfkhccpaa
set_option maxRecDepth 100000
open Go.RowKit

/-- The block of the slice at A is one of words. -/
def Ty (w : World) (A : Option Addr) : Prop := ∀ ad, A = some ad → ∃ cur fz, w.heap[ad.block]? = some (.cells cur 22 fz)
theorem heap_lt {w : World} {b : Nat} {o : Obj} (h : w.heap[b]? = some o) : b < w.heap.size := (Array.getElem?_eq_some_iff.1 h).1
theorem Ty.next {w w' : World} {A : Option Addr} (h : Ty w A) (hb : Below w.heap.size w w') : Ty w' A := fun ad e => by
  obtain ⟨cur, fz, h1⟩ := h ad e
  exact ⟨cur, fz, (hb.block _ (heap_lt h1)).trans h1⟩
theorem Ty.nothing (w : World) : Ty w none := fun _ h => by cases h
theorem own_tag {w : World} {base t n : Nat} {v : Value} {xs : List Value} (h : w.ownsRow base t 1 v n xs) : ∀ g, v.ownBlock = some g → ∃ cur fz, w.heap[g]? = some (.cells cur t fz) := by
  intro g hg
  rcases h.2 with ⟨rfl, _⟩ | ⟨g', cap, cur, rfl, _, hh, _⟩
  · cases hg
  · cases hg
    exact ⟨cur, _, hh⟩
theorem Ty.of_own {w : World} {base n m c : Nat} {A : Option Addr} {xs : List Value} (h : w.ownsRow base 22 1 (.slice A m c) n xs) : Ty w A := fun ad e => by
  subst e
  exact own_tag h ad.block rfl

/-- Of what lay, only the block D has changed. -/
structure Bex (D : Nat) (a w : World) : Prop where
  os : w.os = a.os
  tape : w.tape = a.tape
  output : w.output = a.output
  size : a.heap.size ≤ w.heap.size
  block : ∀ k, k < a.heap.size → k ≠ D → w.heap[k]? = a.heap[k]?
theorem Bex.refl (D : Nat) (a : World) : Bex D a a := ⟨rfl, rfl, rfl, Nat.le_refl _, fun _ _ _ => rfl⟩
theorem Bex.of {D : Nat} {a w : World} (hb : Below a.heap.size a w) : Bex D a w := ⟨hb.os, hb.tape, hb.output, hb.size, fun k hk _ => hb.block k hk⟩
theorem Bex.next {D : Nat} {a w w' : World} (h : Bex D a w) (hb : Below w.heap.size w w') : Bex D a w' :=
  ⟨hb.os.trans h.os, hb.tape.trans h.tape, hb.output.trans h.output, Nat.le_trans h.size hb.size, fun k hk hD => (hb.block k (Nat.lt_of_lt_of_le hk h.size)).trans (h.block k hk hD)⟩
theorem Bex.trans {D : Nat} {a b c : World} (h : Bex D a b) (k : Bex D b c) : Bex D a c :=
  ⟨k.os.trans h.os, k.tape.trans h.tape, k.output.trans h.output, Nat.le_trans h.size k.size, fun i hi hD => (k.block i (Nat.lt_of_lt_of_le hi h.size) hD).trans (h.block i hi hD)⟩
theorem Bex.cell {D : Nat} {a w : World} (h : Bex D a w) {p : Addr} (hp : p.block < a.heap.size) (hD : p.block ≠ D) : w.cell? p = a.cell? p := World.cell?_of_block (h.block p.block hp hD)
theorem Bex.below {D B : Nat} {a w : World} (h : Bex D a w) (hB : B ≤ D) (hs : B ≤ a.heap.size) : Below B a w := ⟨h.os, h.tape, h.output, h.size, fun k hk => h.block k (by omega) (by omega)⟩
theorem Bex.drew {D : Nat} {a w : World} (h : Bex D a w) : Bex D a w.drew := ⟨h.os, h.tape, h.output, h.size, h.block⟩
theorem Bex.setCell {D : Nat} {a w : World} (h : Bex D a w) (j : Nat) (u : Value) : Bex D a (w.setCell ⟨D, j, none⟩ u) :=
  ⟨h.os, h.tape, h.output, by rw [World.size_setCell]; exact h.size, fun k hk hD => (Below.heap_setCell w ⟨D, j, none⟩ u k hD).trans (h.block k hk hD)⟩

/-- A tape of type T lies in block b: its words are xs, k of them are consumed. -/
structure Tp (T : Nat) (w : World) (b : Nat) (xs : List Int) (k : Nat) : Prop where
  lie : ∃ A c, w.heap[b]? = some (.cells #[.slice A xs.length c, .int .i64 k] T (0, 0)) ∧ Sl w A c xs ∧ Ty w A
  le : k ≤ xs.length
theorem Tp.lt {T b k : Nat} {w : World} {xs : List Int} (h : Tp T w b xs k) : b < w.heap.size := by obtain ⟨A, c, h1, _⟩ := h.lie; exact heap_lt h1
theorem Tp.next {T b k : Nat} {w w' : World} {xs : List Int} (h : Tp T w b xs k) (hb : Below w.heap.size w w') : Tp T w' b xs k := by
  obtain ⟨A, c, h1, h2, h3⟩ := h.lie
  exact ⟨⟨A, c, (hb.block _ (heap_lt h1)).trans h1, h2.next hb, h3.next hb⟩, h.le⟩
theorem Sl.ex {a w : World} {D : Nat} {cs : Array Value} {T : Nat} {A : Option Addr} {c : Nat} {xs : List Int} (h : Sl a A c xs) (ht : Ty a A) (hx : Bex D a w) (hD : a.heap[D]? = some (.cells cs T (0, 0))) (hT : T ≠ 22) : Sl w A c xs ∧ Ty w A := by
  have hne : ∀ ad, A = some ad → ad.block ≠ D := fun ad e e2 => by
    obtain ⟨cur, fz, h1⟩ := ht ad e
    rw [e2, hD] at h1
    injection h1 with h1
    injection h1 with _ h1 _
    exact hT h1
  refine ⟨⟨h.cap, h.nil, fun ad hA hn => ?_⟩, fun ad hA => ?_⟩
  · obtain ⟨b, off, e, hb, hc⟩ := h.rd ad hA hn
    refine ⟨b, off, e, Nat.lt_of_lt_of_le hb hx.size, fun j x hj => ?_⟩
    rw [hx.cell (p := ⟨b, off + j, none⟩) hb (by have := hne ad hA; rw [e] at this; exact this)]
    exact hc j x hj
  · obtain ⟨cur, fz, h1⟩ := ht ad hA
    exact ⟨cur, fz, (hx.block _ (heap_lt h1) (hne ad hA)).trans h1⟩
/-- Another tape is as it was. -/
theorem Tp.ex {T T' b D k : Nat} {a w : World} {xs : List Int} {cs : Array Value} (h : Tp T a b xs k) (hx : Bex D a w) (hD : a.heap[D]? = some (.cells cs T' (0, 0))) (hT : T' ≠ 22) (hb : b ≠ D) : Tp T w b xs k := by
  obtain ⟨A, c, h1, h2, h3⟩ := h.lie
  obtain ⟨h4, h5⟩ := h2.ex h3 hx hD hT
  exact ⟨⟨A, c, (hx.block _ (heap_lt h1) hb).trans h1, h4, h5⟩, h.le⟩
theorem cell_at {w : World} {b T : Nat} {cs : Array Value} (h : w.heap[b]? = some (.cells cs T (0, 0))) (j : Nat) : w.cell? ⟨b, j, none⟩ = cs[j]? := cell_of_row w b j cs T (0, 0) h

end Go.Proofs.Ytbhphamfkhccpaa
