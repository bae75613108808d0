/- A scenario that the law itself wrote down: its cells lie in a row of its own; its deviations are put anew. No conditions. -/
import Derived.Test.YtbhphamfkhccpaaAdLaw
import Derived.Test.YtbhphamfkhccpaaAdAwk
import Derived.Test.YtbhphamfkhccpaaATp
import Derived.Test.YtbhphamfkhccpaaAdHold
namespace Go.Proofs.Ytbhphamfkhccpaa
open Go.ChangeShapes Go.WideShapes Go.ChangeAt Go.RowKit PolyMath FieldMath PartyMath

/-- The cells of a scenario lie in block b. -/
def Rw (w : World) (b : Nat) (p n t : Int) (vc vd vt : Value) : Prop := w.heap[b]? = some (.cells #[.int .u64 p, .int .i64 n, .int .i64 t, vc, vd, vt] 29)
theorem Rw.lt {w : World} {b : Nat} {p n t : Int} {vc vd vt : Value} (h : Rw w b p n t vc vd vt) : b < w.heap.size := by
  rcases Nat.lt_or_ge b w.heap.size with hb | hb
  · exact hb
  · exfalso
    unfold Rw at h
    rw [Array.getElem?_eq_none hb] at h
    cases h
theorem Rw.sx {w : World} {b : Nat} {p n t : Int} {vc vd vt : Value} (h : Rw w b p n t vc vd vt) : Sx w b p n t vc vd vt :=
  ⟨(cell_at h 0).trans rfl, (cell_at h 1).trans rfl, (cell_at h 2).trans rfl, (cell_at h 3).trans rfl, (cell_at h 4).trans rfl, (cell_at h 5).trans rfl, h.lt⟩
theorem Rw.made (w : World) (p n t : Int) (vc vd vt : Value) : Rw (w.alloc (.cells #[.int .u64 p, .int .i64 n, .int .i64 t, vc, vd, vt] 29)) w.heap.size p n t vc vd vt := heap_alloc_new w _
theorem Rw.next {B : Nat} {w w' : World} {b : Nat} {p n t : Int} {vc vd vt : Value} (h : Rw w b p n t vc vd vt) (hb : Below B w w') (hB : b < B) : Rw w' b p n t vc vd vt := (hb.block b hB).trans h
theorem Rw.frozen {w : World} {b : Nat} {p n t : Int} {vc vd vt : Value} (h : Rw w b p n t vc vd vt) (k : Nat) : w.frozen? ⟨b, k, none⟩ = false := frozen_of_row w b k _ _ h
theorem Rw.put {w : World} {b : Nat} {p n t : Int} {vc vd vt : Value} (h : Rw w b p n t vc vd vt) (u : Value) : Rw (w.setCell ⟨b, 4, none⟩ u) b p n t vc u vt := by
  have := heap_setCell_same w b 4 _ _ u h
  exact this
theorem Rw.far {w : World} {b D j : Nat} {p n t : Int} {vc vd vt : Value} (h : Rw w b p n t vc vd vt) (u : Value) (hD : b ≠ D) : Rw (w.setCell ⟨D, j, none⟩ u) b p n t vc vd vt := (Below.heap_setCell w ⟨D, j, none⟩ u b hD).trans h
theorem ifp {c : Prop} [Decidable c] {A E : Prop} (h : if c then A else E) (hc : c) : A := by rwa [if_pos hc] at h
theorem Ok13.filter {p : Int} {N T : Nat} {co : List Int} {ds : List Dv} (h : Ok13 p N T co ds) (q : Dv → Bool) : Ok13 p N T co (ds.filter q) :=
  ⟨h.coal, fun d hd => h.dv d (List.mem_filter.1 hd).1, fun d hd => h.wk d (List.mem_filter.1 hd).1, Nat.le_trans (List.length_filter_le _ _) h.len⟩
theorem Ok13.none {p : Int} {N T : Nat} {co : List Int} {ds : List Dv} (h : Ok13 p N T co ds) : Ok13 p N T co [] :=
  ⟨h.coal, fun d hd => by simp at hd, fun d hd => by simp at hd, by simp⟩
/-- The box's new deviations: what lay below it is as it was. -/
theorem put_below {w w' : World} {B b : Nat} (h : Below B w w') (hb : B ≤ b) (hw : B ≤ w'.heap.size) (j : Nat) (u : Value) : Below B w (w'.setCell ⟨b, j, none⟩ u) :=
  h.trans (((Bex.refl b w').setCell j u).below hb hw)
end Go.Proofs.Ytbhphamfkhccpaa
