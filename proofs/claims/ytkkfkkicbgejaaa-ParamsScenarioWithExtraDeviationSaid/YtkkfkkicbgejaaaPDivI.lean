/- What the rounds of DivMod's loop find in memory. No conditions. -/
import Derived.Test.YtkkfkkicbgejaaaPDiv
namespace Go.Proofs.Ytkkfkkicbgejaaa
set_option maxRecDepth 100000
open Go.RowKit Go.Shelf PolyMath FieldMath

theorem wpListIn_make_full {F : Fence} {n : Nat} {P : Program} (w : World) {ops : Array Oper} {rest : List Oper} {o : Oper} {a : Act} {Q : Exit → Act → World → Prop}
    (hg : o.guard = none) (l c : Operand) (t : TypeId) (hop : o.op = Op.makeSlice t l c)
    (base : Nat) (e : TypeId) (i : TypeInfo) (z : Value) (size : Nat) (h1 : P.underlying t = some (.slice e)) (h2 : P.info? e = some i) (h3 : i.zero = some z) (h4 : i.size = size)
    (kl kc : IntKind) (L C : Int) (m : Nat) (hl : a.eval l = .int kl L) (hc : a.eval c = .int kc C) (hL : L = (m : Int)) (hC : C = (m : Int)) (b2 : i.bytes * m ≤ 281474976710656) (b3 : m ≤ maxLen) (b4 : base ≤ w.heap.size)
    (hK : ∀ w', w'.ownsRow base e size (.slice (some ⟨w.heap.size, 0, none⟩) m m) m (madeCells z.cells (m * size)).toList → w.grownBy w' none → wpListIn F n P ops Q rest (a.put o.dst (.slice (some ⟨w.heap.size, 0, none⟩) m m)) w') :
    wpListIn F n P ops Q (o :: rest) a w := by
  refine wpListIn_plain hg fun K hK' => ?_
  obtain ⟨w', hrun, r1, r2⟩ := run_make_full (P := P) w base t e i z size h1 h2 h3 h4 kl kc m b2 b3 b4
  subst hL
  subst hC
  unfold Oper.wpIn
  refine ⟨?_, ?_⟩
  · simp [Oper.about, hop]
  · rw [Oper.semAt_plain F _ _ (by rw [hop]; intro c hc'; cases hc')]
    simp [execOp, hop, hl, hc, hrun, Result.andThen]
    exact hK' _ _ (hK w' r1 r2)

theorem Sl.drew {w : World} {A : Option Addr} {c : Nat} {xs : List Int} (h : Sl w A c xs) : Sl w.drew A c xs := h.next (Below.refl _ w).drew

/-- Any word may lie there. -/
def AnyV (_ : Nat) (_ : Int) : Prop := True

theorem dn_split {V : Nat → Int → Prop} {N : Nat} {pre : List (It V N)} {y : It V N} (h : (pre ++ [y]).map (fun x => x.1.1) = dn N (pre ++ [y]).length) : pre.map (fun x => x.1.1) = dn N pre.length ∧ y.1.1 = N - 1 - pre.length := by
  rw [List.length_append, List.length_singleton, dn_next, List.map_append] at h
  have h1 := List.append_inj h (by rw [List.length_map, dn_len])
  exact ⟨h1.1, by simpa using h1.2⟩

/-- What DivMod hands back. -/
def DivRow (p : Int) (a b : List Int) (w : World) (e : Ending) (w' : World) : Prop :=
  ∃ q r A c A' c', e = .returned (.tuple #[.slice A q.length c, .slice A' r.length c', .int .i64 0]) ∧ Sl w' A c q ∧ Sl w' A' c' r ∧ DM p a b q r ∧ q.length ≤ a.length ∧ Below w.heap.size w w'

/-- The places of DivMod's variables lie apart. -/
structure Apart (s s3 br gq bq : Nat) (Ar : Option Addr) : Prop where
  a1 : s + 1 + 1 < s3
  a2 : s3 < br
  a3 : br < gq
  a4 : gq < bq
  a5 : ∀ ad, Ar = some ad → s3 < ad.block ∧ ad.block < br

/-- What a round finds. -/
structure Mid (w : World) (p : Int) (a b : List Int) (B Ar : Option Addr) (cb cr M N d s3 br gq bq : Nat) (iv : Int) (pre : List (It AnyV N)) (W : World) : Prop where
  e1 : Boxed W w.heap.size 22 (.int .u64 p)
  e2 : Boxed W (w.heap.size + 1) 33 (.slice B b.length cb)
  e3 : Boxed W (w.heap.size + 1 + 1) 3 (.int .i64 (d : Int))
  e4 : Boxed W s3 22 (.int .u64 iv)
  e5 : Boxed W br 33 (.slice Ar M cr)
  e6 : Boxed W bq 33 (.slice (some ⟨gq, 0, none⟩) N N)
  e7 : Boxed W (bq + 1) 33 (.slice (some ⟨gq, 0, none⟩) N N)
  rows : ∃ qs rs : List Int, OwnAt W w.heap.size gq N N qs ∧ W.ownsRow w.heap.size 22 1 (.slice Ar M cr) M (rs.map (Value.int .u64)) ∧ El p qs ∧ El p rs ∧ (pre.map (fun x => x.1.1) = dn N pre.length → DivInv p a b N d pre.length qs rs)
  below : Below w.heap.size w W

theorem ownBlock_of {Ar : Option Addr} {M cr k : Nat} (h : (Value.slice Ar M cr).ownBlock = some k) : ∃ ad, Ar = some ad ∧ ad.block = k := by
  cases Ar with
  | none => simp [Value.ownBlock] at h
  | some ad => exact ⟨ad, rfl, by simpa [Value.ownBlock] using h⟩

theorem Mid.own {w : World} {p : Int} {a b : List Int} {B Ar : Option Addr} {cb cr M N d s3 br gq bq : Nat} {iv : Int} {Z : Nat} (hA : Apart w.heap.size s3 br gq bq Ar) (hZ : bq + 1 < Z) :
    OwnFrom Z (Mid w p a b B Ar cb cr M N d s3 br gq bq iv) := by
  obtain ⟨a1, a2, a3, a4, a5⟩ := hA
  intro pre X Y row h hg hr
  have ne : ∀ k, k < Z → some k ≠ row := fun k hk e => by have := (hr k e.symm).1; omega
  obtain ⟨qs, rs, h1, h2, h3, h4, h5⟩ := h.rows
  exact {
    e1 := h.e1.kept hg (ne _ (by omega))
    e2 := h.e2.kept hg (ne _ (by omega))
    e3 := h.e3.kept hg (ne _ (by omega))
    e4 := h.e4.kept hg (ne _ (by omega))
    e5 := h.e5.kept hg (ne _ (by omega))
    e6 := h.e6.kept hg (ne _ (by omega))
    e7 := h.e7.kept hg (ne _ (by omega))
    rows := ⟨qs, rs, h1.kept hg (ne _ (by omega)), h2.kept hg (by
      cases hv : (Value.slice Ar M cr).ownBlock with
      | none => exact .inl rfl
      | some k =>
        obtain ⟨ad, e, hk⟩ := ownBlock_of hv
        have := a5 ad e
        exact .inr (ne k (by omega))), h3, h4, h5⟩
    below := h.below.grown hg (h.below.size) (fun k e => by have := (hr k e).1; omega) }

/-- What a round keeps: the box of the slice that is gone over, and words at its places. -/
def KeepsD (gq bk N : Nat) (W W' : World) : Prop := (∀ v, Boxed W bk 33 v → Boxed W' bk 33 v) ∧ (Reads AnyV gq 0 N W → Reads AnyV gq 0 N W')
theorem KeepsD.trans {gq bk N : Nat} {X Y Z : World} (h : KeepsD gq bk N X Y) (k : KeepsD gq bk N Y Z) : KeepsD gq bk N X Z := ⟨fun v hv => k.1 v (h.1 v hv), fun hr => k.2 (h.2 hr)⟩
theorem KeepsD.book {gq bk N : Nat} {w : World} (hq : gq < w.heap.size) (hk : bk < w.heap.size) (W : World) (l : Nat) (o o' : Obj) (hl : w.heap.size ≤ l) (_ : W.heap[l]? = some o) (_ : o.isCells = false) (_ : o.isWalk = false) : KeepsD gq bk N W (W.putObj l o') :=
  ⟨fun _ hv => hv.kept (grownBy_putObj' W l o') (by simp; omega), fun hr j hj => by
    obtain ⟨v, hc, hv⟩ := hr j hj
    exact ⟨v, (grownBy_putObj' W l o').cell hc (by simp; omega), hv⟩⟩
theorem keepingD (gq bk N : Nat) : Keeping (KeepsD gq bk N) AnyV gq 0 N bk where
  refl := fun _ => ⟨fun _ h => h, fun h => h⟩
  trans := fun h k => h.trans k
  box := fun h hv => h.1 _ hv
  reads := fun h hr => h.2 hr
theorem OwnAt.reads {W : World} {base gq N c : Nat} {qs : List Int} (h : OwnAt W base gq N c qs) : Reads AnyV gq 0 N W := fun j hj => by
  have hl := h.len
  exact ⟨qs[j]'(by omega), by rw [Nat.zero_add]; exact h.cell (List.getElem?_eq_getElem _), trivial⟩

end Go.Proofs.Ytkkfkkicbgejaaa
