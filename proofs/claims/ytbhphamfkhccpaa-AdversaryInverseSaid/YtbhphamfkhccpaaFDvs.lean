/- Slices of deviations that a call makes by append: rows of its own; a step of a region that draws its order which appends a slice of deviations, nil let in, to such a row. No conditions. -/
import Derived.Test.YtbhphamfkhccpaaFSce
import Derived.Test.YtbhphamfkhccpaaFList
import Derived.Deep.AppendLies
import Derived.BigFrame
import Derived.Laws.AppendOwnNone
namespace Go.Proofs.Ytbhphamfkhccpaa
set_option maxRecDepth 100000
open Go.RowKit PolyMath FieldMath PartyMath

theorem info_dev : (Try.prog.info? 41).map (fun i => (i.zero, i.size, i.bytes)) = some (some (.agg #[.int .i64 0, .int .i64 0, .int .i64 0, .int .i64 0, .int .i64 0, .int .u64 0, .int .i64 0, .int .i64 0]), 8, 64) := by kernel_rfl
/-- The cells of deviations. -/
def dcells (ds : List Dv) : List Value := ds.flatMap dcs
theorem dcs_len (d : Dv) : (dcs d).length = 8 := rfl
theorem dcells_cons (d : Dv) (ds : List Dv) : dcells (d :: ds) = dcs d ++ dcells ds := rfl
theorem dcells_append (xs ys : List Dv) : dcells (xs ++ ys) = dcells xs ++ dcells ys := by unfold dcells; rw [List.flatMap_append]
theorem dcells_len : ∀ ds : List Dv, (dcells ds).length = ds.length * 8
  | [] => rfl
  | d :: ds => by rw [dcells_cons, List.length_append, dcs_len, dcells_len ds, List.length_cons]; omega
theorem dcells_at : ∀ (ds : List Dv) (j : Nat) (d : Dv), ds[j]? = some d → ∀ i v, (dcs d)[i]? = some v → (dcells ds)[j * 8 + i]? = some v
  | e :: ds, 0, d, h, i, v, hv => by
    simp at h
    subst h
    have hi : i < 8 := (List.getElem?_eq_some_iff.1 hv).1
    rw [dcells_cons, Nat.zero_mul, Nat.zero_add, List.getElem?_append_left (by rw [dcs_len]; exact hi)]
    exact hv
  | e :: ds, j + 1, d, h, i, v, hv => by
    have h1 := dcells_at ds j d (by simpa using h) i v hv
    rw [dcells_cons, List.getElem?_append_right (by rw [dcs_len]; omega), dcs_len, show (j + 1) * 8 + i - 8 = j * 8 + i by omega]
    exact h1
theorem dcells_one (ds : List Dv) : ∀ u ∈ dcells ds, u.oneCell' = true := fun u hu => by
  obtain ⟨d, _, hd⟩ := List.mem_flatMap.1 hu
  simp only [dcs, List.mem_cons, List.not_mem_nil, or_false] at hd
  rcases hd with rfl | rfl | rfl | rfl | rfl | rfl | rfl | rfl <;> rfl
/-- Deviations in a slice of the call's own, from block B on. -/
def OD (w : World) (B : Nat) (v : Value) (n : Nat) (ds : List Dv) : Prop := w.ownsRow B 41 8 v n (dcells ds)
theorem OD.drew {w : World} {B n : Nat} {v : Value} {ds : List Dv} (h : OD w B v n ds) : OD w.drew B v n ds := h
theorem OD.next {w w' : World} {B n : Nat} {v : Value} {ds : List Dv} (h : OD w B v n ds) (hb : Below w.heap.size w w') : OD w' B v n ds := own_belowN h hb
theorem OD.push {w : World} {B n : Nat} {v : Value} {ds : List Dv} (h : OD w B v n ds) (o : Obj) : OD (w.alloc o) B v n ds := h.next ((Below.refl _ w).alloc (Nat.le_refl _) o)
theorem OD.nothing (w : World) {B : Nat} (hB : B ≤ w.heap.size) : OD (w.alloc (.cells #[] 41)) B (.slice (some ⟨w.heap.size, 0, none⟩) 0 0) 0 [] := World.ownsRow_lit w #[] 0 hB (Nat.zero_le _) rfl
theorem OD.one (w : World) (d : Dv) {B : Nat} (hB : B ≤ w.heap.size) : OD (w.alloc (.cells #[.int .i64 d.rnd, .int .i64 d.frm, .int .i64 d.to, .int .i64 d.at_, .int .i64 d.kind, .int .u64 d.k, .int .i64 d.of_, .int .i64 d.src] 41)) B (.slice (some ⟨w.heap.size, 0, none⟩) 1 1) 1 [d] := World.ownsRow_lit w #[.int .i64 d.rnd, .int .i64 d.frm, .int .i64 d.to, .int .i64 d.at_, .int .i64 d.kind, .int .u64 d.k, .int .i64 d.of_, .int .i64 d.src] 1 hB (by decide) rfl
theorem OD.kept {w w' : World} {B n g c : Nat} {row : Option Nat} {ds : List Dv} (h : OD w B (.slice (some ⟨g, 0, none⟩) n c) n ds) (hg : w.grownBy w' row) (hne : some g ≠ row) : OD w' B (.slice (some ⟨g, 0, none⟩) n c) n ds := World.ownsRow.kept h hg (.inr hne)
theorem OD.aside {w : World} {B n b : Nat} {v : Value} {ds : List Dv} (h : OD w B v n ds) (hb : b < B) (j : Nat) (u : Value) : OD (w.setCell ⟨b, j, none⟩ u) B v n ds := by
  refine ⟨h.1, h.2.imp id ?_⟩
  rintro ⟨g, cap, cur, hv, h1, hh, r⟩
  exact ⟨g, cap, cur, hv, h1, (Below.heap_setCell w ⟨b, j, none⟩ u g (show g ≠ b by omega)).trans hh, r⟩
theorem OD.sd {w : World} {B n c : Nat} {A : Option Addr} {ds : List Dv} (h : OD w B (.slice A n c) n ds) : Sd w A c ds := by
  have hl : ds.length = n := by have := h.1; rw [dcells_len] at this; omega
  rcases h.2 with ⟨hv, h0⟩ | ⟨g, cap, cur, hv, _, hh, h1, h2, h3, h4⟩
  · injection hv with hA hn hc
    subst hA hc
    exact ⟨by omega, (fun _ => rfl), (fun _ h => absurd h (by simp))⟩
  · injection hv with hA hn hc
    subst hA hc
    refine ⟨by omega, (fun h => absurd h (by simp)), (fun ad hA _ => ?_)⟩
    injection hA with hA
    subst hA
    refine ⟨g, 0, rfl, (Array.getElem?_eq_some_iff.1 hh).1, fun j d hd i v hv => ?_⟩
    have hp := dcells_at ds j d hd i v hv
    have hi := (List.getElem?_eq_some_iff.1 hp).1
    rw [dcells_len] at hi
    rw [← h4, List.getElem?_take, if_pos (by omega), Array.getElem?_toList] at hp
    rw [cell_of_row w g (0 + j * 8 + i) cur 41 (0, 0) hh, Nat.zero_add]
    exact hp
theorem OD.form {w : World} {B n : Nat} {v : Value} {ds : List Dv} (h : OD w B v n ds) : ∃ A c, v = .slice A ds.length c ∧ Sd w A c ds := by
  have hl : ds.length = n := by have := h.1; rw [dcells_len] at this; omega
  rcases h.2 with ⟨rfl, h0⟩ | ⟨g, cap, cur, rfl, _, _, hc, _⟩
  · subst h0; exact ⟨none, 0, by rw [hl], OD.sd h⟩
  · exact ⟨some ⟨g, 0, none⟩, cap, by rw [hl], OD.sd h⟩
/-- A step that appends deviations, nil let in, to a row of one's own. -/
theorem step_append_dv {w : World} {ops : Array Oper} {o : Oper} {a : Act} {K : Act → World → Prop} {Q : Exit → Act → World → Prop} {E : Prop} (hgd : o.guard = none) (s x : Operand)
    (ho : o.op = .call { callee := .builtin .append, args := #[s, x], argTypes := #[26, 26] })
    (base : Nat) (v : Value) (n m : Nat) (xs us : List Dv) (hs : a.eval s = v) (hown : OD w base v n xs)
    (A : Option Addr) (c : Nat) (hx : a.eval x = .slice A m c) (hm : us.length = m) (hsl : Sd w A c us) (hl : n + m ≤ 1000000) (hbase : base ≤ w.heap.size)
    (h : ∀ v' w', OD w' base v' (n + m) (xs ++ us) → w.grownBy w' v.ownBlock → K (a.put o.dst v') w') :
    if Region.wanted o (yielded ops a.tmps) = true then Oper.wp Try.prog o a w K Q else E := by
  obtain ⟨i0, hi, hz0, hz1, hz2⟩ := info_parts info_dev
  have hw : Region.wanted o (yielded ops a.tmps) = true := by simp [Region.wanted, hgd]
  rw [if_pos hw]
  subst hm
  cases A with
  | none =>
    have h0 : us = [] := by have := hsl.nil rfl; have := hsl.cap; exact List.eq_nil_of_length_eq_zero (by omega)
    have hc := hsl.nil rfl
    subst h0 hc
    have hrun := run_append_owned_none (P := Try.prog) (w := w) base 26 o.type 41 i0 8 Try.underlying26 hi v n (dcells xs) hown
    unfold Oper.wp
    simp [execOp, ho, resolve, invoke, builtin, hs, hx, hrun, Result.andThen]
    exact h v w (by rw [List.append_nil]; exact hown) (World.grownBy.refl _ _)
  | some ad =>
    have hnw : ∀ j u, (dcells us)[j]? = some u → w.cell? (ad.add j) = some u := by
      intro j u hj
      have hjl := (List.getElem?_eq_some_iff.1 hj).1
      rw [dcells_len] at hjl
      have hd := List.getElem?_eq_getElem (show j / 8 < us.length by omega)
      obtain ⟨b, off, rfl, _, hc⟩ := hsl.rd _ rfl (fun e => by rw [e] at hjl; simp at hjl)
      have hi8 : j % 8 < 8 := Nat.mod_lt _ (by omega)
      have he := List.getElem?_eq_getElem (show j % 8 < (dcs (us[j / 8]'(by omega))).length by rw [dcs_len]; exact hi8)
      have h1 := dcells_at us (j / 8) _ hd (j % 8) _ he
      rw [show j / 8 * 8 + j % 8 = j by omega, hj] at h1
      have h2 := hc (j / 8) _ hd (j % 8) _ he
      rw [Addr.add_lit, show off + j = off + j / 8 * 8 + j % 8 by omega, h2]
      exact h1.symm
    exact wp_append_own w s x 26 ho base 41 i0 _ 8 64 Try.underlying26 hi hz0 hz1 hz2 rfl (by decide) v n (dcells xs) hs hown ad us.length c (dcells us) hx (dcells_len us) hnw (dcells_one us) (by simp only [maxLen]; omega) (by omega) hbase fun v' w' h2 h3 _ => h v' w' (by unfold OD; rw [dcells_append]; exact h2) h3
/-- A deviation that lies in a box. -/
structure Dx (w : World) (b : Nat) (d : Dv) : Prop where
  d0 : w.cell? ⟨b, 0, none⟩ = some (.int .i64 d.rnd)
  d1 : w.cell? ⟨b, 1, none⟩ = some (.int .i64 d.frm)
  d2 : w.cell? ⟨b, 2, none⟩ = some (.int .i64 d.to)
  d3 : w.cell? ⟨b, 3, none⟩ = some (.int .i64 d.at_)
  d4 : w.cell? ⟨b, 4, none⟩ = some (.int .i64 d.kind)
  d5 : w.cell? ⟨b, 5, none⟩ = some (.int .u64 d.k)
  d6 : w.cell? ⟨b, 6, none⟩ = some (.int .i64 d.of_)
  d7 : w.cell? ⟨b, 7, none⟩ = some (.int .i64 d.src)
  lt : b < w.heap.size
theorem Dx.made (w : World) (d : Dv) : Dx (w.alloc (.cells #[.int .i64 d.rnd, .int .i64 d.frm, .int .i64 d.to, .int .i64 d.at_, .int .i64 d.kind, .int .u64 d.k, .int .i64 d.of_, .int .i64 d.src] 41)) w.heap.size d := by
  refine ⟨?_, ?_, ?_, ?_, ?_, ?_, ?_, ?_, by simp⟩
  all_goals go_simp
theorem Dx.next {w w' : World} {b : Nat} {d : Dv} (h : Dx w b d) (hb : Below w.heap.size w w') : Dx w' b d :=
  ⟨(hb.cell h.lt).trans h.d0, (hb.cell h.lt).trans h.d1, (hb.cell h.lt).trans h.d2, (hb.cell h.lt).trans h.d3, (hb.cell h.lt).trans h.d4, (hb.cell h.lt).trans h.d5, (hb.cell h.lt).trans h.d6, (hb.cell h.lt).trans h.d7, Nat.lt_of_lt_of_le h.lt hb.size⟩
end Go.Proofs.Ytbhphamfkhccpaa
