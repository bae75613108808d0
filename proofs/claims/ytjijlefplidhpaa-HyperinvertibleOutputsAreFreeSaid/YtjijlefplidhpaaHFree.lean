/- What the law on free outputs needs: any values of some inputs and of as many outputs as there are inputs left are borne by exactly the completed vector. Conditions: a supported prime, as said. -/
import Derived.Test.YtjijlefplidhpaaHRefA
namespace Go.Proofs.Ytjijlefplidhpaa
set_option maxRecDepth 100000
open Go.ChangeShapes Go.WideShapes Go.ChangeAt Go.RowKit Go.Joins Go.Deep Go.WideElems PolyMath FieldMath MatMath

theorem wrap_over (x : Int) (h : 9223372036854775807 < x) (h2 : x ≤ 9223372036854775813) : IntKind.i64.wrap x = x - 18446744073709551616 := by
  unfold IntKind.wrap
  simp [IntKind.signed, IntKind.bits]
  omega
theorem row_form2 {w : World} {base t n : Nat} {v : Value} {xs : List Value} (h : w.ownsRow base t 2 v n xs) : ∃ A c, v = .slice A n c := by
  rcases h.2 with ⟨rfl, h0⟩ | ⟨g, cap, cur, rfl, _⟩
  · subst h0; exact ⟨_, _, rfl⟩
  · exact ⟨_, _, rfl⟩
theorem arg_slb {H : Type} {enc : TypeId × Value → H} {W : World} {base : Nat} {v : Value} {d : DataW H} {p : List MemPlace} (hval : Value.okWide Try.prog W .any base 31 v) (h : DataW.Trod enc Try.prog W 0 (fun _ => true) true 31 v d p) (hlt : ∀ x ∈ p, x.block < W.heap.size) :
    ∃ A xs c, v = .slice A xs.length c ∧ Sl W A c xs ∧ Words xs ∧ xs.length ≤ 9223372036854775807 := by
  obtain ⟨A, xs, c, hv, hs, hw⟩ := arg_sl hval h hlt
  refine ⟨A, xs, c, hv, hs, hw, ?_⟩
  obtain ⟨fuel, hf⟩ := h
  subst hv
  simp only [Value.cells] at hf
  rcases open_ints Try.underlying31 Try.underlying22 cells_u64 hf with ⟨hcs, _⟩ | ⟨a, len', cap', zs, hcs, _, hl, hm, _⟩
  · injection hcs with hcs _
    injection hcs with _ h2 _
    omega
  · injection hcs with hcs _
    injection hcs with _ h2 _
    simp only [maxLen] at hm
    omega

/-- The inputs as points. -/
def fxd (ins : List Int) (k : Nat) : List (Int × Int) := (List.range k).map fun i : Nat => ((i : Int), co ins i)
theorem fxd_len (ins : List Int) (k : Nat) : (fxd ins k).length = k := by unfold fxd; simp
theorem fxd_next (ins : List Int) (k : Nat) : fxd ins (k + 1) = fxd ins k ++ [((k : Int), co ins k)] := by unfold fxd; rw [List.range_succ, List.map_append]; rfl
theorem fxd_mem {ins : List Int} {k : Nat} {q : Int × Int} (h : q ∈ fxd ins k) : ∃ i : Nat, i < k ∧ q = ((i : Int), co ins i) := by
  obtain ⟨i, hi, rfl⟩ := List.mem_map.1 h
  exact ⟨i, List.mem_range.1 hi, rfl⟩
theorem fxd_nodup (ins : List Int) : ∀ k, ((fxd ins k).map Prod.fst).Nodup
  | 0 => List.nodup_nil
  | k + 1 => by
    rw [fxd_next, List.map_append, List.nodup_append]
    refine ⟨fxd_nodup ins k, List.nodup_cons.2 ⟨List.not_mem_nil, List.nodup_nil⟩, fun a ha b hb e => ?_⟩
    obtain ⟨q, hq, rfl⟩ := List.mem_map.1 ha
    obtain ⟨i, hi, rfl⟩ := fxd_mem hq
    have hb' : b = (k : Int) := by simpa using hb
    have e' : (i : Int) = b := e
    omega
theorem pcells_new (w : World) (x y : Int) (t : TypeId) : ∀ j u, [Value.int .u64 x, Value.int .u64 y][j]? = some u → (w.alloc (.cells #[.int .u64 x, .int .u64 y] t)).cell? ((⟨w.heap.size, 0, none⟩ : Addr).add j) = some u := (Pt.lit w t [(x, y)]).news

theorem oI_nodup {L : List Nat} (h : L.Nodup) : (oI L).Nodup := by
  induction L with
  | nil => exact List.nodup_nil
  | cons a L ih =>
    have h' := List.nodup_cons.1 h
    refine List.nodup_cons.2 ⟨fun hm => ?_, ih h'.2⟩
    obtain ⟨b, hb, e⟩ := List.mem_map.1 hm
    have e' : (b : Int) = (a : Int) := e
    exact h'.1 (by rwa [show a = b by omega])
structure Freed (p : Int) (ins : List Int) (outs : List (Int × Int)) (m : List (List Int)) (x : List Int) : Prop where
  arg : CArg p m (fxd ins ins.length) outs
  ok : argB m (fxd ins ins.length) outs = true
  cmp : cmp p m (fxd ins ins.length) outs = some x
  el : El p x
  len : x.length = ins.length + outs.length
  ini : ∀ i, i < ins.length → co x i = co ins i
  out : ∀ q ∈ outs, co (app p m x) q.1.toNat = q.2

theorem free_math {p : Int} (hp : OkP p) {ins : List Int} {outs : List (Int × Int)} (ho6 : outs.length ≤ 6) (h7 : ins.length + outs.length ≤ 7) (h1 : 1 ≤ ins.length + outs.length) (ei : El p ins) (wo : PWords outs) (bo : ∀ q ∈ outs, q.2 < p) (hu : unlB (px outs) 6 = true) :
    ∃ x, Freed p ins outs (nw p 6 (ins.length + outs.length)) x := by
  have hbd := hp.bd
  have hg := hp.good
  have hp0 : 0 < p := by omega
  obtain ⟨u1, u2⟩ := of_decide_eq_true hu
  have hM := nw_mat (p := p) hp0 6 (ins.length + outs.length)
  have hcol : ncol (nw p 6 (ins.length + outs.length)) = ins.length + outs.length := hM.cols (by omega)
  have hml := nw_len p 6 (ins.length + outs.length)
  have ha : CArg p (nw p 6 (ins.length + outs.length)) (fxd ins ins.length) outs := ⟨by omega, fun i => by
      by_cases hi : i < 6
      · rw [(hM.ro hi).1]; omega
      · unfold ro; rw [List.getElem?_eq_none (by omega)]; exact Nat.zero_le _, hM.els, fun q hq => by
      obtain ⟨i, hi, rfl⟩ := fxd_mem hq
      have := ei.co hp0 i
      have h31 := hp.bd
      exact ⟨⟨by omega, by show (i : Int) ≤ _; omega⟩, this.1, by show co ins i ≤ _; omega⟩, wo, fun q hq => by
      obtain ⟨i, hi, rfl⟩ := fxd_mem hq
      exact (ei.co hp0 i).2, bo, by rw [fxd_len]; omega, by omega⟩
  have hok : argB (nw p 6 (ins.length + outs.length)) (fxd ins ins.length) outs = true := by
    unfold argB evenB plcB
    simp only [Bool.and_eq_true, decide_eq_true_eq, beq_iff_eq]
    rw [hml, hcol, fxd_len]
    refine ⟨⟨⟨⟨⟨by omega, by omega⟩, hM.isRect⟩, fun q hq => ?_, fxd_nodup ins _⟩, fun q hq => ?_, u2⟩, rfl⟩
    · obtain ⟨i, hi, rfl⟩ := fxd_mem hq
      show (i : Int) < _
      omega
    · exact (u1 q.1 (List.mem_map.2 ⟨q, hq, rfl⟩)).2
  have hA := ha.arg hok
  have hr : ¬ rnk p (sqm (nw p 6 (ins.length + outs.length)) (fxd ins ins.length) outs) < outs.length := by
    by_cases h0 : outs.length = 0
    · omega
    · have hsq := hA.sq (p := p) hp0 hM.els
      obtain ⟨d1, d2⟩ := sub_det hg (rows := 6) (cols := ins.length + outs.length) (by omega) (R := px outs) (C := oI (rest (ins.length + outs.length) (idx (fxd ins ins.length)))) u1 (fun i hi => by
          obtain ⟨k, hk, rfl⟩ := List.mem_map.1 hi
          have := (mem_rest.1 hk).1
          omega) u2 (oI_nodup (rest_nodup _ _)) (by rw [px_len, oI_len]; have := hA.rest; rw [hcol] at this; omega) (by rw [px_len]; omega)
      have e : subM (nw p 6 (ins.length + outs.length)) (px outs) (oI (rest (ins.length + outs.length) (idx (fxd ins ins.length)))) = sqm (nw p 6 (ins.length + outs.length)) (fxd ins ins.length) outs := by unfold sqm; rw [hcol]; rfl
      rw [e] at d1 d2
      have h2 := dtm_zero hg d1 hsq.els
      rw [hsq.rows] at h2
      exact fun hlt => d2 (h2.2 hlt)
  obtain ⟨s, hs⟩ := cmp_ex hg hA hM.els hr
  have hc := cmp_some hg hA hM.els ha.ne ha.on hs
  refine ⟨_, ha, hok, by unfold Go.Proofs.Ytjijlefplidhpaa.cmp; rw [if_neg hr, hs]; rfl, hc.1, by rw [hc.2.1, hcol], fun i hi => ?_, hc.2.2.2⟩
  have := hc.2.2.1 ((i : Int), co ins i) (List.mem_map.2 ⟨i, List.mem_range.2 hi, rfl⟩)
  simpa using this
end Go.Proofs.Ytjijlefplidhpaa
