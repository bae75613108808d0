/- What fair matrices and valid cases of layer 10's laws are. No conditions. -/
import Derived.Test.YtkhiiiggmhncbaaGreatEValid
import Derived.Test.YtkhiiiggmhncbaaGreatME
import Derived.Test.YtkhiiiggmhncbaaGreatEOpen
namespace Go.Proofs.YtkhiiiggmhncbaaGreat
set_option maxRecDepth 100000
open Go.RowKit PolyMath FieldMath MatMath

theorem fair10_is {p : Int} {S : List (List Int)} {most n : Nat} (hw : ∀ r ∈ S, Words r) (h : fair10B p S most = true) (hn : S.length = n) (hm : most ≤ 100 := by decide) : OkP p ∧ Mat p n n S ∧ n ≤ most ∧ 0 < n := by
  unfold fair10B at h
  rw [Bool.and_eq_true] at h
  obtain ⟨h1, h2⟩ := h
  obtain ⟨hp, _, he, hl, _⟩ := fair_is hm hw h1
  have hq := sqB_iff.1 h2
  rw [hn] at hq hl
  refine ⟨hp, .of hn fun i hi => ⟨hq.2 i hi, he _ (List.mem_of_getElem? (ro_get (by rw [hn]; exact hi)))⟩, hl, hq.1⟩
/-- A valid case of a translation. -/
structure VT (p : Int) (S : List (List Int)) (xs : List Int) (D X : Int) (n : Nat) : Prop where
  ok : OkP p
  mat : Mat p n n S
  le : n ≤ 6
  pos : 0 < n
  sym : Sym S
  len : xs.length + 1 = n
  nd : xs.Nodup
  el : El p xs
  nz : ∀ x ∈ xs, 0 < x ∧ x < p
  d : 0 ≤ D ∧ D < p
  x : 0 ≤ X ∧ X < p
theorem vt_is {p D X : Int} {S : List (List Int)} {xs : List Int} {n : Nat} (hw : ∀ r ∈ S, Words r) (hx : Words xs) (wD : Wd D) (wX : Wd X) (h : vtB p S xs D X = true) (hn : S.length = n) : VT p S xs D X n := by
  obtain ⟨h1, h2, h3, h4, h5, h6, h7, h8⟩ := vt_true.1 h
  obtain ⟨hp, hM, hle, h0⟩ := fair10_is hw h1 hn
  have hb := bel_is hx h3
  exact ⟨hp, hM, hle, h0, (symB_iff.1 h2).2, by rw [h4, hn], h5, hb.1, fun x hm => ⟨by have := hb.1 x hm; have := h8 x hm; omega, (hb.1 x hm).2⟩, ⟨wD.1, h6⟩, ⟨wX.1, h7⟩⟩
/-- Valid rows at points. -/
theorem vr_is {p : Int} {xs : List Int} {rows : List (List Int)} (hw : ∀ r ∈ rows, Words r) (hx : Words xs) (h : vrB p xs rows = true) : OkP p ∧ (∀ r ∈ rows, El p r) ∧ rows.length ≤ 8 ∧ (∀ i, (ro rows i).length ≤ 8) ∧ El p xs ∧ xs.length ≤ 8 := by
  unfold vrB at h
  rw [Bool.and_eq_true] at h
  obtain ⟨hp, _, he, hl, hr⟩ := fair_is (by decide) hw h.1
  have hb := bel_is hx h.2
  exact ⟨hp, he, hl, hr, hb.1, hb.2⟩
end Go.Proofs.YtkhiiiggmhncbaaGreat
