/- What the laws of layer 13 conclude from may. No conditions. -/
import Derived.Test.YtbhphamfkhccpaaAdAwk
namespace Go.Proofs.Ytbhphamfkhccpaa
set_option maxRecDepth 100000
open Go.RowKit PolyMath FieldMath PartyMath

theorem okm_of {p : Int} {l : List Int} (hw : Words l) (hl : l.length ≤ 20) (hp : ∀ x ∈ l, x < p) : Okm p l := ⟨fun z hz => ⟨(hw z hz).1, hp z hz⟩, hl⟩
theorem fin2_of {p : Int} {M : List (List (List Int))} (h : ∀ R ∈ M, ∀ l ∈ R, Okm p l) : Fin2 p (rAt2 M) := fun i j => by
  unfold rAt2
  cases e : M[i]? with
  | none => exact ⟨(fun z hz => by simp [rAt] at hz), by simp [rAt]⟩
  | some R => exact fin1_of (h R (List.mem_of_getElem? e)) j
theorem may_good {p n t : Int} {co : List Int} {ds : List Dv} {ts : List (List Int)} {M : List (List (List Int))} {all : List (List Int)} (h : mayB p n t co ds ts M all = true) (hk : ∀ d ∈ ds, Wd d.k) (hw : (∀ R ∈ M, ∀ l ∈ R, Words l) ∧ ∀ l ∈ all, Words l) :
    ∃ N T : Nat, n = N ∧ t = T ∧ Ok13 p N T co ds ∧ M.length = N ∧ (∀ R ∈ M, R.length = N) ∧ all.length = N ∧ Fin2 p (rAt2 M) ∧ Fin1 p (rAt all) ∧ ds.length ≤ 30 := by
  unfold mayB scB at h
  simp only [Bool.and_eq_true, decide_eq_true_eq, List.all_eq_true] at h
  obtain ⟨⟨hv, hd, _⟩, h30, hm, ha, hR⟩ := h
  obtain ⟨N, T, rfl, rfl, hC⟩ := Coal.of hv
  refine ⟨N, T, rfl, rfl, ⟨hC, hd, hk, by omega⟩, by omega, fun R hRm => by have := (hR R hRm).1; omega, by have := ha.1; omega, ?_, ?_, h30⟩
  · exact fin2_of fun R hRm l hl => okm_of (hw.1 R hRm l hl) ((hR R hRm).2 l hl).1 ((hR R hRm).2 l hl).2
  · exact fin1_of fun l hl => okm_of (hw.2 l hl) (ha.2 l hl).1 (ha.2 l hl).2
/-- One message of a list. -/
theorem Sf.sub {w : World} {b off c n i : Nat} {f : Nat → List Int} (h : Sf w (some ⟨b, off, none⟩) c n f) (hi : i < n) : Sf w (some ⟨b, off + i, none⟩) (c - i) 1 (fun _ => f i) :=
  ⟨by have := h.cap; omega, fun _ => by
    obtain ⟨b', off', e, hb, hc⟩ := h.rd (by omega)
    injection e with e
    injection e with e1 e2
    subst e1 e2
    refine ⟨b, off + i, rfl, hb, fun j hj => ?_⟩
    obtain rfl : j = 0 := by omega
    exact hc i hi⟩
end Go.Proofs.Ytbhphamfkhccpaa
