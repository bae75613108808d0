/- One message of a list, as a slice of the list. No conditions. -/
import Derived.Test.YtbhphamfkhccpaaAdLaw
namespace Go.Proofs.Ytbhphamfkhccpaa
set_option maxRecDepth 100000
open Go.RowKit PolyMath FieldMath PartyMath

/-- One message of a list. -/
theorem Sf.sub {w : World} {b off c n i : Nat} {f : Nat → List Int} (h : Sf w (some ⟨b, off, none⟩) c n f) (hi : i < n) : Sf w (some ⟨b, off + i, none⟩) (c - i) 1 (fun _ => f i) :=
  ⟨by have := h.cap; omega, fun _ => by
    obtain ⟨b', off', e, hb, hc⟩ := h.rd (by omega)
    injection e with e
    injection e with e1 e2
    subst e1 e2
    refine ⟨b, off + i, rfl, hb, fun j hj => ?_⟩
    obtain rfl : j = 0 := by omega
    exact hc i hi⟩
end Go.Proofs.Ytbhphamfkhccpaa
