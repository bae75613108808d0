/-
  No cell of these rows narrows 'for every input' (looked for: loops, veiled, ifaces, maps, wideKeys, modest, calm, conditions, laid).
  DERIVED. THE GIVEN ROWS OF THIS SEAT. 7 by the template 'for every input the law returns true; each argument reads behind the call as it read before'; 0 by the template 'total and deterministic' (their statements: YtjijlefplidhpaaTotals.lean).
  GIVEN WITH THE SEED: the statements are not yours to turn. If you find one false, say at which input.
  Laid BY PROGRAM, IN A SANDBOX (cutbox-rows.mjs): the forced cells as the released guide's own fill.sh prints them over the translation 3f85f2bcd689fadf… (all of the seat's roots in one cut). By AI agents, Wed Nov 11 2026. No macro, syntax, notation, axiom, sorry.
-/
import Derived.Test.YtjijlefplidhpaaChecked
import GoSem.Claim
import GoSem.ClaimJoined
import GoSem.ClaimMapViews
import Derived.JoinedTies
import Derived.KernelRfl
namespace Go.Proofs.Ytjijlefplidhpaa
/- THE CELL 'sum', in the pinned program and in every row, IS THE sha256 OF THE DUMP (.gsa) THAT YtjijlefplidhpaaProg.lean LOADS. Nothing in Lean hashes anything: it is a label: what it is worth is what the hold of that sum in a sandbox is worth. -/
noncomputable def Try.pinned : Pinned := { name := "ytjijlefplidhpaa", sum := "3f85f2bcd689fadfac56b9f5398331ae84b42e90c9264fe8ed43e784dd8b17dc", checked := Try.checked }
namespace Rows
def none {H : Type} : Left H := { results := [], args := [] }

/-- 'privitylaw07.HyperinvertibleNewMatchesReference': WHATEVER THE INPUT: true; the input reads as it did. -/
def hyperinvertibleNewMatchesReferenceSpec : ChangeSpec := { name := "hyperinvertibleNewMatchesReference", fn := fun _ => fun
  | [d1, d2, d3] => { results := [.lit (.bool true)], args := [d1, d2, d3] }
  | _ => none }
def hyperinvertibleNewMatchesReferenceRow : OpenClaim := { program := "ytjijlefplidhpaa", sum := "3f85f2bcd689fadfac56b9f5398331ae84b42e90c9264fe8ed43e784dd8b17dc", func := "privity/privitylaw07.HyperinvertibleNewMatchesReference", spec := "hyperinvertibleNewMatchesReference", unfollowed := true, recurses := true, apart := false }
def HyperinvertibleNewMatchesReferenceSaid : Prop := hyperinvertibleNewMatchesReferenceRow.holds Try.pinned (OpenSpec.ofChange hyperinvertibleNewMatchesReferenceSpec)

/-- ITS FALSE NEIGHBOUR: 'it returns false'. Refute it at one input. -/
def hyperinvertibleNewMatchesReferenceWrong : ChangeSpec := { name := "hyperinvertibleNewMatchesReference", fn := fun _ => fun
  | [d1, d2, d3] => { results := [.lit (.bool false)], args := [d1, d2, d3] }
  | _ => none }
def HyperinvertibleNewMatchesReferenceWrongFalsely : Prop := hyperinvertibleNewMatchesReferenceRow.holds Try.pinned (OpenSpec.ofChange hyperinvertibleNewMatchesReferenceWrong)

/-- 'privitylaw07.HyperinvertibleNewExtrapolates': WHATEVER THE INPUT: true; the input reads as it did. -/
def hyperinvertibleNewExtrapolatesSpec : ChangeSpec := { name := "hyperinvertibleNewExtrapolates", fn := fun _ => fun
  | [d1, d2, d3] => { results := [.lit (.bool true)], args := [d1, d2, d3] }
  | _ => none }
def hyperinvertibleNewExtrapolatesRow : OpenClaim := { program := "ytjijlefplidhpaa", sum := "3f85f2bcd689fadfac56b9f5398331ae84b42e90c9264fe8ed43e784dd8b17dc", func := "privity/privitylaw07.HyperinvertibleNewExtrapolates", spec := "hyperinvertibleNewExtrapolates", unfollowed := true, recurses := true, apart := false }
def HyperinvertibleNewExtrapolatesSaid : Prop := hyperinvertibleNewExtrapolatesRow.holds Try.pinned (OpenSpec.ofChange hyperinvertibleNewExtrapolatesSpec)

/-- ITS FALSE NEIGHBOUR: 'it returns false'. Refute it at one input. -/
def hyperinvertibleNewExtrapolatesWrong : ChangeSpec := { name := "hyperinvertibleNewExtrapolates", fn := fun _ => fun
  | [d1, d2, d3] => { results := [.lit (.bool false)], args := [d1, d2, d3] }
  | _ => none }
def HyperinvertibleNewExtrapolatesWrongFalsely : Prop := hyperinvertibleNewExtrapolatesRow.holds Try.pinned (OpenSpec.ofChange hyperinvertibleNewExtrapolatesWrong)

/-- 'privitylaw07.HyperinvertibleEverySquareSubmatrix': WHATEVER THE INPUT: true; the input reads as it did. -/
def hyperinvertibleEverySquareSubmatrixSpec : ChangeSpec := { name := "hyperinvertibleEverySquareSubmatrix", fn := fun _ => fun
  | [d] => { results := [.lit (.bool true)], args := [d] }
  | _ => none }
def hyperinvertibleEverySquareSubmatrixRow : OpenClaim := { program := "ytjijlefplidhpaa", sum := "3f85f2bcd689fadfac56b9f5398331ae84b42e90c9264fe8ed43e784dd8b17dc", func := "privity/privitylaw07.HyperinvertibleEverySquareSubmatrix", spec := "hyperinvertibleEverySquareSubmatrix", unfollowed := true, recurses := true, apart := false }
def HyperinvertibleEverySquareSubmatrixSaid : Prop := hyperinvertibleEverySquareSubmatrixRow.holds Try.pinned (OpenSpec.ofChange hyperinvertibleEverySquareSubmatrixSpec)

/-- ITS FALSE NEIGHBOUR: 'it returns false'. Refute it at one input. -/
def hyperinvertibleEverySquareSubmatrixWrong : ChangeSpec := { name := "hyperinvertibleEverySquareSubmatrix", fn := fun _ => fun
  | [d] => { results := [.lit (.bool false)], args := [d] }
  | _ => none }
def HyperinvertibleEverySquareSubmatrixWrongFalsely : Prop := hyperinvertibleEverySquareSubmatrixRow.holds Try.pinned (OpenSpec.ofChange hyperinvertibleEverySquareSubmatrixWrong)

/-- 'privitylaw07.HyperinvertibleSubmatrixMatchesReference': WHATEVER THE INPUT: true; the input reads as it did. -/
def hyperinvertibleSubmatrixMatchesReferenceSpec : ChangeSpec := { name := "hyperinvertibleSubmatrixMatchesReference", fn := fun _ => fun
  | [d1, d2, d3] => { results := [.lit (.bool true)], args := [d1, d2, d3] }
  | _ => none }
def hyperinvertibleSubmatrixMatchesReferenceRow : OpenClaim := { program := "ytjijlefplidhpaa", sum := "3f85f2bcd689fadfac56b9f5398331ae84b42e90c9264fe8ed43e784dd8b17dc", func := "privity/privitylaw07.HyperinvertibleSubmatrixMatchesReference", spec := "hyperinvertibleSubmatrixMatchesReference", unfollowed := true, recurses := true, apart := false }
def HyperinvertibleSubmatrixMatchesReferenceSaid : Prop := hyperinvertibleSubmatrixMatchesReferenceRow.holds Try.pinned (OpenSpec.ofChange hyperinvertibleSubmatrixMatchesReferenceSpec)

/-- ITS FALSE NEIGHBOUR: 'it returns false'. Refute it at one input. -/
def hyperinvertibleSubmatrixMatchesReferenceWrong : ChangeSpec := { name := "hyperinvertibleSubmatrixMatchesReference", fn := fun _ => fun
  | [d1, d2, d3] => { results := [.lit (.bool false)], args := [d1, d2, d3] }
  | _ => none }
def HyperinvertibleSubmatrixMatchesReferenceWrongFalsely : Prop := hyperinvertibleSubmatrixMatchesReferenceRow.holds Try.pinned (OpenSpec.ofChange hyperinvertibleSubmatrixMatchesReferenceWrong)

/-- 'privitylaw07.HyperinvertibleCompleteMatchesReference': WHATEVER THE INPUT: true; the input reads as it did. -/
def hyperinvertibleCompleteMatchesReferenceSpec : ChangeSpec := { name := "hyperinvertibleCompleteMatchesReference", fn := fun _ => fun
  | [d] => { results := [.lit (.bool true)], args := [d] }
  | _ => none }
def hyperinvertibleCompleteMatchesReferenceRow : OpenClaim := { program := "ytjijlefplidhpaa", sum := "3f85f2bcd689fadfac56b9f5398331ae84b42e90c9264fe8ed43e784dd8b17dc", func := "privity/privitylaw07.HyperinvertibleCompleteMatchesReference", spec := "hyperinvertibleCompleteMatchesReference", unfollowed := true, recurses := true, apart := false }
def HyperinvertibleCompleteMatchesReferenceSaid : Prop := hyperinvertibleCompleteMatchesReferenceRow.holds Try.pinned (OpenSpec.ofChange hyperinvertibleCompleteMatchesReferenceSpec)

/-- ITS FALSE NEIGHBOUR: 'it returns false'. Refute it at one input. -/
def hyperinvertibleCompleteMatchesReferenceWrong : ChangeSpec := { name := "hyperinvertibleCompleteMatchesReference", fn := fun _ => fun
  | [d] => { results := [.lit (.bool false)], args := [d] }
  | _ => none }
def HyperinvertibleCompleteMatchesReferenceWrongFalsely : Prop := hyperinvertibleCompleteMatchesReferenceRow.holds Try.pinned (OpenSpec.ofChange hyperinvertibleCompleteMatchesReferenceWrong)

/-- 'privitylaw07.HyperinvertibleOutputsAreFree': WHATEVER THE INPUT: true; the input reads as it did. -/
def hyperinvertibleOutputsAreFreeSpec : ChangeSpec := { name := "hyperinvertibleOutputsAreFree", fn := fun _ => fun
  | [d1, d2, d3] => { results := [.lit (.bool true)], args := [d1, d2, d3] }
  | _ => none }
def hyperinvertibleOutputsAreFreeRow : OpenClaim := { program := "ytjijlefplidhpaa", sum := "3f85f2bcd689fadfac56b9f5398331ae84b42e90c9264fe8ed43e784dd8b17dc", func := "privity/privitylaw07.HyperinvertibleOutputsAreFree", spec := "hyperinvertibleOutputsAreFree", unfollowed := true, recurses := true, apart := false }
def HyperinvertibleOutputsAreFreeSaid : Prop := hyperinvertibleOutputsAreFreeRow.holds Try.pinned (OpenSpec.ofChange hyperinvertibleOutputsAreFreeSpec)

/-- ITS FALSE NEIGHBOUR: 'it returns false'. Refute it at one input. -/
def hyperinvertibleOutputsAreFreeWrong : ChangeSpec := { name := "hyperinvertibleOutputsAreFree", fn := fun _ => fun
  | [d1, d2, d3] => { results := [.lit (.bool false)], args := [d1, d2, d3] }
  | _ => none }
def HyperinvertibleOutputsAreFreeWrongFalsely : Prop := hyperinvertibleOutputsAreFreeRow.holds Try.pinned (OpenSpec.ofChange hyperinvertibleOutputsAreFreeWrong)

/-- 'privitylaw07.HyperinvertibleMinimumDistance': WHATEVER THE INPUT: true; the input reads as it did. -/
def hyperinvertibleMinimumDistanceSpec : ChangeSpec := { name := "hyperinvertibleMinimumDistance", fn := fun _ => fun
  | [d1, d2, d3] => { results := [.lit (.bool true)], args := [d1, d2, d3] }
  | _ => none }
def hyperinvertibleMinimumDistanceRow : OpenClaim := { program := "ytjijlefplidhpaa", sum := "3f85f2bcd689fadfac56b9f5398331ae84b42e90c9264fe8ed43e784dd8b17dc", func := "privity/privitylaw07.HyperinvertibleMinimumDistance", spec := "hyperinvertibleMinimumDistance", unfollowed := true, recurses := true, apart := false }
def HyperinvertibleMinimumDistanceSaid : Prop := hyperinvertibleMinimumDistanceRow.holds Try.pinned (OpenSpec.ofChange hyperinvertibleMinimumDistanceSpec)

/-- ITS FALSE NEIGHBOUR: 'it returns false'. Refute it at one input. -/
def hyperinvertibleMinimumDistanceWrong : ChangeSpec := { name := "hyperinvertibleMinimumDistance", fn := fun _ => fun
  | [d1, d2, d3] => { results := [.lit (.bool false)], args := [d1, d2, d3] }
  | _ => none }
def HyperinvertibleMinimumDistanceWrongFalsely : Prop := hyperinvertibleMinimumDistanceRow.holds Try.pinned (OpenSpec.ofChange hyperinvertibleMinimumDistanceWrong)

/- THE SECOND FORM. 'bulk': how many values and letters a reading holds, each counted each time it is reached (what is shared counts as often as it is met; a slice's spare places count too). A statement '..UptoSaid' is the law's where the arguments, and the package variables that the reading takes, are together of bulk at most 1048576: NARROWER than '..Said'. Prove '..Said' where nothing that the law and all that it calls make is longer than what came in: it says more and counts as full. Else prove '..UptoSaid'. A law counts once. -/
mutual
def uptoBulk {H : Type} : DataW H → Nat
  | .lit (.string bytes) => bytes.length + 1
  | .lit _ => 1
  | .nil => 1
  | .ptr d => uptoBulk d + 1
  | .slice elems spare => uptoBulkAll elems + uptoBulkAll spare + 1
  | .agg parts => uptoBulkAll parts + 1
  | .iface _ d => uptoBulk d + 1
  | .map entries => uptoBulkEntries entries + 1
  | .held _ => 1
def uptoBulkAll {H : Type} : List (DataW H) → Nat
  | [] => 0
  | d :: r => uptoBulk d + uptoBulkAll r
def uptoBulkEntries {H : Type} : List (Lit × DataW H) → Nat
  | [] => 0
  | x :: r => uptoBulkEntry x + uptoBulkEntries r
def uptoBulkEntry {H : Type} : Lit × DataW H → Nat
  | (.string bytes, d) => bytes.length + uptoBulk d + 1
  | (_, d) => uptoBulk d + 1
 end
def uptoSmall : (H : Type) → List (DataW H) → Bool := fun _ ds => decide (uptoBulkAll ds ≤ 1048576)
def OpenSpec.upto (s : _root_.Go.ChangeSpec) : _root_.Go.OpenSpec := { _root_.Go.OpenSpec.ofChange s with cond := some uptoSmall }

/-- 'privitylaw07.HyperinvertibleNewMatchesReference', WHERE WHAT IT READS IS OF BULK AT MOST 1048576: true; the input reads as it did. -/
def hyperinvertibleNewMatchesReferenceUptoRow : OpenClaim := { program := "ytjijlefplidhpaa", sum := "3f85f2bcd689fadfac56b9f5398331ae84b42e90c9264fe8ed43e784dd8b17dc", func := "privity/privitylaw07.HyperinvertibleNewMatchesReference", spec := "hyperinvertibleNewMatchesReference", unfollowed := true, recurses := true, apart := false, narrowed := true }
def HyperinvertibleNewMatchesReferenceUptoSaid : Prop := hyperinvertibleNewMatchesReferenceUptoRow.holds Try.pinned (OpenSpec.upto hyperinvertibleNewMatchesReferenceSpec)

/-- 'privitylaw07.HyperinvertibleNewExtrapolates', WHERE WHAT IT READS IS OF BULK AT MOST 1048576: true; the input reads as it did. -/
def hyperinvertibleNewExtrapolatesUptoRow : OpenClaim := { program := "ytjijlefplidhpaa", sum := "3f85f2bcd689fadfac56b9f5398331ae84b42e90c9264fe8ed43e784dd8b17dc", func := "privity/privitylaw07.HyperinvertibleNewExtrapolates", spec := "hyperinvertibleNewExtrapolates", unfollowed := true, recurses := true, apart := false, narrowed := true }
def HyperinvertibleNewExtrapolatesUptoSaid : Prop := hyperinvertibleNewExtrapolatesUptoRow.holds Try.pinned (OpenSpec.upto hyperinvertibleNewExtrapolatesSpec)

/-- 'privitylaw07.HyperinvertibleEverySquareSubmatrix', WHERE WHAT IT READS IS OF BULK AT MOST 1048576: true; the input reads as it did. -/
def hyperinvertibleEverySquareSubmatrixUptoRow : OpenClaim := { program := "ytjijlefplidhpaa", sum := "3f85f2bcd689fadfac56b9f5398331ae84b42e90c9264fe8ed43e784dd8b17dc", func := "privity/privitylaw07.HyperinvertibleEverySquareSubmatrix", spec := "hyperinvertibleEverySquareSubmatrix", unfollowed := true, recurses := true, apart := false, narrowed := true }
def HyperinvertibleEverySquareSubmatrixUptoSaid : Prop := hyperinvertibleEverySquareSubmatrixUptoRow.holds Try.pinned (OpenSpec.upto hyperinvertibleEverySquareSubmatrixSpec)

/-- 'privitylaw07.HyperinvertibleSubmatrixMatchesReference', WHERE WHAT IT READS IS OF BULK AT MOST 1048576: true; the input reads as it did. -/
def hyperinvertibleSubmatrixMatchesReferenceUptoRow : OpenClaim := { program := "ytjijlefplidhpaa", sum := "3f85f2bcd689fadfac56b9f5398331ae84b42e90c9264fe8ed43e784dd8b17dc", func := "privity/privitylaw07.HyperinvertibleSubmatrixMatchesReference", spec := "hyperinvertibleSubmatrixMatchesReference", unfollowed := true, recurses := true, apart := false, narrowed := true }
def HyperinvertibleSubmatrixMatchesReferenceUptoSaid : Prop := hyperinvertibleSubmatrixMatchesReferenceUptoRow.holds Try.pinned (OpenSpec.upto hyperinvertibleSubmatrixMatchesReferenceSpec)

/-- 'privitylaw07.HyperinvertibleCompleteMatchesReference', WHERE WHAT IT READS IS OF BULK AT MOST 1048576: true; the input reads as it did. -/
def hyperinvertibleCompleteMatchesReferenceUptoRow : OpenClaim := { program := "ytjijlefplidhpaa", sum := "3f85f2bcd689fadfac56b9f5398331ae84b42e90c9264fe8ed43e784dd8b17dc", func := "privity/privitylaw07.HyperinvertibleCompleteMatchesReference", spec := "hyperinvertibleCompleteMatchesReference", unfollowed := true, recurses := true, apart := false, narrowed := true }
def HyperinvertibleCompleteMatchesReferenceUptoSaid : Prop := hyperinvertibleCompleteMatchesReferenceUptoRow.holds Try.pinned (OpenSpec.upto hyperinvertibleCompleteMatchesReferenceSpec)

/-- 'privitylaw07.HyperinvertibleOutputsAreFree', WHERE WHAT IT READS IS OF BULK AT MOST 1048576: true; the input reads as it did. -/
def hyperinvertibleOutputsAreFreeUptoRow : OpenClaim := { program := "ytjijlefplidhpaa", sum := "3f85f2bcd689fadfac56b9f5398331ae84b42e90c9264fe8ed43e784dd8b17dc", func := "privity/privitylaw07.HyperinvertibleOutputsAreFree", spec := "hyperinvertibleOutputsAreFree", unfollowed := true, recurses := true, apart := false, narrowed := true }
def HyperinvertibleOutputsAreFreeUptoSaid : Prop := hyperinvertibleOutputsAreFreeUptoRow.holds Try.pinned (OpenSpec.upto hyperinvertibleOutputsAreFreeSpec)

/-- 'privitylaw07.HyperinvertibleMinimumDistance', WHERE WHAT IT READS IS OF BULK AT MOST 1048576: true; the input reads as it did. -/
def hyperinvertibleMinimumDistanceUptoRow : OpenClaim := { program := "ytjijlefplidhpaa", sum := "3f85f2bcd689fadfac56b9f5398331ae84b42e90c9264fe8ed43e784dd8b17dc", func := "privity/privitylaw07.HyperinvertibleMinimumDistance", spec := "hyperinvertibleMinimumDistance", unfollowed := true, recurses := true, apart := false, narrowed := true }
def HyperinvertibleMinimumDistanceUptoSaid : Prop := hyperinvertibleMinimumDistanceUptoRow.holds Try.pinned (OpenSpec.upto hyperinvertibleMinimumDistanceSpec)

end Rows
end Go.Proofs.Ytjijlefplidhpaa
