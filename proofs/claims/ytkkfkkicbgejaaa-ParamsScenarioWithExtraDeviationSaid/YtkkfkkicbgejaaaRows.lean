/-
  No cell of these rows narrows 'for every input' (looked for: loops, veiled, ifaces, maps, wideKeys, modest, calm, conditions, laid).
  DERIVED. THE GIVEN ROWS OF THIS SEAT. 6 by the template 'for every input the law returns true; each argument reads behind the call as it read before'; 0 by the template 'total and deterministic' (their statements: YtkkfkkicbgejaaaTotals.lean).
  GIVEN WITH THE SEED: the statements are not yours to turn. If you find one false, say at which input.
  Laid BY PROGRAM, IN A SANDBOX (cutbox-rows.mjs): the forced cells as the released guide's own fill.sh prints them over the translation 7e8a0fa02923f2b4… (all of the seat's roots in one cut). By AI agents, Wed Nov 11 2026. No macro, syntax, notation, axiom, sorry.
-/
import Derived.Test.YtkkfkkicbgejaaaChecked
import GoSem.Claim
import GoSem.ClaimJoined
import GoSem.ClaimMapViews
import Derived.JoinedTies
import Derived.KernelRfl
namespace Go.Proofs.Ytkkfkkicbgejaaa
/- THE CELL 'sum', in the pinned program and in every row, IS THE sha256 OF THE DUMP (.gsa) THAT YtkkfkkicbgejaaaProg.lean LOADS. Nothing in Lean hashes anything: it is a label: what it is worth is what the hold of that sum in a sandbox is worth. -/
noncomputable def Try.pinned : Pinned := { name := "ytkkfkkicbgejaaa", sum := "7e8a0fa02923f2b4d22821bb9ee2566ceaae50844f14de099d68f540646fb0b5", checked := Try.checked }
namespace Rows
def none {H : Type} : Left H := { results := [], args := [] }

/-- 'privitylaw12.ParamsValidMatchesReference': WHATEVER THE INPUT: true; the input reads as it did. -/
def paramsValidMatchesReferenceSpec : ChangeSpec := { name := "paramsValidMatchesReference", fn := fun _ => fun
  | [d1, d2] => { results := [.lit (.bool true)], args := [d1, d2] }
  | _ => none }
def paramsValidMatchesReferenceRow : OpenClaim := { program := "ytkkfkkicbgejaaa", sum := "7e8a0fa02923f2b4d22821bb9ee2566ceaae50844f14de099d68f540646fb0b5", func := "privity/privitylaw12.ParamsValidMatchesReference", spec := "paramsValidMatchesReference", unfollowed := true, recurses := true, apart := false }
def ParamsValidMatchesReferenceSaid : Prop := paramsValidMatchesReferenceRow.holds Try.pinned (OpenSpec.ofChange paramsValidMatchesReferenceSpec)

/-- ITS FALSE NEIGHBOUR: 'it returns false'. Refute it at one input. -/
def paramsValidMatchesReferenceWrong : ChangeSpec := { name := "paramsValidMatchesReference", fn := fun _ => fun
  | [d1, d2] => { results := [.lit (.bool false)], args := [d1, d2] }
  | _ => none }
def ParamsValidMatchesReferenceWrongFalsely : Prop := paramsValidMatchesReferenceRow.holds Try.pinned (OpenSpec.ofChange paramsValidMatchesReferenceWrong)

/-- 'privitylaw12.ParamsValidScenarioMatchesReference': WHATEVER THE INPUT: true; the input reads as it did. -/
def paramsValidScenarioMatchesReferenceSpec : ChangeSpec := { name := "paramsValidScenarioMatchesReference", fn := fun _ => fun
  | [d] => { results := [.lit (.bool true)], args := [d] }
  | _ => none }
def paramsValidScenarioMatchesReferenceRow : OpenClaim := { program := "ytkkfkkicbgejaaa", sum := "7e8a0fa02923f2b4d22821bb9ee2566ceaae50844f14de099d68f540646fb0b5", func := "privity/privitylaw12.ParamsValidScenarioMatchesReference", spec := "paramsValidScenarioMatchesReference", unfollowed := true, recurses := true, apart := false }
def ParamsValidScenarioMatchesReferenceSaid : Prop := paramsValidScenarioMatchesReferenceRow.holds Try.pinned (OpenSpec.ofChange paramsValidScenarioMatchesReferenceSpec)

/-- ITS FALSE NEIGHBOUR: 'it returns false'. Refute it at one input. -/
def paramsValidScenarioMatchesReferenceWrong : ChangeSpec := { name := "paramsValidScenarioMatchesReference", fn := fun _ => fun
  | [d] => { results := [.lit (.bool false)], args := [d] }
  | _ => none }
def ParamsValidScenarioMatchesReferenceWrongFalsely : Prop := paramsValidScenarioMatchesReferenceRow.holds Try.pinned (OpenSpec.ofChange paramsValidScenarioMatchesReferenceWrong)

/-- 'privitylaw12.ParamsPartitionParties': WHATEVER THE INPUT: true; the input reads as it did. -/
def paramsPartitionPartiesSpec : ChangeSpec := { name := "paramsPartitionParties", fn := fun _ => fun
  | [d1, d2] => { results := [.lit (.bool true)], args := [d1, d2] }
  | _ => none }
def paramsPartitionPartiesRow : OpenClaim := { program := "ytkkfkkicbgejaaa", sum := "7e8a0fa02923f2b4d22821bb9ee2566ceaae50844f14de099d68f540646fb0b5", func := "privity/privitylaw12.ParamsPartitionParties", spec := "paramsPartitionParties", unfollowed := true, recurses := true, apart := false }
def ParamsPartitionPartiesSaid : Prop := paramsPartitionPartiesRow.holds Try.pinned (OpenSpec.ofChange paramsPartitionPartiesSpec)

/-- ITS FALSE NEIGHBOUR: 'it returns false'. Refute it at one input. -/
def paramsPartitionPartiesWrong : ChangeSpec := { name := "paramsPartitionParties", fn := fun _ => fun
  | [d1, d2] => { results := [.lit (.bool false)], args := [d1, d2] }
  | _ => none }
def ParamsPartitionPartiesWrongFalsely : Prop := paramsPartitionPartiesRow.holds Try.pinned (OpenSpec.ofChange paramsPartitionPartiesWrong)

/-- 'privitylaw12.ParamsVanishingPolynomialRoots': WHATEVER THE INPUT: true; the input reads as it did. -/
def paramsVanishingPolynomialRootsSpec : ChangeSpec := { name := "paramsVanishingPolynomialRoots", fn := fun _ => fun
  | [d1, d2] => { results := [.lit (.bool true)], args := [d1, d2] }
  | _ => none }
def paramsVanishingPolynomialRootsRow : OpenClaim := { program := "ytkkfkkicbgejaaa", sum := "7e8a0fa02923f2b4d22821bb9ee2566ceaae50844f14de099d68f540646fb0b5", func := "privity/privitylaw12.ParamsVanishingPolynomialRoots", spec := "paramsVanishingPolynomialRoots", unfollowed := true, recurses := true, apart := false }
def ParamsVanishingPolynomialRootsSaid : Prop := paramsVanishingPolynomialRootsRow.holds Try.pinned (OpenSpec.ofChange paramsVanishingPolynomialRootsSpec)

/-- ITS FALSE NEIGHBOUR: 'it returns false'. Refute it at one input. -/
def paramsVanishingPolynomialRootsWrong : ChangeSpec := { name := "paramsVanishingPolynomialRoots", fn := fun _ => fun
  | [d1, d2] => { results := [.lit (.bool false)], args := [d1, d2] }
  | _ => none }
def ParamsVanishingPolynomialRootsWrongFalsely : Prop := paramsVanishingPolynomialRootsRow.holds Try.pinned (OpenSpec.ofChange paramsVanishingPolynomialRootsWrong)

/-- 'privitylaw12.ParamsVanishingPolynomialIdentifiesCoalition': WHATEVER THE INPUT: true; the input reads as it did. -/
def paramsVanishingPolynomialIdentifiesCoalitionSpec : ChangeSpec := { name := "paramsVanishingPolynomialIdentifiesCoalition", fn := fun _ => fun
  | [d1, d2, d3] => { results := [.lit (.bool true)], args := [d1, d2, d3] }
  | _ => none }
def paramsVanishingPolynomialIdentifiesCoalitionRow : OpenClaim := { program := "ytkkfkkicbgejaaa", sum := "7e8a0fa02923f2b4d22821bb9ee2566ceaae50844f14de099d68f540646fb0b5", func := "privity/privitylaw12.ParamsVanishingPolynomialIdentifiesCoalition", spec := "paramsVanishingPolynomialIdentifiesCoalition", unfollowed := true, recurses := true, apart := false }
def ParamsVanishingPolynomialIdentifiesCoalitionSaid : Prop := paramsVanishingPolynomialIdentifiesCoalitionRow.holds Try.pinned (OpenSpec.ofChange paramsVanishingPolynomialIdentifiesCoalitionSpec)

/-- ITS FALSE NEIGHBOUR: 'it returns false'. Refute it at one input. -/
def paramsVanishingPolynomialIdentifiesCoalitionWrong : ChangeSpec := { name := "paramsVanishingPolynomialIdentifiesCoalition", fn := fun _ => fun
  | [d1, d2, d3] => { results := [.lit (.bool false)], args := [d1, d2, d3] }
  | _ => none }
def ParamsVanishingPolynomialIdentifiesCoalitionWrongFalsely : Prop := paramsVanishingPolynomialIdentifiesCoalitionRow.holds Try.pinned (OpenSpec.ofChange paramsVanishingPolynomialIdentifiesCoalitionWrong)

/-- 'privitylaw12.ParamsScenarioWithExtraDeviation': WHATEVER THE INPUT: true; the input reads as it did. -/
def paramsScenarioWithExtraDeviationSpec : ChangeSpec := { name := "paramsScenarioWithExtraDeviation", fn := fun _ => fun
  | [d1, d2] => { results := [.lit (.bool true)], args := [d1, d2] }
  | _ => none }
def paramsScenarioWithExtraDeviationRow : OpenClaim := { program := "ytkkfkkicbgejaaa", sum := "7e8a0fa02923f2b4d22821bb9ee2566ceaae50844f14de099d68f540646fb0b5", func := "privity/privitylaw12.ParamsScenarioWithExtraDeviation", spec := "paramsScenarioWithExtraDeviation", unfollowed := true, recurses := true, apart := false }
def ParamsScenarioWithExtraDeviationSaid : Prop := paramsScenarioWithExtraDeviationRow.holds Try.pinned (OpenSpec.ofChange paramsScenarioWithExtraDeviationSpec)

/-- ITS FALSE NEIGHBOUR: 'it returns false'. Refute it at one input. -/
def paramsScenarioWithExtraDeviationWrong : ChangeSpec := { name := "paramsScenarioWithExtraDeviation", fn := fun _ => fun
  | [d1, d2] => { results := [.lit (.bool false)], args := [d1, d2] }
  | _ => none }
def ParamsScenarioWithExtraDeviationWrongFalsely : Prop := paramsScenarioWithExtraDeviationRow.holds Try.pinned (OpenSpec.ofChange paramsScenarioWithExtraDeviationWrong)

/- THE SECOND FORM. 'bulk': how many values and letters a reading holds, each counted each time it is reached (what is shared counts as often as it is met; a slice's spare places count too). A statement '..UptoSaid' is the law's where the arguments, and the package variables that the reading takes, are together of bulk at most 1048576: NARROWER than '..Said'. Prove '..Said' where nothing that the law and all that it calls make is longer than what came in: it says more and counts as full. Else prove '..UptoSaid'. A law counts once. -/
mutual
def uptoBulk {H : Type} : DataW H → Nat
  | .lit (.string bytes) => bytes.length + 1
  | .lit _ => 1
  | .nil => 1
  | .ptr d => uptoBulk d + 1
  | .slice elems spare => uptoBulkAll elems + uptoBulkAll spare + 1
  | .agg parts => uptoBulkAll parts + 1
  | .iface _ d => uptoBulk d + 1
  | .map entries => uptoBulkEntries entries + 1
  | .held _ => 1
def uptoBulkAll {H : Type} : List (DataW H) → Nat
  | [] => 0
  | d :: r => uptoBulk d + uptoBulkAll r
def uptoBulkEntries {H : Type} : List (Lit × DataW H) → Nat
  | [] => 0
  | x :: r => uptoBulkEntry x + uptoBulkEntries r
def uptoBulkEntry {H : Type} : Lit × DataW H → Nat
  | (.string bytes, d) => bytes.length + uptoBulk d + 1
  | (_, d) => uptoBulk d + 1
 end
def uptoSmall : (H : Type) → List (DataW H) → Bool := fun _ ds => decide (uptoBulkAll ds ≤ 1048576)
def OpenSpec.upto (s : _root_.Go.ChangeSpec) : _root_.Go.OpenSpec := { _root_.Go.OpenSpec.ofChange s with cond := some uptoSmall }

/-- 'privitylaw12.ParamsValidMatchesReference', WHERE WHAT IT READS IS OF BULK AT MOST 1048576: true; the input reads as it did. -/
def paramsValidMatchesReferenceUptoRow : OpenClaim := { program := "ytkkfkkicbgejaaa", sum := "7e8a0fa02923f2b4d22821bb9ee2566ceaae50844f14de099d68f540646fb0b5", func := "privity/privitylaw12.ParamsValidMatchesReference", spec := "paramsValidMatchesReference", unfollowed := true, recurses := true, apart := false, narrowed := true }
def ParamsValidMatchesReferenceUptoSaid : Prop := paramsValidMatchesReferenceUptoRow.holds Try.pinned (OpenSpec.upto paramsValidMatchesReferenceSpec)

/-- 'privitylaw12.ParamsValidScenarioMatchesReference', WHERE WHAT IT READS IS OF BULK AT MOST 1048576: true; the input reads as it did. -/
def paramsValidScenarioMatchesReferenceUptoRow : OpenClaim := { program := "ytkkfkkicbgejaaa", sum := "7e8a0fa02923f2b4d22821bb9ee2566ceaae50844f14de099d68f540646fb0b5", func := "privity/privitylaw12.ParamsValidScenarioMatchesReference", spec := "paramsValidScenarioMatchesReference", unfollowed := true, recurses := true, apart := false, narrowed := true }
def ParamsValidScenarioMatchesReferenceUptoSaid : Prop := paramsValidScenarioMatchesReferenceUptoRow.holds Try.pinned (OpenSpec.upto paramsValidScenarioMatchesReferenceSpec)

/-- 'privitylaw12.ParamsPartitionParties', WHERE WHAT IT READS IS OF BULK AT MOST 1048576: true; the input reads as it did. -/
def paramsPartitionPartiesUptoRow : OpenClaim := { program := "ytkkfkkicbgejaaa", sum := "7e8a0fa02923f2b4d22821bb9ee2566ceaae50844f14de099d68f540646fb0b5", func := "privity/privitylaw12.ParamsPartitionParties", spec := "paramsPartitionParties", unfollowed := true, recurses := true, apart := false, narrowed := true }
def ParamsPartitionPartiesUptoSaid : Prop := paramsPartitionPartiesUptoRow.holds Try.pinned (OpenSpec.upto paramsPartitionPartiesSpec)

/-- 'privitylaw12.ParamsVanishingPolynomialRoots', WHERE WHAT IT READS IS OF BULK AT MOST 1048576: true; the input reads as it did. -/
def paramsVanishingPolynomialRootsUptoRow : OpenClaim := { program := "ytkkfkkicbgejaaa", sum := "7e8a0fa02923f2b4d22821bb9ee2566ceaae50844f14de099d68f540646fb0b5", func := "privity/privitylaw12.ParamsVanishingPolynomialRoots", spec := "paramsVanishingPolynomialRoots", unfollowed := true, recurses := true, apart := false, narrowed := true }
def ParamsVanishingPolynomialRootsUptoSaid : Prop := paramsVanishingPolynomialRootsUptoRow.holds Try.pinned (OpenSpec.upto paramsVanishingPolynomialRootsSpec)

/-- 'privitylaw12.ParamsVanishingPolynomialIdentifiesCoalition', WHERE WHAT IT READS IS OF BULK AT MOST 1048576: true; the input reads as it did. -/
def paramsVanishingPolynomialIdentifiesCoalitionUptoRow : OpenClaim := { program := "ytkkfkkicbgejaaa", sum := "7e8a0fa02923f2b4d22821bb9ee2566ceaae50844f14de099d68f540646fb0b5", func := "privity/privitylaw12.ParamsVanishingPolynomialIdentifiesCoalition", spec := "paramsVanishingPolynomialIdentifiesCoalition", unfollowed := true, recurses := true, apart := false, narrowed := true }
def ParamsVanishingPolynomialIdentifiesCoalitionUptoSaid : Prop := paramsVanishingPolynomialIdentifiesCoalitionUptoRow.holds Try.pinned (OpenSpec.upto paramsVanishingPolynomialIdentifiesCoalitionSpec)

/-- 'privitylaw12.ParamsScenarioWithExtraDeviation', WHERE WHAT IT READS IS OF BULK AT MOST 1048576: true; the input reads as it did. -/
def paramsScenarioWithExtraDeviationUptoRow : OpenClaim := { program := "ytkkfkkicbgejaaa", sum := "7e8a0fa02923f2b4d22821bb9ee2566ceaae50844f14de099d68f540646fb0b5", func := "privity/privitylaw12.ParamsScenarioWithExtraDeviation", spec := "paramsScenarioWithExtraDeviation", unfollowed := true, recurses := true, apart := false, narrowed := true }
def ParamsScenarioWithExtraDeviationUptoSaid : Prop := paramsScenarioWithExtraDeviationUptoRow.holds Try.pinned (OpenSpec.upto paramsScenarioWithExtraDeviationSpec)

end Rows
end Go.Proofs.Ytkkfkkicbgejaaa
