/-
  No cell of these rows narrows 'for every input' (looked for: loops, veiled, ifaces, maps, wideKeys, modest, calm, conditions, laid).
  DERIVED. THE GIVEN ROWS OF THIS SEAT. 7 by the template 'for every input the law returns true; each argument reads behind the call as it read before'; 0 by the template 'total and deterministic' (their statements: YtpjgpfjepcidgaaTotals.lean).
  GIVEN WITH THE SEED: the statements are not yours to turn. If you find one false, say at which input.
  Laid BY PROGRAM, IN A SANDBOX (cutbox-rows.mjs): the forced cells as the released guide's own fill.sh prints them over the translation 49e5e5f8010ff9eb… (all of the seat's roots in one cut). By AI agents, Wed Nov 11 2026. No macro, syntax, notation, axiom, sorry.
-/
import Derived.Test.YtpjgpfjepcidgaaChecked
import GoSem.Claim
import GoSem.ClaimJoined
import GoSem.ClaimMapViews
import Derived.JoinedTies
import Derived.KernelRfl
namespace Go.Proofs.Ytpjgpfjepcidgaa
/- THE CELL 'sum', in the pinned program and in every row, IS THE sha256 OF THE DUMP (.gsa) THAT YtpjgpfjepcidgaaProg.lean LOADS. Nothing in Lean hashes anything: it is a label: what it is worth is what the hold of that sum in a sandbox is worth. -/
noncomputable def Try.pinned : Pinned := { name := "ytpjgpfjepcidgaa", sum := "49e5e5f8010ff9ebe6f65e89ae85bcfafe5bffe467b795a387d0e8f9377c9084", checked := Try.checked }
namespace Rows
def none {H : Type} : Left H := { results := [], args := [] }

/-- 'privitylaw05.InterpolatePassesThroughPoints': WHATEVER THE INPUT: true; the input reads as it did. -/
def interpolatePassesThroughPointsSpec : ChangeSpec := { name := "interpolatePassesThroughPoints", fn := fun _ => fun
  | [d1, d2] => { results := [.lit (.bool true)], args := [d1, d2] }
  | _ => none }
def interpolatePassesThroughPointsRow : OpenClaim := { program := "ytpjgpfjepcidgaa", sum := "49e5e5f8010ff9ebe6f65e89ae85bcfafe5bffe467b795a387d0e8f9377c9084", func := "privity/privitylaw05.InterpolatePassesThroughPoints", spec := "interpolatePassesThroughPoints", unfollowed := true, recurses := true, apart := false }
def InterpolatePassesThroughPointsSaid : Prop := interpolatePassesThroughPointsRow.holds Try.pinned (OpenSpec.ofChange interpolatePassesThroughPointsSpec)

/-- ITS FALSE NEIGHBOUR: 'it returns false'. Refute it at one input. -/
def interpolatePassesThroughPointsWrong : ChangeSpec := { name := "interpolatePassesThroughPoints", fn := fun _ => fun
  | [d1, d2] => { results := [.lit (.bool false)], args := [d1, d2] }
  | _ => none }
def InterpolatePassesThroughPointsWrongFalsely : Prop := interpolatePassesThroughPointsRow.holds Try.pinned (OpenSpec.ofChange interpolatePassesThroughPointsWrong)

/-- 'privitylaw05.InterpolateIsUnique': WHATEVER THE INPUT: true; the input reads as it did. -/
def interpolateIsUniqueSpec : ChangeSpec := { name := "interpolateIsUnique", fn := fun _ => fun
  | [d1, d2, d3] => { results := [.lit (.bool true)], args := [d1, d2, d3] }
  | _ => none }
def interpolateIsUniqueRow : OpenClaim := { program := "ytpjgpfjepcidgaa", sum := "49e5e5f8010ff9ebe6f65e89ae85bcfafe5bffe467b795a387d0e8f9377c9084", func := "privity/privitylaw05.InterpolateIsUnique", spec := "interpolateIsUnique", unfollowed := true, recurses := true, apart := false }
def InterpolateIsUniqueSaid : Prop := interpolateIsUniqueRow.holds Try.pinned (OpenSpec.ofChange interpolateIsUniqueSpec)

/-- ITS FALSE NEIGHBOUR: 'it returns false'. Refute it at one input. -/
def interpolateIsUniqueWrong : ChangeSpec := { name := "interpolateIsUnique", fn := fun _ => fun
  | [d1, d2, d3] => { results := [.lit (.bool false)], args := [d1, d2, d3] }
  | _ => none }
def InterpolateIsUniqueWrongFalsely : Prop := interpolateIsUniqueRow.holds Try.pinned (OpenSpec.ofChange interpolateIsUniqueWrong)

/-- 'privitylaw05.InterpolateWeightsSumToOne': WHATEVER THE INPUT: true; the input reads as it did. -/
def interpolateWeightsSumToOneSpec : ChangeSpec := { name := "interpolateWeightsSumToOne", fn := fun _ => fun
  | [d1, d2, d3] => { results := [.lit (.bool true)], args := [d1, d2, d3] }
  | _ => none }
def interpolateWeightsSumToOneRow : OpenClaim := { program := "ytpjgpfjepcidgaa", sum := "49e5e5f8010ff9ebe6f65e89ae85bcfafe5bffe467b795a387d0e8f9377c9084", func := "privity/privitylaw05.InterpolateWeightsSumToOne", spec := "interpolateWeightsSumToOne", unfollowed := true, recurses := true, apart := false }
def InterpolateWeightsSumToOneSaid : Prop := interpolateWeightsSumToOneRow.holds Try.pinned (OpenSpec.ofChange interpolateWeightsSumToOneSpec)

/-- ITS FALSE NEIGHBOUR: 'it returns false'. Refute it at one input. -/
def interpolateWeightsSumToOneWrong : ChangeSpec := { name := "interpolateWeightsSumToOne", fn := fun _ => fun
  | [d1, d2, d3] => { results := [.lit (.bool false)], args := [d1, d2, d3] }
  | _ => none }
def InterpolateWeightsSumToOneWrongFalsely : Prop := interpolateWeightsSumToOneRow.holds Try.pinned (OpenSpec.ofChange interpolateWeightsSumToOneWrong)

/-- 'privitylaw05.InterpolateWeightsEvaluate': WHATEVER THE INPUT: true; the input reads as it did. -/
def interpolateWeightsEvaluateSpec : ChangeSpec := { name := "interpolateWeightsEvaluate", fn := fun _ => fun
  | [d] => { results := [.lit (.bool true)], args := [d] }
  | _ => none }
def interpolateWeightsEvaluateRow : OpenClaim := { program := "ytpjgpfjepcidgaa", sum := "49e5e5f8010ff9ebe6f65e89ae85bcfafe5bffe467b795a387d0e8f9377c9084", func := "privity/privitylaw05.InterpolateWeightsEvaluate", spec := "interpolateWeightsEvaluate", unfollowed := true, recurses := true, apart := false }
def InterpolateWeightsEvaluateSaid : Prop := interpolateWeightsEvaluateRow.holds Try.pinned (OpenSpec.ofChange interpolateWeightsEvaluateSpec)

/-- ITS FALSE NEIGHBOUR: 'it returns false'. Refute it at one input. -/
def interpolateWeightsEvaluateWrong : ChangeSpec := { name := "interpolateWeightsEvaluate", fn := fun _ => fun
  | [d] => { results := [.lit (.bool false)], args := [d] }
  | _ => none }
def InterpolateWeightsEvaluateWrongFalsely : Prop := interpolateWeightsEvaluateRow.holds Try.pinned (OpenSpec.ofChange interpolateWeightsEvaluateWrong)

/-- 'privitylaw05.InterpolateIsLinear': WHATEVER THE INPUT: true; the input reads as it did. -/
def interpolateIsLinearSpec : ChangeSpec := { name := "interpolateIsLinear", fn := fun _ => fun
  | [d1, d2, d3] => { results := [.lit (.bool true)], args := [d1, d2, d3] }
  | _ => none }
def interpolateIsLinearRow : OpenClaim := { program := "ytpjgpfjepcidgaa", sum := "49e5e5f8010ff9ebe6f65e89ae85bcfafe5bffe467b795a387d0e8f9377c9084", func := "privity/privitylaw05.InterpolateIsLinear", spec := "interpolateIsLinear", unfollowed := true, recurses := true, apart := false }
def InterpolateIsLinearSaid : Prop := interpolateIsLinearRow.holds Try.pinned (OpenSpec.ofChange interpolateIsLinearSpec)

/-- ITS FALSE NEIGHBOUR: 'it returns false'. Refute it at one input. -/
def interpolateIsLinearWrong : ChangeSpec := { name := "interpolateIsLinear", fn := fun _ => fun
  | [d1, d2, d3] => { results := [.lit (.bool false)], args := [d1, d2, d3] }
  | _ => none }
def InterpolateIsLinearWrongFalsely : Prop := interpolateIsLinearRow.holds Try.pinned (OpenSpec.ofChange interpolateIsLinearWrong)

/-- 'privitylaw05.InterpolateVandermondeEvaluates': WHATEVER THE INPUT: true; the input reads as it did. -/
def interpolateVandermondeEvaluatesSpec : ChangeSpec := { name := "interpolateVandermondeEvaluates", fn := fun _ => fun
  | [d1, d2, d3] => { results := [.lit (.bool true)], args := [d1, d2, d3] }
  | _ => none }
def interpolateVandermondeEvaluatesRow : OpenClaim := { program := "ytpjgpfjepcidgaa", sum := "49e5e5f8010ff9ebe6f65e89ae85bcfafe5bffe467b795a387d0e8f9377c9084", func := "privity/privitylaw05.InterpolateVandermondeEvaluates", spec := "interpolateVandermondeEvaluates", unfollowed := true, recurses := true, apart := false }
def InterpolateVandermondeEvaluatesSaid : Prop := interpolateVandermondeEvaluatesRow.holds Try.pinned (OpenSpec.ofChange interpolateVandermondeEvaluatesSpec)

/-- ITS FALSE NEIGHBOUR: 'it returns false'. Refute it at one input. -/
def interpolateVandermondeEvaluatesWrong : ChangeSpec := { name := "interpolateVandermondeEvaluates", fn := fun _ => fun
  | [d1, d2, d3] => { results := [.lit (.bool false)], args := [d1, d2, d3] }
  | _ => none }
def InterpolateVandermondeEvaluatesWrongFalsely : Prop := interpolateVandermondeEvaluatesRow.holds Try.pinned (OpenSpec.ofChange interpolateVandermondeEvaluatesWrong)

/-- 'privitylaw05.InterpolateExtraPoint': WHATEVER THE INPUT: true; the input reads as it did. -/
def interpolateExtraPointSpec : ChangeSpec := { name := "interpolateExtraPoint", fn := fun _ => fun
  | [d1, d2, d3] => { results := [.lit (.bool true)], args := [d1, d2, d3] }
  | _ => none }
def interpolateExtraPointRow : OpenClaim := { program := "ytpjgpfjepcidgaa", sum := "49e5e5f8010ff9ebe6f65e89ae85bcfafe5bffe467b795a387d0e8f9377c9084", func := "privity/privitylaw05.InterpolateExtraPoint", spec := "interpolateExtraPoint", unfollowed := true, recurses := true, apart := false }
def InterpolateExtraPointSaid : Prop := interpolateExtraPointRow.holds Try.pinned (OpenSpec.ofChange interpolateExtraPointSpec)

/-- ITS FALSE NEIGHBOUR: 'it returns false'. Refute it at one input. -/
def interpolateExtraPointWrong : ChangeSpec := { name := "interpolateExtraPoint", fn := fun _ => fun
  | [d1, d2, d3] => { results := [.lit (.bool false)], args := [d1, d2, d3] }
  | _ => none }
def InterpolateExtraPointWrongFalsely : Prop := interpolateExtraPointRow.holds Try.pinned (OpenSpec.ofChange interpolateExtraPointWrong)

/- THE SECOND FORM. 'bulk': how many values and letters a reading holds, each counted each time it is reached (what is shared counts as often as it is met; a slice's spare places count too). A statement '..UptoSaid' is the law's where the arguments, and the package variables that the reading takes, are together of bulk at most 1048576: NARROWER than '..Said'. Prove '..Said' where nothing that the law and all that it calls make is longer than what came in: it says more and counts as full. Else prove '..UptoSaid'. A law counts once. -/
mutual
def uptoBulk {H : Type} : DataW H → Nat
  | .lit (.string bytes) => bytes.length + 1
  | .lit _ => 1
  | .nil => 1
  | .ptr d => uptoBulk d + 1
  | .slice elems spare => uptoBulkAll elems + uptoBulkAll spare + 1
  | .agg parts => uptoBulkAll parts + 1
  | .iface _ d => uptoBulk d + 1
  | .map entries => uptoBulkEntries entries + 1
  | .held _ => 1
def uptoBulkAll {H : Type} : List (DataW H) → Nat
  | [] => 0
  | d :: r => uptoBulk d + uptoBulkAll r
def uptoBulkEntries {H : Type} : List (Lit × DataW H) → Nat
  | [] => 0
  | x :: r => uptoBulkEntry x + uptoBulkEntries r
def uptoBulkEntry {H : Type} : Lit × DataW H → Nat
  | (.string bytes, d) => bytes.length + uptoBulk d + 1
  | (_, d) => uptoBulk d + 1
 end
def uptoSmall : (H : Type) → List (DataW H) → Bool := fun _ ds => decide (uptoBulkAll ds ≤ 1048576)
def OpenSpec.upto (s : _root_.Go.ChangeSpec) : _root_.Go.OpenSpec := { _root_.Go.OpenSpec.ofChange s with cond := some uptoSmall }

/-- 'privitylaw05.InterpolatePassesThroughPoints', WHERE WHAT IT READS IS OF BULK AT MOST 1048576: true; the input reads as it did. -/
def interpolatePassesThroughPointsUptoRow : OpenClaim := { program := "ytpjgpfjepcidgaa", sum := "49e5e5f8010ff9ebe6f65e89ae85bcfafe5bffe467b795a387d0e8f9377c9084", func := "privity/privitylaw05.InterpolatePassesThroughPoints", spec := "interpolatePassesThroughPoints", unfollowed := true, recurses := true, apart := false, narrowed := true }
def InterpolatePassesThroughPointsUptoSaid : Prop := interpolatePassesThroughPointsUptoRow.holds Try.pinned (OpenSpec.upto interpolatePassesThroughPointsSpec)

/-- 'privitylaw05.InterpolateIsUnique', WHERE WHAT IT READS IS OF BULK AT MOST 1048576: true; the input reads as it did. -/
def interpolateIsUniqueUptoRow : OpenClaim := { program := "ytpjgpfjepcidgaa", sum := "49e5e5f8010ff9ebe6f65e89ae85bcfafe5bffe467b795a387d0e8f9377c9084", func := "privity/privitylaw05.InterpolateIsUnique", spec := "interpolateIsUnique", unfollowed := true, recurses := true, apart := false, narrowed := true }
def InterpolateIsUniqueUptoSaid : Prop := interpolateIsUniqueUptoRow.holds Try.pinned (OpenSpec.upto interpolateIsUniqueSpec)

/-- 'privitylaw05.InterpolateWeightsSumToOne', WHERE WHAT IT READS IS OF BULK AT MOST 1048576: true; the input reads as it did. -/
def interpolateWeightsSumToOneUptoRow : OpenClaim := { program := "ytpjgpfjepcidgaa", sum := "49e5e5f8010ff9ebe6f65e89ae85bcfafe5bffe467b795a387d0e8f9377c9084", func := "privity/privitylaw05.InterpolateWeightsSumToOne", spec := "interpolateWeightsSumToOne", unfollowed := true, recurses := true, apart := false, narrowed := true }
def InterpolateWeightsSumToOneUptoSaid : Prop := interpolateWeightsSumToOneUptoRow.holds Try.pinned (OpenSpec.upto interpolateWeightsSumToOneSpec)

/-- 'privitylaw05.InterpolateWeightsEvaluate', WHERE WHAT IT READS IS OF BULK AT MOST 1048576: true; the input reads as it did. -/
def interpolateWeightsEvaluateUptoRow : OpenClaim := { program := "ytpjgpfjepcidgaa", sum := "49e5e5f8010ff9ebe6f65e89ae85bcfafe5bffe467b795a387d0e8f9377c9084", func := "privity/privitylaw05.InterpolateWeightsEvaluate", spec := "interpolateWeightsEvaluate", unfollowed := true, recurses := true, apart := false, narrowed := true }
def InterpolateWeightsEvaluateUptoSaid : Prop := interpolateWeightsEvaluateUptoRow.holds Try.pinned (OpenSpec.upto interpolateWeightsEvaluateSpec)

/-- 'privitylaw05.InterpolateIsLinear', WHERE WHAT IT READS IS OF BULK AT MOST 1048576: true; the input reads as it did. -/
def interpolateIsLinearUptoRow : OpenClaim := { program := "ytpjgpfjepcidgaa", sum := "49e5e5f8010ff9ebe6f65e89ae85bcfafe5bffe467b795a387d0e8f9377c9084", func := "privity/privitylaw05.InterpolateIsLinear", spec := "interpolateIsLinear", unfollowed := true, recurses := true, apart := false, narrowed := true }
def InterpolateIsLinearUptoSaid : Prop := interpolateIsLinearUptoRow.holds Try.pinned (OpenSpec.upto interpolateIsLinearSpec)

/-- 'privitylaw05.InterpolateVandermondeEvaluates', WHERE WHAT IT READS IS OF BULK AT MOST 1048576: true; the input reads as it did. -/
def interpolateVandermondeEvaluatesUptoRow : OpenClaim := { program := "ytpjgpfjepcidgaa", sum := "49e5e5f8010ff9ebe6f65e89ae85bcfafe5bffe467b795a387d0e8f9377c9084", func := "privity/privitylaw05.InterpolateVandermondeEvaluates", spec := "interpolateVandermondeEvaluates", unfollowed := true, recurses := true, apart := false, narrowed := true }
def InterpolateVandermondeEvaluatesUptoSaid : Prop := interpolateVandermondeEvaluatesUptoRow.holds Try.pinned (OpenSpec.upto interpolateVandermondeEvaluatesSpec)

/-- 'privitylaw05.InterpolateExtraPoint', WHERE WHAT IT READS IS OF BULK AT MOST 1048576: true; the input reads as it did. -/
def interpolateExtraPointUptoRow : OpenClaim := { program := "ytpjgpfjepcidgaa", sum := "49e5e5f8010ff9ebe6f65e89ae85bcfafe5bffe467b795a387d0e8f9377c9084", func := "privity/privitylaw05.InterpolateExtraPoint", spec := "interpolateExtraPoint", unfollowed := true, recurses := true, apart := false, narrowed := true }
def InterpolateExtraPointUptoSaid : Prop := interpolateExtraPointUptoRow.holds Try.pinned (OpenSpec.upto interpolateExtraPointSpec)

end Rows
end Go.Proofs.Ytpjgpfjepcidgaa
