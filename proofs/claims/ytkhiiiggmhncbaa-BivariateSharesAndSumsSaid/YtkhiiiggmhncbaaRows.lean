/-
  No cell of these rows narrows 'for every input' (looked for: loops, veiled, ifaces, maps, wideKeys, modest, calm, conditions, laid).
  DERIVED. THE GIVEN ROWS OF THIS SEAT. 9 by the template 'for every input the law returns true; each argument reads behind the call as it read before'; 0 by the template 'total and deterministic' (their statements: YtkhiiiggmhncbaaTotals.lean).
  GIVEN WITH THE SEED: the statements are not yours to turn. If you find one false, say at which input.
  Laid BY PROGRAM, IN A SANDBOX (cutbox-rows.mjs): the forced cells as the released guide's own fill.sh prints them over the translation fc06f35cdd55d2f0… (all of the seat's roots in one cut). By AI agents, Wed Nov 11 2026. No macro, syntax, notation, axiom, sorry.
-/
import Derived.Test.YtkhiiiggmhncbaaChecked
import GoSem.Claim
import GoSem.ClaimJoined
import GoSem.ClaimMapViews
import Derived.JoinedTies
import Derived.KernelRfl
namespace Go.Proofs.Ytkhiiiggmhncbaa
/- THE CELL 'sum', in the pinned program and in every row, IS THE sha256 OF THE DUMP (.gsa) THAT YtkhiiiggmhncbaaProg.lean LOADS. Nothing in Lean hashes anything: it is a label: what it is worth is what the hold of that sum in a sandbox is worth. -/
noncomputable def Try.pinned : Pinned := { name := "ytkhiiiggmhncbaa", sum := "fc06f35cdd55d2f0c362529095ea8da833e879b62cb482c5b6da019f240d0065", checked := Try.checked }
namespace Rows
def none {H : Type} : Left H := { results := [], args := [] }

/-- 'privitylaw10.BivariateNew': WHATEVER THE INPUT: true; the input reads as it did. -/
def bivariateNewSpec : ChangeSpec := { name := "bivariateNew", fn := fun _ => fun
  | [d1, d2] => { results := [.lit (.bool true)], args := [d1, d2] }
  | _ => none }
def bivariateNewRow : OpenClaim := { program := "ytkhiiiggmhncbaa", sum := "fc06f35cdd55d2f0c362529095ea8da833e879b62cb482c5b6da019f240d0065", func := "privity/privitylaw10.BivariateNew", spec := "bivariateNew", unfollowed := true, recurses := true, apart := false }
def BivariateNewSaid : Prop := bivariateNewRow.holds Try.pinned (OpenSpec.ofChange bivariateNewSpec)

/-- ITS FALSE NEIGHBOUR: 'it returns false'. Refute it at one input. -/
def bivariateNewWrong : ChangeSpec := { name := "bivariateNew", fn := fun _ => fun
  | [d1, d2] => { results := [.lit (.bool false)], args := [d1, d2] }
  | _ => none }
def BivariateNewWrongFalsely : Prop := bivariateNewRow.holds Try.pinned (OpenSpec.ofChange bivariateNewWrong)

/-- 'privitylaw10.BivariateIsSymmetric': WHATEVER THE INPUT: true; the input reads as it did. -/
def bivariateIsSymmetricSpec : ChangeSpec := { name := "bivariateIsSymmetric", fn := fun _ => fun
  | [d] => { results := [.lit (.bool true)], args := [d] }
  | _ => none }
def bivariateIsSymmetricRow : OpenClaim := { program := "ytkhiiiggmhncbaa", sum := "fc06f35cdd55d2f0c362529095ea8da833e879b62cb482c5b6da019f240d0065", func := "privity/privitylaw10.BivariateIsSymmetric", spec := "bivariateIsSymmetric", unfollowed := true, recurses := true, apart := false }
def BivariateIsSymmetricSaid : Prop := bivariateIsSymmetricRow.holds Try.pinned (OpenSpec.ofChange bivariateIsSymmetricSpec)

/-- ITS FALSE NEIGHBOUR: 'it returns false'. Refute it at one input. -/
def bivariateIsSymmetricWrong : ChangeSpec := { name := "bivariateIsSymmetric", fn := fun _ => fun
  | [d] => { results := [.lit (.bool false)], args := [d] }
  | _ => none }
def BivariateIsSymmetricWrongFalsely : Prop := bivariateIsSymmetricRow.holds Try.pinned (OpenSpec.ofChange bivariateIsSymmetricWrong)

/-- 'privitylaw10.BivariateRowAndEval': WHATEVER THE INPUT: true; the input reads as it did. -/
def bivariateRowAndEvalSpec : ChangeSpec := { name := "bivariateRowAndEval", fn := fun _ => fun
  | [d1, d2, d3] => { results := [.lit (.bool true)], args := [d1, d2, d3] }
  | _ => none }
def bivariateRowAndEvalRow : OpenClaim := { program := "ytkhiiiggmhncbaa", sum := "fc06f35cdd55d2f0c362529095ea8da833e879b62cb482c5b6da019f240d0065", func := "privity/privitylaw10.BivariateRowAndEval", spec := "bivariateRowAndEval", unfollowed := true, recurses := true, apart := false }
def BivariateRowAndEvalSaid : Prop := bivariateRowAndEvalRow.holds Try.pinned (OpenSpec.ofChange bivariateRowAndEvalSpec)

/-- ITS FALSE NEIGHBOUR: 'it returns false'. Refute it at one input. -/
def bivariateRowAndEvalWrong : ChangeSpec := { name := "bivariateRowAndEval", fn := fun _ => fun
  | [d1, d2, d3] => { results := [.lit (.bool false)], args := [d1, d2, d3] }
  | _ => none }
def BivariateRowAndEvalWrongFalsely : Prop := bivariateRowAndEvalRow.holds Try.pinned (OpenSpec.ofChange bivariateRowAndEvalWrong)

/-- 'privitylaw10.BivariateRowsAgree': WHATEVER THE INPUT: true; the input reads as it did. -/
def bivariateRowsAgreeSpec : ChangeSpec := { name := "bivariateRowsAgree", fn := fun _ => fun
  | [d1, d2, d3] => { results := [.lit (.bool true)], args := [d1, d2, d3] }
  | _ => none }
def bivariateRowsAgreeRow : OpenClaim := { program := "ytkhiiiggmhncbaa", sum := "fc06f35cdd55d2f0c362529095ea8da833e879b62cb482c5b6da019f240d0065", func := "privity/privitylaw10.BivariateRowsAgree", spec := "bivariateRowsAgree", unfollowed := true, recurses := true, apart := false }
def BivariateRowsAgreeSaid : Prop := bivariateRowsAgreeRow.holds Try.pinned (OpenSpec.ofChange bivariateRowsAgreeSpec)

/-- ITS FALSE NEIGHBOUR: 'it returns false'. Refute it at one input. -/
def bivariateRowsAgreeWrong : ChangeSpec := { name := "bivariateRowsAgree", fn := fun _ => fun
  | [d1, d2, d3] => { results := [.lit (.bool false)], args := [d1, d2, d3] }
  | _ => none }
def BivariateRowsAgreeWrongFalsely : Prop := bivariateRowsAgreeRow.holds Try.pinned (OpenSpec.ofChange bivariateRowsAgreeWrong)

/-- 'privitylaw10.BivariatePairwiseAgreement': WHATEVER THE INPUT: true; the input reads as it did. -/
def bivariatePairwiseAgreementSpec : ChangeSpec := { name := "bivariatePairwiseAgreement", fn := fun _ => fun
  | [d] => { results := [.lit (.bool true)], args := [d] }
  | _ => none }
def bivariatePairwiseAgreementRow : OpenClaim := { program := "ytkhiiiggmhncbaa", sum := "fc06f35cdd55d2f0c362529095ea8da833e879b62cb482c5b6da019f240d0065", func := "privity/privitylaw10.BivariatePairwiseAgreement", spec := "bivariatePairwiseAgreement", unfollowed := true, recurses := true, apart := false }
def BivariatePairwiseAgreementSaid : Prop := bivariatePairwiseAgreementRow.holds Try.pinned (OpenSpec.ofChange bivariatePairwiseAgreementSpec)

/-- ITS FALSE NEIGHBOUR: 'it returns false'. Refute it at one input. -/
def bivariatePairwiseAgreementWrong : ChangeSpec := { name := "bivariatePairwiseAgreement", fn := fun _ => fun
  | [d] => { results := [.lit (.bool false)], args := [d] }
  | _ => none }
def BivariatePairwiseAgreementWrongFalsely : Prop := bivariatePairwiseAgreementRow.holds Try.pinned (OpenSpec.ofChange bivariatePairwiseAgreementWrong)

/-- 'privitylaw10.BivariatePerfectSecrecy': WHATEVER THE INPUT: true; the input reads as it did. -/
def bivariatePerfectSecrecySpec : ChangeSpec := { name := "bivariatePerfectSecrecy", fn := fun _ => fun
  | [d] => { results := [.lit (.bool true)], args := [d] }
  | _ => none }
def bivariatePerfectSecrecyRow : OpenClaim := { program := "ytkhiiiggmhncbaa", sum := "fc06f35cdd55d2f0c362529095ea8da833e879b62cb482c5b6da019f240d0065", func := "privity/privitylaw10.BivariatePerfectSecrecy", spec := "bivariatePerfectSecrecy", unfollowed := true, recurses := true, apart := false }
def BivariatePerfectSecrecySaid : Prop := bivariatePerfectSecrecyRow.holds Try.pinned (OpenSpec.ofChange bivariatePerfectSecrecySpec)

/-- ITS FALSE NEIGHBOUR: 'it returns false'. Refute it at one input. -/
def bivariatePerfectSecrecyWrong : ChangeSpec := { name := "bivariatePerfectSecrecy", fn := fun _ => fun
  | [d] => { results := [.lit (.bool false)], args := [d] }
  | _ => none }
def BivariatePerfectSecrecyWrongFalsely : Prop := bivariatePerfectSecrecyRow.holds Try.pinned (OpenSpec.ofChange bivariatePerfectSecrecyWrong)

/-- 'privitylaw10.BivariateUniqueTranslation': WHATEVER THE INPUT: true; the input reads as it did. -/
def bivariateUniqueTranslationSpec : ChangeSpec := { name := "bivariateUniqueTranslation", fn := fun _ => fun
  | [d1, d2] => { results := [.lit (.bool true)], args := [d1, d2] }
  | _ => none }
def bivariateUniqueTranslationRow : OpenClaim := { program := "ytkhiiiggmhncbaa", sum := "fc06f35cdd55d2f0c362529095ea8da833e879b62cb482c5b6da019f240d0065", func := "privity/privitylaw10.BivariateUniqueTranslation", spec := "bivariateUniqueTranslation", unfollowed := true, recurses := true, apart := false }
def BivariateUniqueTranslationSaid : Prop := bivariateUniqueTranslationRow.holds Try.pinned (OpenSpec.ofChange bivariateUniqueTranslationSpec)

/-- ITS FALSE NEIGHBOUR: 'it returns false'. Refute it at one input. -/
def bivariateUniqueTranslationWrong : ChangeSpec := { name := "bivariateUniqueTranslation", fn := fun _ => fun
  | [d1, d2] => { results := [.lit (.bool false)], args := [d1, d2] }
  | _ => none }
def BivariateUniqueTranslationWrongFalsely : Prop := bivariateUniqueTranslationRow.holds Try.pinned (OpenSpec.ofChange bivariateUniqueTranslationWrong)

/-- 'privitylaw10.BivariateSharesAndSums': WHATEVER THE INPUT: true; the input reads as it did. -/
def bivariateSharesAndSumsSpec : ChangeSpec := { name := "bivariateSharesAndSums", fn := fun _ => fun
  | [d1, d2] => { results := [.lit (.bool true)], args := [d1, d2] }
  | _ => none }
def bivariateSharesAndSumsRow : OpenClaim := { program := "ytkhiiiggmhncbaa", sum := "fc06f35cdd55d2f0c362529095ea8da833e879b62cb482c5b6da019f240d0065", func := "privity/privitylaw10.BivariateSharesAndSums", spec := "bivariateSharesAndSums", unfollowed := true, recurses := true, apart := false }
def BivariateSharesAndSumsSaid : Prop := bivariateSharesAndSumsRow.holds Try.pinned (OpenSpec.ofChange bivariateSharesAndSumsSpec)

/-- ITS FALSE NEIGHBOUR: 'it returns false'. Refute it at one input. -/
def bivariateSharesAndSumsWrong : ChangeSpec := { name := "bivariateSharesAndSums", fn := fun _ => fun
  | [d1, d2] => { results := [.lit (.bool false)], args := [d1, d2] }
  | _ => none }
def BivariateSharesAndSumsWrongFalsely : Prop := bivariateSharesAndSumsRow.holds Try.pinned (OpenSpec.ofChange bivariateSharesAndSumsWrong)

/-- 'privitylaw10.BivariateReconstruction': WHATEVER THE INPUT: true; the input reads as it did. -/
def bivariateReconstructionSpec : ChangeSpec := { name := "bivariateReconstruction", fn := fun _ => fun
  | [d1, d2] => { results := [.lit (.bool true)], args := [d1, d2] }
  | _ => none }
def bivariateReconstructionRow : OpenClaim := { program := "ytkhiiiggmhncbaa", sum := "fc06f35cdd55d2f0c362529095ea8da833e879b62cb482c5b6da019f240d0065", func := "privity/privitylaw10.BivariateReconstruction", spec := "bivariateReconstruction", unfollowed := true, recurses := true, apart := false }
def BivariateReconstructionSaid : Prop := bivariateReconstructionRow.holds Try.pinned (OpenSpec.ofChange bivariateReconstructionSpec)

/-- ITS FALSE NEIGHBOUR: 'it returns false'. Refute it at one input. -/
def bivariateReconstructionWrong : ChangeSpec := { name := "bivariateReconstruction", fn := fun _ => fun
  | [d1, d2] => { results := [.lit (.bool false)], args := [d1, d2] }
  | _ => none }
def BivariateReconstructionWrongFalsely : Prop := bivariateReconstructionRow.holds Try.pinned (OpenSpec.ofChange bivariateReconstructionWrong)

/- THE SECOND FORM. 'bulk': how many values and letters a reading holds, each counted each time it is reached (what is shared counts as often as it is met; a slice's spare places count too). A statement '..UptoSaid' is the law's where the arguments, and the package variables that the reading takes, are together of bulk at most 1048576: NARROWER than '..Said'. Prove '..Said' where nothing that the law and all that it calls make is longer than what came in: it says more and counts as full. Else prove '..UptoSaid'. A law counts once. -/
mutual
def uptoBulk {H : Type} : DataW H → Nat
  | .lit (.string bytes) => bytes.length + 1
  | .lit _ => 1
  | .nil => 1
  | .ptr d => uptoBulk d + 1
  | .slice elems spare => uptoBulkAll elems + uptoBulkAll spare + 1
  | .agg parts => uptoBulkAll parts + 1
  | .iface _ d => uptoBulk d + 1
  | .map entries => uptoBulkEntries entries + 1
  | .held _ => 1
def uptoBulkAll {H : Type} : List (DataW H) → Nat
  | [] => 0
  | d :: r => uptoBulk d + uptoBulkAll r
def uptoBulkEntries {H : Type} : List (Lit × DataW H) → Nat
  | [] => 0
  | x :: r => uptoBulkEntry x + uptoBulkEntries r
def uptoBulkEntry {H : Type} : Lit × DataW H → Nat
  | (.string bytes, d) => bytes.length + uptoBulk d + 1
  | (_, d) => uptoBulk d + 1
 end
def uptoSmall : (H : Type) → List (DataW H) → Bool := fun _ ds => decide (uptoBulkAll ds ≤ 1048576)
def OpenSpec.upto (s : _root_.Go.ChangeSpec) : _root_.Go.OpenSpec := { _root_.Go.OpenSpec.ofChange s with cond := some uptoSmall }

/-- 'privitylaw10.BivariateNew', WHERE WHAT IT READS IS OF BULK AT MOST 1048576: true; the input reads as it did. -/
def bivariateNewUptoRow : OpenClaim := { program := "ytkhiiiggmhncbaa", sum := "fc06f35cdd55d2f0c362529095ea8da833e879b62cb482c5b6da019f240d0065", func := "privity/privitylaw10.BivariateNew", spec := "bivariateNew", unfollowed := true, recurses := true, apart := false, narrowed := true }
def BivariateNewUptoSaid : Prop := bivariateNewUptoRow.holds Try.pinned (OpenSpec.upto bivariateNewSpec)

/-- 'privitylaw10.BivariateIsSymmetric', WHERE WHAT IT READS IS OF BULK AT MOST 1048576: true; the input reads as it did. -/
def bivariateIsSymmetricUptoRow : OpenClaim := { program := "ytkhiiiggmhncbaa", sum := "fc06f35cdd55d2f0c362529095ea8da833e879b62cb482c5b6da019f240d0065", func := "privity/privitylaw10.BivariateIsSymmetric", spec := "bivariateIsSymmetric", unfollowed := true, recurses := true, apart := false, narrowed := true }
def BivariateIsSymmetricUptoSaid : Prop := bivariateIsSymmetricUptoRow.holds Try.pinned (OpenSpec.upto bivariateIsSymmetricSpec)

/-- 'privitylaw10.BivariateRowAndEval', WHERE WHAT IT READS IS OF BULK AT MOST 1048576: true; the input reads as it did. -/
def bivariateRowAndEvalUptoRow : OpenClaim := { program := "ytkhiiiggmhncbaa", sum := "fc06f35cdd55d2f0c362529095ea8da833e879b62cb482c5b6da019f240d0065", func := "privity/privitylaw10.BivariateRowAndEval", spec := "bivariateRowAndEval", unfollowed := true, recurses := true, apart := false, narrowed := true }
def BivariateRowAndEvalUptoSaid : Prop := bivariateRowAndEvalUptoRow.holds Try.pinned (OpenSpec.upto bivariateRowAndEvalSpec)

/-- 'privitylaw10.BivariateRowsAgree', WHERE WHAT IT READS IS OF BULK AT MOST 1048576: true; the input reads as it did. -/
def bivariateRowsAgreeUptoRow : OpenClaim := { program := "ytkhiiiggmhncbaa", sum := "fc06f35cdd55d2f0c362529095ea8da833e879b62cb482c5b6da019f240d0065", func := "privity/privitylaw10.BivariateRowsAgree", spec := "bivariateRowsAgree", unfollowed := true, recurses := true, apart := false, narrowed := true }
def BivariateRowsAgreeUptoSaid : Prop := bivariateRowsAgreeUptoRow.holds Try.pinned (OpenSpec.upto bivariateRowsAgreeSpec)

/-- 'privitylaw10.BivariatePairwiseAgreement', WHERE WHAT IT READS IS OF BULK AT MOST 1048576: true; the input reads as it did. -/
def bivariatePairwiseAgreementUptoRow : OpenClaim := { program := "ytkhiiiggmhncbaa", sum := "fc06f35cdd55d2f0c362529095ea8da833e879b62cb482c5b6da019f240d0065", func := "privity/privitylaw10.BivariatePairwiseAgreement", spec := "bivariatePairwiseAgreement", unfollowed := true, recurses := true, apart := false, narrowed := true }
def BivariatePairwiseAgreementUptoSaid : Prop := bivariatePairwiseAgreementUptoRow.holds Try.pinned (OpenSpec.upto bivariatePairwiseAgreementSpec)

/-- 'privitylaw10.BivariatePerfectSecrecy', WHERE WHAT IT READS IS OF BULK AT MOST 1048576: true; the input reads as it did. -/
def bivariatePerfectSecrecyUptoRow : OpenClaim := { program := "ytkhiiiggmhncbaa", sum := "fc06f35cdd55d2f0c362529095ea8da833e879b62cb482c5b6da019f240d0065", func := "privity/privitylaw10.BivariatePerfectSecrecy", spec := "bivariatePerfectSecrecy", unfollowed := true, recurses := true, apart := false, narrowed := true }
def BivariatePerfectSecrecyUptoSaid : Prop := bivariatePerfectSecrecyUptoRow.holds Try.pinned (OpenSpec.upto bivariatePerfectSecrecySpec)

/-- 'privitylaw10.BivariateUniqueTranslation', WHERE WHAT IT READS IS OF BULK AT MOST 1048576: true; the input reads as it did. -/
def bivariateUniqueTranslationUptoRow : OpenClaim := { program := "ytkhiiiggmhncbaa", sum := "fc06f35cdd55d2f0c362529095ea8da833e879b62cb482c5b6da019f240d0065", func := "privity/privitylaw10.BivariateUniqueTranslation", spec := "bivariateUniqueTranslation", unfollowed := true, recurses := true, apart := false, narrowed := true }
def BivariateUniqueTranslationUptoSaid : Prop := bivariateUniqueTranslationUptoRow.holds Try.pinned (OpenSpec.upto bivariateUniqueTranslationSpec)

/-- 'privitylaw10.BivariateSharesAndSums', WHERE WHAT IT READS IS OF BULK AT MOST 1048576: true; the input reads as it did. -/
def bivariateSharesAndSumsUptoRow : OpenClaim := { program := "ytkhiiiggmhncbaa", sum := "fc06f35cdd55d2f0c362529095ea8da833e879b62cb482c5b6da019f240d0065", func := "privity/privitylaw10.BivariateSharesAndSums", spec := "bivariateSharesAndSums", unfollowed := true, recurses := true, apart := false, narrowed := true }
def BivariateSharesAndSumsUptoSaid : Prop := bivariateSharesAndSumsUptoRow.holds Try.pinned (OpenSpec.upto bivariateSharesAndSumsSpec)

/-- 'privitylaw10.BivariateReconstruction', WHERE WHAT IT READS IS OF BULK AT MOST 1048576: true; the input reads as it did. -/
def bivariateReconstructionUptoRow : OpenClaim := { program := "ytkhiiiggmhncbaa", sum := "fc06f35cdd55d2f0c362529095ea8da833e879b62cb482c5b6da019f240d0065", func := "privity/privitylaw10.BivariateReconstruction", spec := "bivariateReconstruction", unfollowed := true, recurses := true, apart := false, narrowed := true }
def BivariateReconstructionUptoSaid : Prop := bivariateReconstructionUptoRow.holds Try.pinned (OpenSpec.upto bivariateReconstructionSpec)

end Rows
end Go.Proofs.Ytkhiiiggmhncbaa
