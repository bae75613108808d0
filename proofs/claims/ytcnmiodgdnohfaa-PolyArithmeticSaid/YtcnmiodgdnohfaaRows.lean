/-
  No cell of these rows narrows 'for every input' (looked for: loops, veiled, ifaces, maps, wideKeys, modest, calm, conditions, laid).
  DERIVED. THE GIVEN ROWS OF THIS SEAT. 7 by the template 'for every input the law returns true; each argument reads behind the call as it read before'; 0 by the template 'total and deterministic' (their statements: YtcnmiodgdnohfaaTotals.lean).
  GIVEN WITH THE SEED: the statements are not yours to turn. If you find one false, say at which input.
  Laid BY PROGRAM, IN A SANDBOX (cutbox-rows.mjs): the forced cells as the released guide's own fill.sh prints them over the translation e87eb917e0ade55c… (all of the seat's roots in one cut). By AI agents, Wed Nov 11 2026. No macro, syntax, notation, axiom, sorry.
-/
import Derived.Test.YtcnmiodgdnohfaaChecked
import GoSem.Claim
import GoSem.ClaimJoined
import GoSem.ClaimMapViews
import Derived.JoinedTies
import Derived.KernelRfl
namespace Go.Proofs.Ytcnmiodgdnohfaa
/- THE CELL 'sum', in the pinned program and in every row, IS THE sha256 OF THE DUMP (.gsa) THAT YtcnmiodgdnohfaaProg.lean LOADS. Nothing in Lean hashes anything: it is a label: what it is worth is what the hold of that sum in a sandbox is worth. -/
noncomputable def Try.pinned : Pinned := { name := "ytcnmiodgdnohfaa", sum := "e87eb917e0ade55cf3f7b24396eff3ea1b49cac583133dcaf71d5ae3914e2bea", checked := Try.checked }
namespace Rows
def none {H : Type} : Left H := { results := [], args := [] }

/-- 'privitylaw04.PolyTrim': WHATEVER THE INPUT: true; the input reads as it did. -/
def polyTrimSpec : ChangeSpec := { name := "polyTrim", fn := fun _ => fun
  | [d1, d2] => { results := [.lit (.bool true)], args := [d1, d2] }
  | _ => none }
def polyTrimRow : OpenClaim := { program := "ytcnmiodgdnohfaa", sum := "e87eb917e0ade55cf3f7b24396eff3ea1b49cac583133dcaf71d5ae3914e2bea", func := "privity/privitylaw04.PolyTrim", spec := "polyTrim", unfollowed := true, recurses := true, apart := false }
def PolyTrimSaid : Prop := polyTrimRow.holds Try.pinned (OpenSpec.ofChange polyTrimSpec)

/-- ITS FALSE NEIGHBOUR: 'it returns false'. Refute it at one input. -/
def polyTrimWrong : ChangeSpec := { name := "polyTrim", fn := fun _ => fun
  | [d1, d2] => { results := [.lit (.bool false)], args := [d1, d2] }
  | _ => none }
def PolyTrimWrongFalsely : Prop := polyTrimRow.holds Try.pinned (OpenSpec.ofChange polyTrimWrong)

/-- 'privitylaw04.PolyArithmetic': WHATEVER THE INPUT: true; the input reads as it did. -/
def polyArithmeticSpec : ChangeSpec := { name := "polyArithmetic", fn := fun _ => fun
  | [d] => { results := [.lit (.bool true)], args := [d] }
  | _ => none }
def polyArithmeticRow : OpenClaim := { program := "ytcnmiodgdnohfaa", sum := "e87eb917e0ade55cf3f7b24396eff3ea1b49cac583133dcaf71d5ae3914e2bea", func := "privity/privitylaw04.PolyArithmetic", spec := "polyArithmetic", unfollowed := true, recurses := true, apart := false }
def PolyArithmeticSaid : Prop := polyArithmeticRow.holds Try.pinned (OpenSpec.ofChange polyArithmeticSpec)

/-- ITS FALSE NEIGHBOUR: 'it returns false'. Refute it at one input. -/
def polyArithmeticWrong : ChangeSpec := { name := "polyArithmetic", fn := fun _ => fun
  | [d] => { results := [.lit (.bool false)], args := [d] }
  | _ => none }
def PolyArithmeticWrongFalsely : Prop := polyArithmeticRow.holds Try.pinned (OpenSpec.ofChange polyArithmeticWrong)

/-- 'privitylaw04.PolyDivMod': WHATEVER THE INPUT: true; the input reads as it did. -/
def polyDivModSpec : ChangeSpec := { name := "polyDivMod", fn := fun _ => fun
  | [d] => { results := [.lit (.bool true)], args := [d] }
  | _ => none }
def polyDivModRow : OpenClaim := { program := "ytcnmiodgdnohfaa", sum := "e87eb917e0ade55cf3f7b24396eff3ea1b49cac583133dcaf71d5ae3914e2bea", func := "privity/privitylaw04.PolyDivMod", spec := "polyDivMod", unfollowed := true, recurses := true, apart := false }
def PolyDivModSaid : Prop := polyDivModRow.holds Try.pinned (OpenSpec.ofChange polyDivModSpec)

/-- ITS FALSE NEIGHBOUR: 'it returns false'. Refute it at one input. -/
def polyDivModWrong : ChangeSpec := { name := "polyDivMod", fn := fun _ => fun
  | [d] => { results := [.lit (.bool false)], args := [d] }
  | _ => none }
def PolyDivModWrongFalsely : Prop := polyDivModRow.holds Try.pinned (OpenSpec.ofChange polyDivModWrong)

/-- 'privitylaw04.PolyRing': WHATEVER THE INPUT: true; the input reads as it did. -/
def polyRingSpec : ChangeSpec := { name := "polyRing", fn := fun _ => fun
  | [d] => { results := [.lit (.bool true)], args := [d] }
  | _ => none }
def polyRingRow : OpenClaim := { program := "ytcnmiodgdnohfaa", sum := "e87eb917e0ade55cf3f7b24396eff3ea1b49cac583133dcaf71d5ae3914e2bea", func := "privity/privitylaw04.PolyRing", spec := "polyRing", unfollowed := true, recurses := true, apart := false }
def PolyRingSaid : Prop := polyRingRow.holds Try.pinned (OpenSpec.ofChange polyRingSpec)

/-- ITS FALSE NEIGHBOUR: 'it returns false'. Refute it at one input. -/
def polyRingWrong : ChangeSpec := { name := "polyRing", fn := fun _ => fun
  | [d] => { results := [.lit (.bool false)], args := [d] }
  | _ => none }
def PolyRingWrongFalsely : Prop := polyRingRow.holds Try.pinned (OpenSpec.ofChange polyRingWrong)

/-- 'privitylaw04.PolyEvalHomomorphism': WHATEVER THE INPUT: true; the input reads as it did. -/
def polyEvalHomomorphismSpec : ChangeSpec := { name := "polyEvalHomomorphism", fn := fun _ => fun
  | [d] => { results := [.lit (.bool true)], args := [d] }
  | _ => none }
def polyEvalHomomorphismRow : OpenClaim := { program := "ytcnmiodgdnohfaa", sum := "e87eb917e0ade55cf3f7b24396eff3ea1b49cac583133dcaf71d5ae3914e2bea", func := "privity/privitylaw04.PolyEvalHomomorphism", spec := "polyEvalHomomorphism", unfollowed := true, recurses := true, apart := false }
def PolyEvalHomomorphismSaid : Prop := polyEvalHomomorphismRow.holds Try.pinned (OpenSpec.ofChange polyEvalHomomorphismSpec)

/-- ITS FALSE NEIGHBOUR: 'it returns false'. Refute it at one input. -/
def polyEvalHomomorphismWrong : ChangeSpec := { name := "polyEvalHomomorphism", fn := fun _ => fun
  | [d] => { results := [.lit (.bool false)], args := [d] }
  | _ => none }
def PolyEvalHomomorphismWrongFalsely : Prop := polyEvalHomomorphismRow.holds Try.pinned (OpenSpec.ofChange polyEvalHomomorphismWrong)

/-- 'privitylaw04.PolyDivisionAlgorithm': WHATEVER THE INPUT: true; the input reads as it did. -/
def polyDivisionAlgorithmSpec : ChangeSpec := { name := "polyDivisionAlgorithm", fn := fun _ => fun
  | [d] => { results := [.lit (.bool true)], args := [d] }
  | _ => none }
def polyDivisionAlgorithmRow : OpenClaim := { program := "ytcnmiodgdnohfaa", sum := "e87eb917e0ade55cf3f7b24396eff3ea1b49cac583133dcaf71d5ae3914e2bea", func := "privity/privitylaw04.PolyDivisionAlgorithm", spec := "polyDivisionAlgorithm", unfollowed := true, recurses := true, apart := false }
def PolyDivisionAlgorithmSaid : Prop := polyDivisionAlgorithmRow.holds Try.pinned (OpenSpec.ofChange polyDivisionAlgorithmSpec)

/-- ITS FALSE NEIGHBOUR: 'it returns false'. Refute it at one input. -/
def polyDivisionAlgorithmWrong : ChangeSpec := { name := "polyDivisionAlgorithm", fn := fun _ => fun
  | [d] => { results := [.lit (.bool false)], args := [d] }
  | _ => none }
def PolyDivisionAlgorithmWrongFalsely : Prop := polyDivisionAlgorithmRow.holds Try.pinned (OpenSpec.ofChange polyDivisionAlgorithmWrong)

/-- 'privitylaw04.PolyZeros': WHATEVER THE INPUT: true; the input reads as it did. -/
def polyZerosSpec : ChangeSpec := { name := "polyZeros", fn := fun _ => fun
  | [d] => { results := [.lit (.bool true)], args := [d] }
  | _ => none }
def polyZerosRow : OpenClaim := { program := "ytcnmiodgdnohfaa", sum := "e87eb917e0ade55cf3f7b24396eff3ea1b49cac583133dcaf71d5ae3914e2bea", func := "privity/privitylaw04.PolyZeros", spec := "polyZeros", unfollowed := true, recurses := true, apart := false }
def PolyZerosSaid : Prop := polyZerosRow.holds Try.pinned (OpenSpec.ofChange polyZerosSpec)

/-- ITS FALSE NEIGHBOUR: 'it returns false'. Refute it at one input. -/
def polyZerosWrong : ChangeSpec := { name := "polyZeros", fn := fun _ => fun
  | [d] => { results := [.lit (.bool false)], args := [d] }
  | _ => none }
def PolyZerosWrongFalsely : Prop := polyZerosRow.holds Try.pinned (OpenSpec.ofChange polyZerosWrong)

/- THE SECOND FORM. 'bulk': how many values and letters a reading holds, each counted each time it is reached (what is shared counts as often as it is met; a slice's spare places count too). A statement '..UptoSaid' is the law's where the arguments, and the package variables that the reading takes, are together of bulk at most 1048576: NARROWER than '..Said'. Prove '..Said' where nothing that the law and all that it calls make is longer than what came in: it says more and counts as full. Else prove '..UptoSaid'. A law counts once. -/
mutual
def uptoBulk {H : Type} : DataW H → Nat
  | .lit (.string bytes) => bytes.length + 1
  | .lit _ => 1
  | .nil => 1
  | .ptr d => uptoBulk d + 1
  | .slice elems spare => uptoBulkAll elems + uptoBulkAll spare + 1
  | .agg parts => uptoBulkAll parts + 1
  | .iface _ d => uptoBulk d + 1
  | .map entries => uptoBulkEntries entries + 1
  | .held _ => 1
def uptoBulkAll {H : Type} : List (DataW H) → Nat
  | [] => 0
  | d :: r => uptoBulk d + uptoBulkAll r
def uptoBulkEntries {H : Type} : List (Lit × DataW H) → Nat
  | [] => 0
  | x :: r => uptoBulkEntry x + uptoBulkEntries r
def uptoBulkEntry {H : Type} : Lit × DataW H → Nat
  | (.string bytes, d) => bytes.length + uptoBulk d + 1
  | (_, d) => uptoBulk d + 1
 end
def uptoSmall : (H : Type) → List (DataW H) → Bool := fun _ ds => decide (uptoBulkAll ds ≤ 1048576)
def OpenSpec.upto (s : _root_.Go.ChangeSpec) : _root_.Go.OpenSpec := { _root_.Go.OpenSpec.ofChange s with cond := some uptoSmall }

/-- 'privitylaw04.PolyTrim', WHERE WHAT IT READS IS OF BULK AT MOST 1048576: true; the input reads as it did. -/
def polyTrimUptoRow : OpenClaim := { program := "ytcnmiodgdnohfaa", sum := "e87eb917e0ade55cf3f7b24396eff3ea1b49cac583133dcaf71d5ae3914e2bea", func := "privity/privitylaw04.PolyTrim", spec := "polyTrim", unfollowed := true, recurses := true, apart := false, narrowed := true }
def PolyTrimUptoSaid : Prop := polyTrimUptoRow.holds Try.pinned (OpenSpec.upto polyTrimSpec)

/-- 'privitylaw04.PolyArithmetic', WHERE WHAT IT READS IS OF BULK AT MOST 1048576: true; the input reads as it did. -/
def polyArithmeticUptoRow : OpenClaim := { program := "ytcnmiodgdnohfaa", sum := "e87eb917e0ade55cf3f7b24396eff3ea1b49cac583133dcaf71d5ae3914e2bea", func := "privity/privitylaw04.PolyArithmetic", spec := "polyArithmetic", unfollowed := true, recurses := true, apart := false, narrowed := true }
def PolyArithmeticUptoSaid : Prop := polyArithmeticUptoRow.holds Try.pinned (OpenSpec.upto polyArithmeticSpec)

/-- 'privitylaw04.PolyDivMod', WHERE WHAT IT READS IS OF BULK AT MOST 1048576: true; the input reads as it did. -/
def polyDivModUptoRow : OpenClaim := { program := "ytcnmiodgdnohfaa", sum := "e87eb917e0ade55cf3f7b24396eff3ea1b49cac583133dcaf71d5ae3914e2bea", func := "privity/privitylaw04.PolyDivMod", spec := "polyDivMod", unfollowed := true, recurses := true, apart := false, narrowed := true }
def PolyDivModUptoSaid : Prop := polyDivModUptoRow.holds Try.pinned (OpenSpec.upto polyDivModSpec)

/-- 'privitylaw04.PolyRing', WHERE WHAT IT READS IS OF BULK AT MOST 1048576: true; the input reads as it did. -/
def polyRingUptoRow : OpenClaim := { program := "ytcnmiodgdnohfaa", sum := "e87eb917e0ade55cf3f7b24396eff3ea1b49cac583133dcaf71d5ae3914e2bea", func := "privity/privitylaw04.PolyRing", spec := "polyRing", unfollowed := true, recurses := true, apart := false, narrowed := true }
def PolyRingUptoSaid : Prop := polyRingUptoRow.holds Try.pinned (OpenSpec.upto polyRingSpec)

/-- 'privitylaw04.PolyEvalHomomorphism', WHERE WHAT IT READS IS OF BULK AT MOST 1048576: true; the input reads as it did. -/
def polyEvalHomomorphismUptoRow : OpenClaim := { program := "ytcnmiodgdnohfaa", sum := "e87eb917e0ade55cf3f7b24396eff3ea1b49cac583133dcaf71d5ae3914e2bea", func := "privity/privitylaw04.PolyEvalHomomorphism", spec := "polyEvalHomomorphism", unfollowed := true, recurses := true, apart := false, narrowed := true }
def PolyEvalHomomorphismUptoSaid : Prop := polyEvalHomomorphismUptoRow.holds Try.pinned (OpenSpec.upto polyEvalHomomorphismSpec)

/-- 'privitylaw04.PolyDivisionAlgorithm', WHERE WHAT IT READS IS OF BULK AT MOST 1048576: true; the input reads as it did. -/
def polyDivisionAlgorithmUptoRow : OpenClaim := { program := "ytcnmiodgdnohfaa", sum := "e87eb917e0ade55cf3f7b24396eff3ea1b49cac583133dcaf71d5ae3914e2bea", func := "privity/privitylaw04.PolyDivisionAlgorithm", spec := "polyDivisionAlgorithm", unfollowed := true, recurses := true, apart := false, narrowed := true }
def PolyDivisionAlgorithmUptoSaid : Prop := polyDivisionAlgorithmUptoRow.holds Try.pinned (OpenSpec.upto polyDivisionAlgorithmSpec)

/-- 'privitylaw04.PolyZeros', WHERE WHAT IT READS IS OF BULK AT MOST 1048576: true; the input reads as it did. -/
def polyZerosUptoRow : OpenClaim := { program := "ytcnmiodgdnohfaa", sum := "e87eb917e0ade55cf3f7b24396eff3ea1b49cac583133dcaf71d5ae3914e2bea", func := "privity/privitylaw04.PolyZeros", spec := "polyZeros", unfollowed := true, recurses := true, apart := false, narrowed := true }
def PolyZerosUptoSaid : Prop := polyZerosUptoRow.holds Try.pinned (OpenSpec.upto polyZerosSpec)

end Rows
end Go.Proofs.Ytcnmiodgdnohfaa
