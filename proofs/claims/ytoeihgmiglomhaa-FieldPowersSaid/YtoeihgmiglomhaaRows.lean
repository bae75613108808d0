/-
  No cell of these rows narrows 'for every input' (looked for: loops, veiled, ifaces, maps, wideKeys, modest, calm, conditions, laid).
  DERIVED. THE GIVEN ROWS OF THIS SEAT. 7 by the template 'for every input the law returns true; each argument reads behind the call as it read before'; 0 by the template 'total and deterministic' (their statements: YtoeihgmiglomhaaTotals.lean).
  GIVEN WITH THE SEED: the statements are not yours to turn. If you find one false, say at which input.
  Laid BY PROGRAM, IN A SANDBOX (cutbox-rows.mjs): the forced cells as the released guide's own fill.sh prints them over the translation 648a99b85a9358ed… (all of the seat's roots in one cut). By AI agents, Wed Nov 11 2026. No macro, syntax, notation, axiom, sorry.
-/
import Derived.Test.YtoeihgmiglomhaaChecked
import GoSem.Claim
import GoSem.ClaimJoined
import GoSem.ClaimMapViews
import Derived.JoinedTies
import Derived.KernelRfl
namespace Go.Proofs.Ytoeihgmiglomhaa
/- THE CELL 'sum', in the pinned program and in every row, IS THE sha256 OF THE DUMP (.gsa) THAT YtoeihgmiglomhaaProg.lean LOADS. Nothing in Lean hashes anything: it is a label: what it is worth is what the hold of that sum in a sandbox is worth. -/
noncomputable def Try.pinned : Pinned := { name := "ytoeihgmiglomhaa", sum := "648a99b85a9358ed21ffa9e2716bf66b4c832327d724d2038fe1efbd7744700d", checked := Try.checked }
namespace Rows
def none {H : Type} : Left H := { results := [], args := [] }

/-- 'privitylaw01.FieldSupported': WHATEVER THE INPUT: true; the input reads as it did. -/
def fieldSupportedSpec : ChangeSpec := { name := "fieldSupported", fn := fun _ => fun
  | [d] => { results := [.lit (.bool true)], args := [d] }
  | _ => none }
def fieldSupportedRow : OpenClaim := { program := "ytoeihgmiglomhaa", sum := "648a99b85a9358ed21ffa9e2716bf66b4c832327d724d2038fe1efbd7744700d", func := "privity/privitylaw01.FieldSupported", spec := "fieldSupported", apart := false }
def FieldSupportedSaid : Prop := fieldSupportedRow.holds Try.pinned (OpenSpec.ofChange fieldSupportedSpec)

/-- ITS FALSE NEIGHBOUR: 'it returns false'. Refute it at one input. -/
def fieldSupportedWrong : ChangeSpec := { name := "fieldSupported", fn := fun _ => fun
  | [d] => { results := [.lit (.bool false)], args := [d] }
  | _ => none }
def FieldSupportedWrongFalsely : Prop := fieldSupportedRow.holds Try.pinned (OpenSpec.ofChange fieldSupportedWrong)

/-- 'privitylaw01.FieldArithmetic': WHATEVER THE INPUT: true; the input reads as it did. -/
def fieldArithmeticSpec : ChangeSpec := { name := "fieldArithmetic", fn := fun _ => fun
  | [d] => { results := [.lit (.bool true)], args := [d] }
  | _ => none }
def fieldArithmeticRow : OpenClaim := { program := "ytoeihgmiglomhaa", sum := "648a99b85a9358ed21ffa9e2716bf66b4c832327d724d2038fe1efbd7744700d", func := "privity/privitylaw01.FieldArithmetic", spec := "fieldArithmetic", apart := false }
def FieldArithmeticSaid : Prop := fieldArithmeticRow.holds Try.pinned (OpenSpec.ofChange fieldArithmeticSpec)

/-- ITS FALSE NEIGHBOUR: 'it returns false'. Refute it at one input. -/
def fieldArithmeticWrong : ChangeSpec := { name := "fieldArithmetic", fn := fun _ => fun
  | [d] => { results := [.lit (.bool false)], args := [d] }
  | _ => none }
def FieldArithmeticWrongFalsely : Prop := fieldArithmeticRow.holds Try.pinned (OpenSpec.ofChange fieldArithmeticWrong)

/-- 'privitylaw01.FieldAxioms': WHATEVER THE INPUT: true; the input reads as it did. -/
def fieldAxiomsSpec : ChangeSpec := { name := "fieldAxioms", fn := fun _ => fun
  | [d] => { results := [.lit (.bool true)], args := [d] }
  | _ => none }
def fieldAxiomsRow : OpenClaim := { program := "ytoeihgmiglomhaa", sum := "648a99b85a9358ed21ffa9e2716bf66b4c832327d724d2038fe1efbd7744700d", func := "privity/privitylaw01.FieldAxioms", spec := "fieldAxioms", apart := false }
def FieldAxiomsSaid : Prop := fieldAxiomsRow.holds Try.pinned (OpenSpec.ofChange fieldAxiomsSpec)

/-- ITS FALSE NEIGHBOUR: 'it returns false'. Refute it at one input. -/
def fieldAxiomsWrong : ChangeSpec := { name := "fieldAxioms", fn := fun _ => fun
  | [d] => { results := [.lit (.bool false)], args := [d] }
  | _ => none }
def FieldAxiomsWrongFalsely : Prop := fieldAxiomsRow.holds Try.pinned (OpenSpec.ofChange fieldAxiomsWrong)

/-- 'privitylaw01.FieldPowers': WHATEVER THE INPUT: true; the input reads as it did. -/
def fieldPowersSpec : ChangeSpec := { name := "fieldPowers", fn := fun _ => fun
  | [d] => { results := [.lit (.bool true)], args := [d] }
  | _ => none }
def fieldPowersRow : OpenClaim := { program := "ytoeihgmiglomhaa", sum := "648a99b85a9358ed21ffa9e2716bf66b4c832327d724d2038fe1efbd7744700d", func := "privity/privitylaw01.FieldPowers", spec := "fieldPowers", apart := false }
def FieldPowersSaid : Prop := fieldPowersRow.holds Try.pinned (OpenSpec.ofChange fieldPowersSpec)

/-- ITS FALSE NEIGHBOUR: 'it returns false'. Refute it at one input. -/
def fieldPowersWrong : ChangeSpec := { name := "fieldPowers", fn := fun _ => fun
  | [d] => { results := [.lit (.bool false)], args := [d] }
  | _ => none }
def FieldPowersWrongFalsely : Prop := fieldPowersRow.holds Try.pinned (OpenSpec.ofChange fieldPowersWrong)

/-- 'privitylaw01.FieldSqrt': WHATEVER THE INPUT: true; the input reads as it did. -/
def fieldSqrtSpec : ChangeSpec := { name := "fieldSqrt", fn := fun _ => fun
  | [d] => { results := [.lit (.bool true)], args := [d] }
  | _ => none }
def fieldSqrtRow : OpenClaim := { program := "ytoeihgmiglomhaa", sum := "648a99b85a9358ed21ffa9e2716bf66b4c832327d724d2038fe1efbd7744700d", func := "privity/privitylaw01.FieldSqrt", spec := "fieldSqrt", apart := false }
def FieldSqrtSaid : Prop := fieldSqrtRow.holds Try.pinned (OpenSpec.ofChange fieldSqrtSpec)

/-- ITS FALSE NEIGHBOUR: 'it returns false'. Refute it at one input. -/
def fieldSqrtWrong : ChangeSpec := { name := "fieldSqrt", fn := fun _ => fun
  | [d] => { results := [.lit (.bool false)], args := [d] }
  | _ => none }
def FieldSqrtWrongFalsely : Prop := fieldSqrtRow.holds Try.pinned (OpenSpec.ofChange fieldSqrtWrong)

/-- 'privitylaw01.FieldSquares': WHATEVER THE INPUT: true; the input reads as it did. -/
def fieldSquaresSpec : ChangeSpec := { name := "fieldSquares", fn := fun _ => fun
  | [d] => { results := [.lit (.bool true)], args := [d] }
  | _ => none }
def fieldSquaresRow : OpenClaim := { program := "ytoeihgmiglomhaa", sum := "648a99b85a9358ed21ffa9e2716bf66b4c832327d724d2038fe1efbd7744700d", func := "privity/privitylaw01.FieldSquares", spec := "fieldSquares", apart := false }
def FieldSquaresSaid : Prop := fieldSquaresRow.holds Try.pinned (OpenSpec.ofChange fieldSquaresSpec)

/-- ITS FALSE NEIGHBOUR: 'it returns false'. Refute it at one input. -/
def fieldSquaresWrong : ChangeSpec := { name := "fieldSquares", fn := fun _ => fun
  | [d] => { results := [.lit (.bool false)], args := [d] }
  | _ => none }
def FieldSquaresWrongFalsely : Prop := fieldSquaresRow.holds Try.pinned (OpenSpec.ofChange fieldSquaresWrong)

/-- 'privitylaw01.FieldSqrtProduct': WHATEVER THE INPUT: true; the input reads as it did. -/
def fieldSqrtProductSpec : ChangeSpec := { name := "fieldSqrtProduct", fn := fun _ => fun
  | [d] => { results := [.lit (.bool true)], args := [d] }
  | _ => none }
def fieldSqrtProductRow : OpenClaim := { program := "ytoeihgmiglomhaa", sum := "648a99b85a9358ed21ffa9e2716bf66b4c832327d724d2038fe1efbd7744700d", func := "privity/privitylaw01.FieldSqrtProduct", spec := "fieldSqrtProduct", apart := false }
def FieldSqrtProductSaid : Prop := fieldSqrtProductRow.holds Try.pinned (OpenSpec.ofChange fieldSqrtProductSpec)

/-- ITS FALSE NEIGHBOUR: 'it returns false'. Refute it at one input. -/
def fieldSqrtProductWrong : ChangeSpec := { name := "fieldSqrtProduct", fn := fun _ => fun
  | [d] => { results := [.lit (.bool false)], args := [d] }
  | _ => none }
def FieldSqrtProductWrongFalsely : Prop := fieldSqrtProductRow.holds Try.pinned (OpenSpec.ofChange fieldSqrtProductWrong)

/- THE SECOND FORM. 'bulk': how many values and letters a reading holds, each counted each time it is reached (what is shared counts as often as it is met; a slice's spare places count too). A statement '..UptoSaid' is the law's where the arguments, and the package variables that the reading takes, are together of bulk at most 1048576: NARROWER than '..Said'. Prove '..Said' where nothing that the law and all that it calls make is longer than what came in: it says more and counts as full. Else prove '..UptoSaid'. A law counts once. -/
mutual
def uptoBulk {H : Type} : DataW H → Nat
  | .lit (.string bytes) => bytes.length + 1
  | .lit _ => 1
  | .nil => 1
  | .ptr d => uptoBulk d + 1
  | .slice elems spare => uptoBulkAll elems + uptoBulkAll spare + 1
  | .agg parts => uptoBulkAll parts + 1
  | .iface _ d => uptoBulk d + 1
  | .map entries => uptoBulkEntries entries + 1
  | .held _ => 1
def uptoBulkAll {H : Type} : List (DataW H) → Nat
  | [] => 0
  | d :: r => uptoBulk d + uptoBulkAll r
def uptoBulkEntries {H : Type} : List (Lit × DataW H) → Nat
  | [] => 0
  | x :: r => uptoBulkEntry x + uptoBulkEntries r
def uptoBulkEntry {H : Type} : Lit × DataW H → Nat
  | (.string bytes, d) => bytes.length + uptoBulk d + 1
  | (_, d) => uptoBulk d + 1
 end
def uptoSmall : (H : Type) → List (DataW H) → Bool := fun _ ds => decide (uptoBulkAll ds ≤ 1048576)
def OpenSpec.upto (s : _root_.Go.ChangeSpec) : _root_.Go.OpenSpec := { _root_.Go.OpenSpec.ofChange s with cond := some uptoSmall }

/-- 'privitylaw01.FieldSupported', WHERE WHAT IT READS IS OF BULK AT MOST 1048576: true; the input reads as it did. -/
def fieldSupportedUptoRow : OpenClaim := { program := "ytoeihgmiglomhaa", sum := "648a99b85a9358ed21ffa9e2716bf66b4c832327d724d2038fe1efbd7744700d", func := "privity/privitylaw01.FieldSupported", spec := "fieldSupported", apart := false, narrowed := true }
def FieldSupportedUptoSaid : Prop := fieldSupportedUptoRow.holds Try.pinned (OpenSpec.upto fieldSupportedSpec)

/-- 'privitylaw01.FieldArithmetic', WHERE WHAT IT READS IS OF BULK AT MOST 1048576: true; the input reads as it did. -/
def fieldArithmeticUptoRow : OpenClaim := { program := "ytoeihgmiglomhaa", sum := "648a99b85a9358ed21ffa9e2716bf66b4c832327d724d2038fe1efbd7744700d", func := "privity/privitylaw01.FieldArithmetic", spec := "fieldArithmetic", apart := false, narrowed := true }
def FieldArithmeticUptoSaid : Prop := fieldArithmeticUptoRow.holds Try.pinned (OpenSpec.upto fieldArithmeticSpec)

/-- 'privitylaw01.FieldAxioms', WHERE WHAT IT READS IS OF BULK AT MOST 1048576: true; the input reads as it did. -/
def fieldAxiomsUptoRow : OpenClaim := { program := "ytoeihgmiglomhaa", sum := "648a99b85a9358ed21ffa9e2716bf66b4c832327d724d2038fe1efbd7744700d", func := "privity/privitylaw01.FieldAxioms", spec := "fieldAxioms", apart := false, narrowed := true }
def FieldAxiomsUptoSaid : Prop := fieldAxiomsUptoRow.holds Try.pinned (OpenSpec.upto fieldAxiomsSpec)

/-- 'privitylaw01.FieldPowers', WHERE WHAT IT READS IS OF BULK AT MOST 1048576: true; the input reads as it did. -/
def fieldPowersUptoRow : OpenClaim := { program := "ytoeihgmiglomhaa", sum := "648a99b85a9358ed21ffa9e2716bf66b4c832327d724d2038fe1efbd7744700d", func := "privity/privitylaw01.FieldPowers", spec := "fieldPowers", apart := false, narrowed := true }
def FieldPowersUptoSaid : Prop := fieldPowersUptoRow.holds Try.pinned (OpenSpec.upto fieldPowersSpec)

/-- 'privitylaw01.FieldSqrt', WHERE WHAT IT READS IS OF BULK AT MOST 1048576: true; the input reads as it did. -/
def fieldSqrtUptoRow : OpenClaim := { program := "ytoeihgmiglomhaa", sum := "648a99b85a9358ed21ffa9e2716bf66b4c832327d724d2038fe1efbd7744700d", func := "privity/privitylaw01.FieldSqrt", spec := "fieldSqrt", apart := false, narrowed := true }
def FieldSqrtUptoSaid : Prop := fieldSqrtUptoRow.holds Try.pinned (OpenSpec.upto fieldSqrtSpec)

/-- 'privitylaw01.FieldSquares', WHERE WHAT IT READS IS OF BULK AT MOST 1048576: true; the input reads as it did. -/
def fieldSquaresUptoRow : OpenClaim := { program := "ytoeihgmiglomhaa", sum := "648a99b85a9358ed21ffa9e2716bf66b4c832327d724d2038fe1efbd7744700d", func := "privity/privitylaw01.FieldSquares", spec := "fieldSquares", apart := false, narrowed := true }
def FieldSquaresUptoSaid : Prop := fieldSquaresUptoRow.holds Try.pinned (OpenSpec.upto fieldSquaresSpec)

/-- 'privitylaw01.FieldSqrtProduct', WHERE WHAT IT READS IS OF BULK AT MOST 1048576: true; the input reads as it did. -/
def fieldSqrtProductUptoRow : OpenClaim := { program := "ytoeihgmiglomhaa", sum := "648a99b85a9358ed21ffa9e2716bf66b4c832327d724d2038fe1efbd7744700d", func := "privity/privitylaw01.FieldSqrtProduct", spec := "fieldSqrtProduct", apart := false, narrowed := true }
def FieldSqrtProductUptoSaid : Prop := fieldSqrtProductUptoRow.holds Try.pinned (OpenSpec.upto fieldSqrtProductSpec)

end Rows
end Go.Proofs.Ytoeihgmiglomhaa
