/- A region that draws its order, whose operations only read and whose callees may make memory of their own but hand back one and the same value: walked once, in the order of the text. No conditions. -/
import Derived.Test.YtbhphamfkhccpaaPMem
import Derived.Deep.QuietTactic
namespace Go.Proofs.Ytbhphamfkhccpaa
set_option maxRecDepth 100000
open Go.RowKit

/-- A world in which all that lay lies as before. -/
structure Beyond (w : World) where
  W : World
  below : Below w.heap.size w W
instance (w : World) : Inhabited (Beyond w) := ⟨⟨w, Below.refl _ _⟩⟩
theorem wp_region_beyond {P : Program} {id : Nat} {Q : Exit → Act → World → Prop} {a : Act} {w : World} {l : List Oper} (hm : P.follows .mixedOrders = true) (hB : Region.lexB .any l.toArray = true)
    (h : wpQuiet P l.toArray (fun w' => ∃ b : Beyond w, w' = b.W) (fun a' => ∀ w', (∃ b : Beyond w, w' = b.W) → Q .normal a' w') l a) : (Code.region id l.toArray true).wp P Q a w :=
  wp_region_quiet (C := fun w' => ∃ b : Beyond w, w' = b.W) hm hB ⟨⟨w.drew, (Below.refl _ w).drew⟩, rfl⟩ (by simpa using h)
/-- A contract that says 'what lay lies as before', in every such world. -/
theorem Beyond.of {P : Program} {f : FuncId} {args : Array Value} {w : World} {v : Value} (b : Beyond w) (h : Calls P f args b.W fun e w' => e = .returned v ∧ Below b.W.heap.size b.W w') : Calls P f args b.W fun e w'' => e = .returned v ∧ ∃ b' : Beyond w, w'' = b'.W :=
  h.mono fun _ w' ⟨he, hb⟩ => ⟨he, ⟨w', b.below.trans (hb.mono b.below.size)⟩, rfl⟩
end Go.Proofs.Ytbhphamfkhccpaa
