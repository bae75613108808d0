/- members and parties of package params: membership as an array of booleans. Conditions: party numbers from 0 to 13. -/
import Derived.Test.YtbhphamfkhccpaaFList
import Derived.Test.YtbhphamfkhccpaaATp
import Derived.Laws.CopyOwn
import Derived.Deep.MidRow
namespace Go.Proofs.Ytbhphamfkhccpaa
set_option maxRecDepth 100000
open Go.RowKit PolyMath FieldMath PartyMath

/-- The cells of an array of booleans. -/
def al (f : Int → Bool) : List Value := [.bool (f 0), .bool (f 1), .bool (f 2), .bool (f 3), .bool (f 4), .bool (f 5), .bool (f 6), .bool (f 7), .bool (f 8), .bool (f 9), .bool (f 10), .bool (f 11), .bool (f 12), .bool (f 13)]
def arr (f : Int → Bool) : Array Value := (al f).toArray
theorem arr_at (f : Int → Bool) : ∀ k : Nat, k < 14 → (arr f)[k]? = some (.bool (f k))
  | 0, _ | 1, _ | 2, _ | 3, _ | 4, _ | 5, _ | 6, _ | 7, _ | 8, _ | 9, _ | 10, _ | 11, _ | 12, _ | 13, _ => rfl
theorem arr_put (f : Int → Bool) (b : Bool) : ∀ k : Nat, k < 14 → (arr f).setIfInBounds k (.bool b) = arr (fun i => if i = (k : Int) then b else f i)
  | 0, _ | 1, _ | 2, _ | 3, _ | 4, _ | 5, _ | 6, _ | 7, _ | 8, _ | 9, _ | 10, _ | 11, _ | 12, _ | 13, _ => rfl
theorem arr_same {f g : Int → Bool} (h : ∀ k : Nat, k < 14 → f k = g k) : arr f = arr g := by
  unfold arr al
  rw [show f 0 = g 0 from h 0 (by omega), show f 1 = g 1 from h 1 (by omega), show f 2 = g 2 from h 2 (by omega), show f 3 = g 3 from h 3 (by omega), show f 4 = g 4 from h 4 (by omega), show f 5 = g 5 from h 5 (by omega), show f 6 = g 6 from h 6 (by omega), show f 7 = g 7 from h 7 (by omega), show f 8 = g 8 from h 8 (by omega), show f 9 = g 9 from h 9 (by omega), show f 10 = g 10 from h 10 (by omega), show f 11 = g 11 from h 11 (by omega), show f 12 = g 12 from h 12 (by omega), show f 13 = g 13 from h 13 (by omega)]
end Go.Proofs.Ytbhphamfkhccpaa
