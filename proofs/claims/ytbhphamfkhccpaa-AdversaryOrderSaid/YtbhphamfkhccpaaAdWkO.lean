/- Those of one party first, then the others: still a valid scenario. No conditions. -/
import Derived.Test.YtbhphamfkhccpaaAdWk
namespace Go.Proofs.Ytbhphamfkhccpaa
open Go.ChangeShapes Go.WideShapes Go.ChangeAt Go.RowKit PolyMath FieldMath PartyMath

theorem parted (x : Int) : ∀ ds : List Dv, (ds.filter (fun d : Dv => decide (d.frm = x))).length + (ds.filter (fun d : Dv => decide (d.frm ≠ x))).length = ds.length
  | [] => rfl
  | d :: ds => by
    have ih := parted x ds
    by_cases h : d.frm = x
    · rw [List.filter_cons_of_pos (by simpa using h), List.filter_cons_of_neg (by simpa using h), List.length_cons, List.length_cons]; omega
    · rw [List.filter_cons_of_neg (by simpa using h), List.filter_cons_of_pos (by simpa using h), List.length_cons, List.length_cons]; omega
theorem Ok13.first {p : Int} {N T : Nat} {co : List Int} {ds : List Dv} (h : Ok13 p N T co ds) (x : Int) : Ok13 p N T co (kfst x ds) := by
  have hm : ∀ d ∈ kfst x ds, d ∈ ds := fun d hd => by
    unfold kfst at hd
    rcases List.mem_append.1 hd with hd | hd
    · exact (List.mem_filter.1 hd).1
    · exact (List.mem_filter.1 hd).1
  refine ⟨h.coal, fun d hd => h.dv d (hm d hd), fun d hd => h.wk d (hm d hd), ?_⟩
  have := parted x ds
  have hl := h.len
  unfold kfst
  rw [List.length_append]
  omega
end Go.Proofs.Ytbhphamfkhccpaa
