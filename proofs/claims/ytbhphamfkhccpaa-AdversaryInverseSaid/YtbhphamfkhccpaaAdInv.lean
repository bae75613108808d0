/- One or two deviations more: still a valid scenario. No conditions. -/
import Derived.Test.YtbhphamfkhccpaaAdWk
namespace Go.Proofs.Ytbhphamfkhccpaa
open Go.ChangeShapes Go.WideShapes Go.ChangeAt Go.RowKit PolyMath FieldMath PartyMath

theorem Ok13.more {p : Int} {N T : Nat} {co : List Int} {ds : List Dv} (h : Ok13 p N T co ds) (h30 : ds.length ≤ 30) (l : List Dv) (hl : l.length ≤ 2) (hd : ∀ d ∈ l, dvB N d = true) (hk : ∀ d ∈ l, Wd d.k) : Ok13 p N T co (ds ++ l) := by
  refine ⟨h.coal, fun d hm => ?_, fun d hm => ?_, by rw [List.length_append]; omega⟩
  · rcases List.mem_append.1 hm with hm | hm
    · exact h.dv d hm
    · exact hd d hm
  · rcases List.mem_append.1 hm with hm | hm
    · exact h.wk d hm
    · exact hk d hm
theorem neg_mod_is (a P : Int) : -(a % P) % P = (P - a % P) % P := by
  rw [show P - a % P = -(a % P) + P * 1 by omega, Int.add_mul_emod_self_left]
theorem OD.two (w : World) (d e : Dv) {B : Nat} (hB : B ≤ w.heap.size) : OD (w.alloc (.cells #[.int .i64 d.rnd, .int .i64 d.frm, .int .i64 d.to, .int .i64 d.at_, .int .i64 d.kind, .int .u64 d.k, .int .i64 d.of_, .int .i64 d.src, .int .i64 e.rnd, .int .i64 e.frm, .int .i64 e.to, .int .i64 e.at_, .int .i64 e.kind, .int .u64 e.k, .int .i64 e.of_, .int .i64 e.src] 41)) B (.slice (some ⟨w.heap.size, 0, Option.none⟩) 2 2) 2 [d, e] := World.ownsRow_lit w #[.int .i64 d.rnd, .int .i64 d.frm, .int .i64 d.to, .int .i64 d.at_, .int .i64 d.kind, .int .u64 d.k, .int .i64 d.of_, .int .i64 d.src, .int .i64 e.rnd, .int .i64 e.frm, .int .i64 e.to, .int .i64 e.at_, .int .i64 e.kind, .int .u64 e.k, .int .i64 e.of_, .int .i64 e.src] 2 hB (by decide) rfl
end Go.Proofs.Ytbhphamfkhccpaa
