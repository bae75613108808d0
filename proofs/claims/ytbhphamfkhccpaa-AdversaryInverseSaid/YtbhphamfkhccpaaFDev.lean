/- Whether a deviation is valid: validDeviation of package params, Deviation of the reference of layer 12. Nothing that lay is changed. No conditions. -/
import Derived.Test.YtbhphamfkhccpaaFCoal
import Derived.BigGuard
namespace Go.Proofs.Ytbhphamfkhccpaa
set_option maxRecDepth 100000
open Go.RowKit PolyMath FieldMath PartyMath

/-- A deviation as a value; its cells. -/
def dcs (d : Dv) : List Value := [.int .i64 d.rnd, .int .i64 d.frm, .int .i64 d.to, .int .i64 d.at_, .int .i64 d.kind, .int .u64 d.k, .int .i64 d.of_, .int .i64 d.src]
def dvv (d : Dv) : Value := .agg #[.int .i64 d.rnd, .int .i64 d.frm, .int .i64 d.to, .int .i64 d.at_, .int .i64 d.kind, .int .u64 d.k, .int .i64 d.of_, .int .i64 d.src]
theorem dvB_is (n rnd frm to at_ kind k of_ src : Int) : dvB n ⟨rnd, frm, to, at_, kind, k, of_, src⟩ = decide (0 ≤ rnd ∧ 0 ≤ at_ ∧ 0 ≤ src ∧ 1 ≤ frm ∧ frm ≤ n ∧ 0 ≤ to ∧ to ≤ n ∧ 1 ≤ kind ∧ kind ≤ 4 ∧ 0 ≤ of_ ∧ of_ ≤ n ∧ (kind = 3 → 1 ≤ of_)) := rfl

set_option maxHeartbeats 2000000 in
theorem devE (p n t rnd frm to at_ k of_ src : Int) (w : World) :
    Calls Try.prog 62 #[.agg #[.int .u64 p, .int .i64 n, .int .i64 t], .agg #[.int .i64 rnd, .int .i64 frm, .int .i64 to, .int .i64 at_, .int .i64 3, .int .u64 k, .int .i64 of_, .int .i64 src]] w fun e w' => e = .returned (.bool (dvB n ⟨rnd, frm, to, at_, 3, k, of_, src⟩)) ∧ Below w.heap.size w w' := by

  by_cases h0 : 0 ≤ rnd
  case neg =>
    rw [show dvB n ⟨rnd, frm, to, at_, 3, k, of_, src⟩ = false from by rw [dvB_is]; exact decide_eq_false (fun h => by omega)]
    go_enter Try.func62, Try.ntmps62
    go_wp2_with fail
    go_ret
    exact ⟨rfl, bnew ((Below.refl _ w).alloc (Nat.le_refl _) _) _ (Nat.le_refl _)⟩
  by_cases h1 : 0 ≤ at_
  case neg =>
    rw [show dvB n ⟨rnd, frm, to, at_, 3, k, of_, src⟩ = false from by rw [dvB_is]; exact decide_eq_false (fun h => by omega)]
    go_enter Try.func62, Try.ntmps62
    go_wp2_with fail
    go_ret
    exact ⟨rfl, bnew ((Below.refl _ w).alloc (Nat.le_refl _) _) _ (Nat.le_refl _)⟩
  by_cases h2 : 0 ≤ src
  case neg =>
    rw [show dvB n ⟨rnd, frm, to, at_, 3, k, of_, src⟩ = false from by rw [dvB_is]; exact decide_eq_false (fun h => by omega)]
    go_enter Try.func62, Try.ntmps62
    go_wp2_with fail
    go_ret
    exact ⟨rfl, bnew ((Below.refl _ w).alloc (Nat.le_refl _) _) _ (Nat.le_refl _)⟩
  have b3 := fun W => between_any frm 1 n W
  by_cases h3 : 1 ≤ frm ∧ frm ≤ n
  case neg =>
    rw [show dvB n ⟨rnd, frm, to, at_, 3, k, of_, src⟩ = false from by rw [dvB_is]; exact decide_eq_false (fun h => by omega)]
    rw [decide_eq_false h3] at b3
    clear h3
    go_enter Try.func62, Try.ntmps62
    go_wp2_with fail
    refine (b3 _).mono ?_; rintro e w1 ⟨rfl, rfl⟩
    go_wp2_with fail
    go_ret
    exact ⟨rfl, bnew ((Below.refl _ w).alloc (Nat.le_refl _) _) _ (Nat.le_refl _)⟩
  rw [decide_eq_true h3] at b3
  obtain ⟨h3a, h3b⟩ := h3
  have b4 := fun W => between_any to 0 n W
  by_cases h4 : 0 ≤ to ∧ to ≤ n
  case neg =>
    rw [show dvB n ⟨rnd, frm, to, at_, 3, k, of_, src⟩ = false from by rw [dvB_is]; exact decide_eq_false (fun h => by omega)]
    rw [decide_eq_false h4] at b4
    clear h4
    go_enter Try.func62, Try.ntmps62
    go_wp2_with fail
    refine (b3 _).mono ?_; rintro e w1 ⟨rfl, rfl⟩
    go_wp2_with fail
    refine (b4 _).mono ?_; rintro e w1 ⟨rfl, rfl⟩
    go_wp2_with fail
    go_ret
    exact ⟨rfl, bnew ((Below.refl _ w).alloc (Nat.le_refl _) _) _ (Nat.le_refl _)⟩
  rw [decide_eq_true h4] at b4
  obtain ⟨h4a, h4b⟩ := h4
  have b5 := fun W => between_any 3 1 4 W
  rw [decide_eq_true (show (1 : Int) ≤ 3 ∧ (3 : Int) ≤ 4 by omega)] at b5
  have b6 := fun W => between_any of_ 1 n W
  rw [show decide (1 ≤ of_ ∧ of_ ≤ n) = dvB n ⟨rnd, frm, to, at_, 3, k, of_, src⟩ from by rw [dvB_is, decide_eq_decide]; omega] at b6
  generalize dvB n ⟨rnd, frm, to, at_, 3, k, of_, src⟩ = res at *
  go_enter Try.func62, Try.ntmps62
  go_wp2_with fail
  refine (b3 _).mono ?_; rintro e w1 ⟨rfl, rfl⟩
  go_wp2_with fail
  refine (b4 _).mono ?_; rintro e w1 ⟨rfl, rfl⟩
  go_wp2_with fail
  refine (b5 _).mono ?_; rintro e w1 ⟨rfl, rfl⟩
  go_wp2_with fail
  refine (b6 _).mono ?_; rintro e w1 ⟨rfl, rfl⟩
  go_wp2_with fail
  go_ret
  exact ⟨rfl, bnew ((Below.refl _ w).alloc (Nat.le_refl _) _) _ (Nat.le_refl _)⟩

set_option maxHeartbeats 2000000 in
theorem devO (p n t rnd frm to at_ kind k of_ src : Int) (hk : ¬ kind = 3) (w : World) :
    Calls Try.prog 62 #[.agg #[.int .u64 p, .int .i64 n, .int .i64 t], .agg #[.int .i64 rnd, .int .i64 frm, .int .i64 to, .int .i64 at_, .int .i64 kind, .int .u64 k, .int .i64 of_, .int .i64 src]] w fun e w' => e = .returned (.bool (dvB n ⟨rnd, frm, to, at_, kind, k, of_, src⟩)) ∧ Below w.heap.size w w' := by

  by_cases h0 : 0 ≤ rnd
  case neg =>
    rw [show dvB n ⟨rnd, frm, to, at_, kind, k, of_, src⟩ = false from by rw [dvB_is]; exact decide_eq_false (fun h => by omega)]
    go_enter Try.func62, Try.ntmps62
    go_wp2_with fail
    go_ret
    exact ⟨rfl, bnew ((Below.refl _ w).alloc (Nat.le_refl _) _) _ (Nat.le_refl _)⟩
  by_cases h1 : 0 ≤ at_
  case neg =>
    rw [show dvB n ⟨rnd, frm, to, at_, kind, k, of_, src⟩ = false from by rw [dvB_is]; exact decide_eq_false (fun h => by omega)]
    go_enter Try.func62, Try.ntmps62
    go_wp2_with fail
    go_ret
    exact ⟨rfl, bnew ((Below.refl _ w).alloc (Nat.le_refl _) _) _ (Nat.le_refl _)⟩
  by_cases h2 : 0 ≤ src
  case neg =>
    rw [show dvB n ⟨rnd, frm, to, at_, kind, k, of_, src⟩ = false from by rw [dvB_is]; exact decide_eq_false (fun h => by omega)]
    go_enter Try.func62, Try.ntmps62
    go_wp2_with fail
    go_ret
    exact ⟨rfl, bnew ((Below.refl _ w).alloc (Nat.le_refl _) _) _ (Nat.le_refl _)⟩
  have b3 := fun W => between_any frm 1 n W
  by_cases h3 : 1 ≤ frm ∧ frm ≤ n
  case neg =>
    rw [show dvB n ⟨rnd, frm, to, at_, kind, k, of_, src⟩ = false from by rw [dvB_is]; exact decide_eq_false (fun h => by omega)]
    rw [decide_eq_false h3] at b3
    clear h3
    go_enter Try.func62, Try.ntmps62
    go_wp2_with fail
    refine (b3 _).mono ?_; rintro e w1 ⟨rfl, rfl⟩
    go_wp2_with fail
    go_ret
    exact ⟨rfl, bnew ((Below.refl _ w).alloc (Nat.le_refl _) _) _ (Nat.le_refl _)⟩
  rw [decide_eq_true h3] at b3
  obtain ⟨h3a, h3b⟩ := h3
  have b4 := fun W => between_any to 0 n W
  by_cases h4 : 0 ≤ to ∧ to ≤ n
  case neg =>
    rw [show dvB n ⟨rnd, frm, to, at_, kind, k, of_, src⟩ = false from by rw [dvB_is]; exact decide_eq_false (fun h => by omega)]
    rw [decide_eq_false h4] at b4
    clear h4
    go_enter Try.func62, Try.ntmps62
    go_wp2_with fail
    refine (b3 _).mono ?_; rintro e w1 ⟨rfl, rfl⟩
    go_wp2_with fail
    refine (b4 _).mono ?_; rintro e w1 ⟨rfl, rfl⟩
    go_wp2_with fail
    go_ret
    exact ⟨rfl, bnew ((Below.refl _ w).alloc (Nat.le_refl _) _) _ (Nat.le_refl _)⟩
  rw [decide_eq_true h4] at b4
  obtain ⟨h4a, h4b⟩ := h4
  have b5 := fun W => between_any kind 1 4 W
  by_cases h5 : 1 ≤ kind ∧ kind ≤ 4
  case neg =>
    rw [show dvB n ⟨rnd, frm, to, at_, kind, k, of_, src⟩ = false from by rw [dvB_is]; exact decide_eq_false (fun h => by omega)]
    rw [decide_eq_false h5] at b5
    clear h5
    go_enter Try.func62, Try.ntmps62
    go_wp2_with fail
    refine (b3 _).mono ?_; rintro e w1 ⟨rfl, rfl⟩
    go_wp2_with fail
    refine (b4 _).mono ?_; rintro e w1 ⟨rfl, rfl⟩
    go_wp2_with fail
    refine (b5 _).mono ?_; rintro e w1 ⟨rfl, rfl⟩
    go_wp2_with fail
    go_ret
    exact ⟨rfl, bnew ((Below.refl _ w).alloc (Nat.le_refl _) _) _ (Nat.le_refl _)⟩
  rw [decide_eq_true h5] at b5
  obtain ⟨h5a, h5b⟩ := h5
  have b6 := fun W => between_any of_ 0 n W
  rw [show decide (0 ≤ of_ ∧ of_ ≤ n) = dvB n ⟨rnd, frm, to, at_, kind, k, of_, src⟩ from by rw [dvB_is, decide_eq_decide]; omega] at b6
  generalize dvB n ⟨rnd, frm, to, at_, kind, k, of_, src⟩ = res at *
  go_enter Try.func62, Try.ntmps62
  go_wp2_with fail
  refine (b3 _).mono ?_; rintro e w1 ⟨rfl, rfl⟩
  go_wp2_with fail
  refine (b4 _).mono ?_; rintro e w1 ⟨rfl, rfl⟩
  go_wp2_with fail
  refine (b5 _).mono ?_; rintro e w1 ⟨rfl, rfl⟩
  go_wp2_with fail
  refine (b6 _).mono ?_; rintro e w1 ⟨rfl, rfl⟩
  go_wp2_with fail
  go_ret
  exact ⟨rfl, bnew ((Below.refl _ w).alloc (Nat.le_refl _) _) _ (Nat.le_refl _)⟩

theorem dev_any (p n t : Int) (d : Dv) (w : World) :
    Calls Try.prog 62 #[pv p n t, dvv d] w fun e w' => e = .returned (.bool (dvB n d)) ∧ Below w.heap.size w w' := by
  obtain ⟨rnd, frm, to, at_, kind, k, of_, src⟩ := d
  by_cases hk : kind = 3
  · subst hk; exact devE p n t rnd frm to at_ k of_ src w
  · exact devO p n t rnd frm to at_ kind k of_ src hk w

set_option maxHeartbeats 4000000 in
theorem rDev0 (p n t rnd frm to at_ kind k of_ src : Int) (w : World) :
    Calls Try.prog 35 #[.agg #[.int .u64 p, .int .i64 n, .int .i64 t], .agg #[.int .i64 rnd, .int .i64 frm, .int .i64 to, .int .i64 at_, .int .i64 kind, .int .u64 k, .int .i64 of_, .int .i64 src]] w fun e w' => e = .returned (.bool (dvB n ⟨rnd, frm, to, at_, kind, k, of_, src⟩)) ∧ Below w.heap.size w w' := by

  by_cases h0 : 0 ≤ rnd
  case neg =>
    rw [show dvB n ⟨rnd, frm, to, at_, kind, k, of_, src⟩ = false from by rw [dvB_is]; exact decide_eq_false (fun h => by omega)]
    go_enter Try.func35, Try.ntmps35
    dsimp only [List.append]
    go_wp2
    go_ret
    exact ⟨by first | rfl | simp | (simp; omega), bnew ((Below.refl _ w).alloc (Nat.le_refl _) _) _ (Nat.le_refl _)⟩
  by_cases h1 : 0 ≤ at_
  case neg =>
    rw [show dvB n ⟨rnd, frm, to, at_, kind, k, of_, src⟩ = false from by rw [dvB_is]; exact decide_eq_false (fun h => by omega)]
    go_enter Try.func35, Try.ntmps35
    dsimp only [List.append]
    go_wp2
    go_ret
    exact ⟨by first | rfl | simp | (simp; omega), bnew ((Below.refl _ w).alloc (Nat.le_refl _) _) _ (Nat.le_refl _)⟩
  by_cases h2 : 0 ≤ src
  case neg =>
    rw [show dvB n ⟨rnd, frm, to, at_, kind, k, of_, src⟩ = false from by rw [dvB_is]; exact decide_eq_false (fun h => by omega)]
    go_enter Try.func35, Try.ntmps35
    dsimp only [List.append]
    go_wp2
    go_ret
    exact ⟨by first | rfl | simp | (simp; omega), bnew ((Below.refl _ w).alloc (Nat.le_refl _) _) _ (Nat.le_refl _)⟩
  by_cases h3 : 1 ≤ frm
  case neg =>
    rw [show dvB n ⟨rnd, frm, to, at_, kind, k, of_, src⟩ = false from by rw [dvB_is]; exact decide_eq_false (fun h => by omega)]
    go_enter Try.func35, Try.ntmps35
    dsimp only [List.append]
    go_wp2
    go_ret
    exact ⟨by first | rfl | simp | (simp; omega), bnew ((Below.refl _ w).alloc (Nat.le_refl _) _) _ (Nat.le_refl _)⟩
  by_cases h4 : frm ≤ n
  case neg =>
    rw [show dvB n ⟨rnd, frm, to, at_, kind, k, of_, src⟩ = false from by rw [dvB_is]; exact decide_eq_false (fun h => by omega)]
    go_enter Try.func35, Try.ntmps35
    dsimp only [List.append]
    go_wp2
    go_ret
    exact ⟨by first | rfl | simp | (simp; omega), bnew ((Below.refl _ w).alloc (Nat.le_refl _) _) _ (Nat.le_refl _)⟩
  by_cases h5 : 0 ≤ to
  case neg =>
    rw [show dvB n ⟨rnd, frm, to, at_, kind, k, of_, src⟩ = false from by rw [dvB_is]; exact decide_eq_false (fun h => by omega)]
    go_enter Try.func35, Try.ntmps35
    dsimp only [List.append]
    go_wp2
    go_ret
    exact ⟨by first | rfl | simp | (simp; omega), bnew ((Below.refl _ w).alloc (Nat.le_refl _) _) _ (Nat.le_refl _)⟩
  by_cases h6 : to ≤ n
  case neg =>
    rw [show dvB n ⟨rnd, frm, to, at_, kind, k, of_, src⟩ = false from by rw [dvB_is]; exact decide_eq_false (fun h => by omega)]
    go_enter Try.func35, Try.ntmps35
    dsimp only [List.append]
    go_wp2
    go_ret
    exact ⟨by first | rfl | simp | (simp; omega), bnew ((Below.refl _ w).alloc (Nat.le_refl _) _) _ (Nat.le_refl _)⟩
  by_cases h7 : 1 ≤ kind
  case neg =>
    rw [show dvB n ⟨rnd, frm, to, at_, kind, k, of_, src⟩ = false from by rw [dvB_is]; exact decide_eq_false (fun h => by omega)]
    go_enter Try.func35, Try.ntmps35
    dsimp only [List.append]
    go_wp2
    go_ret
    exact ⟨by first | rfl | simp | (simp; omega), bnew ((Below.refl _ w).alloc (Nat.le_refl _) _) _ (Nat.le_refl _)⟩
  by_cases h8 : kind ≤ 4
  case neg =>
    rw [show dvB n ⟨rnd, frm, to, at_, kind, k, of_, src⟩ = false from by rw [dvB_is]; exact decide_eq_false (fun h => by omega)]
    go_enter Try.func35, Try.ntmps35
    dsimp only [List.append]
    go_wp2
    go_ret
    exact ⟨by first | rfl | simp | (simp; omega), bnew ((Below.refl _ w).alloc (Nat.le_refl _) _) _ (Nat.le_refl _)⟩
  by_cases h9 : 0 ≤ of_
  case neg =>
    rw [show dvB n ⟨rnd, frm, to, at_, kind, k, of_, src⟩ = false from by rw [dvB_is]; exact decide_eq_false (fun h => by omega)]
    go_enter Try.func35, Try.ntmps35
    dsimp only [List.append]
    go_wp2
    go_ret
    exact ⟨by first | rfl | simp | (simp; omega), bnew ((Below.refl _ w).alloc (Nat.le_refl _) _) _ (Nat.le_refl _)⟩
  by_cases h10 : of_ ≤ n
  case neg =>
    rw [show dvB n ⟨rnd, frm, to, at_, kind, k, of_, src⟩ = false from by rw [dvB_is]; exact decide_eq_false (fun h => by omega)]
    go_enter Try.func35, Try.ntmps35
    dsimp only [List.append]
    go_wp2
    go_ret
    exact ⟨by first | rfl | simp | (simp; omega), bnew ((Below.refl _ w).alloc (Nat.le_refl _) _) _ (Nat.le_refl _)⟩
  by_cases hk : kind = 3
  case neg =>
    rw [show dvB n ⟨rnd, frm, to, at_, kind, k, of_, src⟩ = true from by rw [dvB_is]; exact decide_eq_true (by omega)]
    go_enter Try.func35, Try.ntmps35
    dsimp only [List.append]
    go_wp2
    go_ret
    exact ⟨by first | rfl | simp | (simp; omega), bnew ((Below.refl _ w).alloc (Nat.le_refl _) _) _ (Nat.le_refl _)⟩
  by_cases h11 : 1 ≤ of_
  case neg =>
    rw [show dvB n ⟨rnd, frm, to, at_, kind, k, of_, src⟩ = false from by rw [dvB_is]; exact decide_eq_false (fun h => by omega)]
    subst hk
    go_enter Try.func35, Try.ntmps35
    dsimp only [List.append]
    go_wp2
    go_ret
    exact ⟨by first | rfl | simp | (simp; omega), bnew ((Below.refl _ w).alloc (Nat.le_refl _) _) _ (Nat.le_refl _)⟩
  rw [show dvB n ⟨rnd, frm, to, at_, kind, k, of_, src⟩ = true from by rw [dvB_is]; exact decide_eq_true (by omega)]
  subst hk
  go_enter Try.func35, Try.ntmps35
  dsimp only [List.append]
  go_wp2
  go_ret
  exact ⟨by first | rfl | simp | (simp; omega), bnew ((Below.refl _ w).alloc (Nat.le_refl _) _) _ (Nat.le_refl _)⟩

theorem rDev_any (p n t : Int) (d : Dv) (w : World) :
    Calls Try.prog 35 #[pv p n t, dvv d] w fun e w' => e = .returned (.bool (dvB n d)) ∧ Below w.heap.size w w' := by
  obtain ⟨rnd, frm, to, at_, kind, k, of_, src⟩ := d
  exact rDev0 p n t rnd frm to at_ kind k of_ src w
end Go.Proofs.Ytbhphamfkhccpaa
