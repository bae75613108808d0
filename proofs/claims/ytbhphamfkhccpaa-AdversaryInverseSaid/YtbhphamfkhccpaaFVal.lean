/- Valid of package params and of the reference of layer 12: which parameters are valid. Nothing that lay is changed. No conditions. -/
import Derived.Test.YtbhphamfkhccpaaFMath
import Derived.Test.YtbhphamfkhccpaaPMem
import Derived.Test.YtbhphamfkhccpaaRef01
import Derived.Test.YtbhphamfkhccpaaIMem
import Derived.BigRegion
import Derived.IntWalk
namespace Go.Proofs.Ytbhphamfkhccpaa
set_option maxRecDepth 100000
open Go.RowKit PolyMath FieldMath PartyMath

instance decOkP (p : Int) : Decidable (OkP p) := by unfold OkP; exact inferInstance
/-- Whether parameters are valid. -/
def vS (p n t : Int) : Bool := decide (OkP p ∧ 4 ≤ n ∧ n ≤ 13 ∧ 1 ≤ t ∧ 3 * t < n)
theorem vS_is {p n t : Int} : vS p n t = true ↔ OkP p ∧ 4 ≤ n ∧ n ≤ 13 ∧ 1 ≤ t ∧ 3 * t < n := by unfold vS; rw [decide_eq_true_eq]
theorem vS_not {p n t : Int} (h : ¬ (OkP p ∧ 4 ≤ n ∧ n ≤ 13 ∧ 1 ≤ t ∧ 3 * t < n)) : vS p n t = false := by unfold vS; rw [decide_eq_false h]
/-- Parameters as a value. -/
def pv (p n t : Int) : Value := .agg #[.int .u64 p, .int .i64 n, .int .i64 t]
theorem qOf_ok (p : Int) : (qOf p != 0) = decide (OkP p) := by
  by_cases h : OkP p
  · rw [decide_eq_true h]
    have := h.bd
    unfold OkP at h
    rcases h with h | h | h | h | h | h | h <;> (subst h; rfl)
  · rw [decide_eq_false h, qOf_other p h]; rfl

theorem between_any (n low high : Int) (w : World) :
    Calls Try.prog 59 #[.int .i64 n, .int .i64 low, .int .i64 high] w fun e w' => e = .returned (.bool (decide (low ≤ n ∧ n ≤ high))) ∧ w = w' := by
  by_cases h1 : low ≤ n
  · by_cases h2 : n ≤ high
    · rw [decide_eq_true ⟨h1, h2⟩]
      go_enter Try.func59, Try.ntmps59
      go_wp2
      go_ret
      exact ⟨rfl, rfl⟩
    · rw [decide_eq_false (fun h => h2 h.2)]
      go_enter Try.func59, Try.ntmps59
      go_wp2
      go_ret
      exact ⟨rfl, rfl⟩
  · rw [decide_eq_false (fun h => h1 h.1)]
    go_enter Try.func59, Try.ntmps59
    go_wp2
    go_ret
    exact ⟨rfl, rfl⟩
theorem supF_any (p : Int) (w : World) : Calls Try.prog 68 #[.int .u64 p] w fun e w' => e = .returned (.bool (decide (OkP p))) ∧ w = w' := by
  have := supported_any p w
  rwa [qOf_ok] at this

set_option maxHeartbeats 1000000 in
theorem valid_any (p n t : Int) (hn : -9223372036854775808 ≤ n ∧ n ≤ 9223372036854775807) (w : World) :
    Calls Try.prog 58 #[pv p n t] w fun e w' => e = .returned (.bool (vS p n t)) ∧ Below w.heap.size w w' := by
  unfold pv
  have hs := fun W => supF_any p W
  by_cases h1 : OkP p
  · rw [decide_eq_true h1] at hs
    have hb := fun W => between_any n 4 13 W
    by_cases h2 : 4 ≤ n ∧ n ≤ 13
    · rw [decide_eq_true h2] at hb
      obtain ⟨h3, h4⟩ := h2
      have hq : (n - 1).tdiv 3 = (n - 1) / 3 := Int.tdiv_eq_ediv_of_nonneg (by omega)
      have hc := fun W => between_any t 1 ((n - 1) / 3) W
      have he : decide (1 ≤ t ∧ t ≤ (n - 1) / 3) = vS p n t := by
        unfold vS
        rw [decide_eq_decide]
        constructor
        · rintro ⟨a, b⟩; exact ⟨h1, h3, h4, a, by omega⟩
        · rintro ⟨_, _, _, a, b⟩; exact ⟨a, by omega⟩
      rw [he] at hc
      clear he
      go_enter Try.func58, Try.ntmps58
      go_wp2_with fail
      refine (hs _).mono ?_; rintro e w1 ⟨rfl, rfl⟩
      go_wp2_with fail
      refine (hb _).mono ?_; rintro e w1 ⟨rfl, rfl⟩
      go_wp2_with fail
      refine (hc _).mono ?_; rintro e w1 ⟨rfl, rfl⟩
      go_wp2_with fail
      go_ret
      exact ⟨rfl, (Below.refl _ w).alloc (Nat.le_refl _) _⟩
    · rw [decide_eq_false h2] at hb
      rw [vS_not (fun h => h2 ⟨h.2.1, h.2.2.1⟩)]
      go_enter Try.func58, Try.ntmps58
      go_wp2_with fail
      refine (hs _).mono ?_; rintro e w1 ⟨rfl, rfl⟩
      go_wp2_with fail
      refine (hb _).mono ?_; rintro e w1 ⟨rfl, rfl⟩
      go_wp2_with fail
      go_ret
      exact ⟨rfl, (Below.refl _ w).alloc (Nat.le_refl _) _⟩
  · rw [decide_eq_false h1] at hs
    rw [vS_not (fun h => h1 h.1)]
    go_enter Try.func58, Try.ntmps58
    go_wp2_with fail
    refine (hs _).mono ?_; rintro e w1 ⟨rfl, rfl⟩
    go_wp2_with fail
    go_ret
    exact ⟨rfl, (Below.refl _ w).alloc (Nat.le_refl _) _⟩
theorem rSup_any (p : Int) (w : World) : Calls Try.prog 48 #[.int .u64 p] w fun e w' => e = .returned (.bool (decide (OkP p))) ∧ Below w.heap.size w w' := by
  have := rSupported_any p w
  rwa [qOf_ok] at this

set_option maxHeartbeats 1000000 in
theorem rValid_any (p n t : Int) (hp : 0 ≤ p ∧ p ≤ 18446744073709551615) (hn : -9223372036854775808 ≤ n ∧ n ≤ 9223372036854775807) (w : World) :
    Calls Try.prog 33 #[pv p n t] w fun e w' => e = .returned (.bool (vS p n t)) ∧ Below w.heap.size w w' := by
  unfold pv
  have hs := rSup_any p (w.alloc (.cells #[.int .u64 p, .int .i64 n, .int .i64 t] 24))
  have hb0 := (Below.refl _ w).alloc (Nat.le_refl _) (.cells #[.int .u64 p, .int .i64 n, .int .i64 t] 24)
  have fin : ∀ {b : Bool} {w' : World}, Below (w.alloc (.cells #[.int .u64 p, .int .i64 n, .int .i64 t] 24)).heap.size (w.alloc (.cells #[.int .u64 p, .int .i64 n, .int .i64 t] 24)) w' → Below w.heap.size w w' := fun h => hb0.trans (h.mono (by simp))
  by_cases h1 : OkP p
  case neg =>
    rw [decide_eq_false h1] at hs
    rw [vS_not (fun h => h1 h.1)]
    go_enter Try.func33, Try.ntmps33
    go_wp2_with fail
    refine hs.mono ?_; rintro e w1 ⟨rfl, hb⟩
    go_wp2_with fail
    go_ret
    exact ⟨rfl, fin (b := true) hb⟩
  have hbd := h1.bd
  rw [decide_eq_true h1] at hs
  have body : ∀ (b : Bool), vS p n t = b → (∀ w1, Below (w.alloc (.cells #[.int .u64 p, .int .i64 n, .int .i64 t] 24)).heap.size (w.alloc (.cells #[.int .u64 p, .int .i64 n, .int .i64 t] 24)) w1 → w1.cell? ⟨w.heap.size, 0, none⟩ = some (.int .u64 p) ∧ w1.cell? ⟨w.heap.size, 1, none⟩ = some (.int .i64 n) ∧ w1.cell? ⟨w.heap.size, 2, none⟩ = some (.int .i64 t)) := by
    intro b _ w1 hb
    refine ⟨?_, ?_, ?_⟩
    all_goals (rw [(bcell hb).1 _ _ (by simp)]; go_simp)
  have cells := body _ rfl
  clear body
  by_cases h2 : 4 ≤ n
  case neg =>
    rw [vS_not (fun h => h2 h.2.1)]
    go_enter Try.func33, Try.ntmps33
    go_wp2_with fail
    refine hs.mono ?_; rintro e w1 ⟨rfl, hb⟩
    obtain ⟨c0, c1, c2⟩ := cells w1 hb
    go_wp2_with fail
    go_ret
    exact ⟨rfl, fin (b := true) hb⟩
  by_cases h3 : n ≤ 13
  case neg =>
    rw [vS_not (fun h => h3 h.2.2.1)]
    go_enter Try.func33, Try.ntmps33
    go_wp2_with fail
    refine hs.mono ?_; rintro e w1 ⟨rfl, hb⟩
    obtain ⟨c0, c1, c2⟩ := cells w1 hb
    go_wp2_with fail
    go_ret
    exact ⟨rfl, fin (b := true) hb⟩
  have hcv : IntKind.u64.wrap n = n := IntWalk.u64_in _ (by omega)
  have hnp : n < p := by omega
  by_cases h4 : 1 ≤ t
  case neg =>
    rw [vS_not (fun h => h4 h.2.2.2.1)]
    go_enter Try.func33, Try.ntmps33
    go_wp2_with fail
    refine hs.mono ?_; rintro e w1 ⟨rfl, hb⟩
    obtain ⟨c0, c1, c2⟩ := cells w1 hb
    go_wp2_with fail
    go_ret
    exact ⟨rfl, fin (b := true) hb⟩
  by_cases h5 : t < n
  case neg =>
    rw [vS_not (fun h => h5 (by omega))]
    go_enter Try.func33, Try.ntmps33
    go_wp2_with fail
    refine hs.mono ?_; rintro e w1 ⟨rfl, hb⟩
    obtain ⟨c0, c1, c2⟩ := cells w1 hb
    go_wp2_with fail
    go_ret
    exact ⟨rfl, fin (b := true) hb⟩
  by_cases h6 : 3 * t < n
  case neg =>
    rw [vS_not (fun h => h6 h.2.2.2.2)]
    go_enter Try.func33, Try.ntmps33
    go_wp2_with fail
    refine hs.mono ?_; rintro e w1 ⟨rfl, hb⟩
    obtain ⟨c0, c1, c2⟩ := cells w1 hb
    go_wp2_with fail
    go_ret
    exact ⟨congrArg (fun b => Ending.returned (.bool b)) (decide_eq_false (by omega)), fin (b := true) hb⟩
  rw [vS_is.2 ⟨h1, h2, h3, h4, h6⟩]
  go_enter Try.func33, Try.ntmps33
  go_wp2_with fail
  refine hs.mono ?_; rintro e w1 ⟨rfl, hb⟩
  obtain ⟨c0, c1, c2⟩ := cells w1 hb
  go_wp2_with fail
  go_ret
  exact ⟨rfl, fin (b := true) hb⟩
end Go.Proofs.Ytbhphamfkhccpaa
