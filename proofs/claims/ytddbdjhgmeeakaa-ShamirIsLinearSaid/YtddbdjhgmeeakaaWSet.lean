/- setups of layer 9's laws and Rows of the reference. Conditions: as said. -/
import Derived.Test.YtddbdjhgmeeakaaWLaw
namespace Go.Proofs.Ytddbdjhgmeeakaa
set_option maxRecDepth 100000
open Go.RowKit PolyMath FieldMath MatMath

/-- A valid parameter set of the laws. -/
def Setup (P N T : Int) : Prop := 4 ≤ N ∧ N ≤ 13 ∧ N < P ∧ 1 ≤ T ∧ T < N ∧ 3 * T < N
instance (P N T : Int) : Decidable (Setup P N T) := inferInstanceAs (Decidable (4 ≤ N ∧ N ≤ 13 ∧ N < P ∧ 1 ≤ T ∧ T < N ∧ 3 * T < N))
theorem setups_any (P N T : Int) (w : World) : Calls Try.prog 29 #[.agg #[.int .u64 P, .int .i64 N, .int .i64 T]] w fun e w' => e = .returned (.bool (decide (Setup P N T))) ∧ Below w.heap.size w w' := by
  have hB : Below w.heap.size w (w.alloc (.cells #[.int .u64 P, .int .i64 N, .int .i64 T] 55)) := (Below.refl _ w).alloc (Nat.le_refl _) _
  by_cases h0 : 4 ≤ N
  · by_cases h1 : N ≤ 13
    · have wN : IntKind.u64.wrap N = N := IntWalk.u64_in _ (by omega)
      by_cases h2 : N < P
      · by_cases h3 : 1 ≤ T
        · by_cases h4 : T < N
          · have wT : IntKind.i64.wrap (3 * T) = 3 * T := IntWalk.i64_in _ (by omega)
            by_cases h5 : 3 * T < N
            · have HD : Hid (decide (Setup P N T) = true) := Lib.hid (decide_eq_true ⟨h0, h1, h2, h3, h4, h5⟩)
              go_enter Try.func29, Try.ntmps29
              go_wp2
              go_ret
              exact ⟨by rw [HD.out]; rfl, hB⟩
            · have HD : Hid (decide (Setup P N T) = false) := Lib.hid (decide_eq_false fun h => h5 h.2.2.2.2.2)
              go_enter Try.func29, Try.ntmps29
              go_wp2
              go_ret
              exact ⟨by rw [HD.out]; rfl, hB⟩
          · have HD : Hid (decide (Setup P N T) = false) := Lib.hid (decide_eq_false fun h => h4 h.2.2.2.2.1)
            go_enter Try.func29, Try.ntmps29
            go_wp2
            go_ret
            exact ⟨by rw [HD.out]; rfl, hB⟩
        · have HD : Hid (decide (Setup P N T) = false) := Lib.hid (decide_eq_false fun h => h3 h.2.2.2.1)
          go_enter Try.func29, Try.ntmps29
          go_wp2
          go_ret
          exact ⟨by rw [HD.out]; rfl, hB⟩
      · have HD : Hid (decide (Setup P N T) = false) := Lib.hid (decide_eq_false fun h => h2 h.2.2.1)
        go_enter Try.func29, Try.ntmps29
        go_wp2
        go_ret
        exact ⟨by rw [HD.out]; rfl, hB⟩
    · have HD : Hid (decide (Setup P N T) = false) := Lib.hid (decide_eq_false fun h => h1 h.2.1)
      go_enter Try.func29, Try.ntmps29
      go_wp2
      go_ret
      exact ⟨by rw [HD.out]; rfl, hB⟩
  · have HD : Hid (decide (Setup P N T) = false) := Lib.hid (decide_eq_false fun h => h0 h.1)
    go_enter Try.func29, Try.ntmps29
    go_wp2
    go_ret
    exact ⟨by rw [HD.out]; rfl, hB⟩

/-- N rows of the given length with words of the field. -/
def Fair (p : Int) (N long : Nat) (ra : List (List Int)) : Prop := ra.length = N ∧ ∀ i, i < N → (ro ra i).length = long ∧ ∀ x ∈ ro ra i, x < p
set_option maxHeartbeats 2000000 in
theorem rows_any (p : Int) (A : Option Addr) (c N long : Nat) (ra : List (List Int)) (hl : long ≤ 1000) (hN : N ≤ 1000) (w : World) (h : Sll w A c ra) :
    Calls Try.prog 28 #[.int .u64 p, .slice A ra.length c, .int .i64 N, .int .i64 long] w fun e w' => (∃ b, e = .returned (.bool b) ∧ (b = true ↔ Fair p N long ra)) ∧ w = w' := by
  by_cases hlen : ra.length = N
  · subst hlen
    go_enter Try.func28, Try.ntmps28
    go_wp2
    go_loopw [9] (fun i wr => ∃ k : Nat, k ≤ ra.length ∧ i = .int .i64 k ∧ wr = w ∧ Hid (∀ j, j < k → (ro ra j).length = long ∧ ∀ x ∈ ro ra j, x < p)) (fun i _ => ra.length - (intOf i).toNat)
    case atStart => exact ⟨0, Nat.zero_le _, rfl, rfl, Lib.hid (fun j h => by omega)⟩
    case round =>
      obtain ⟨k, hk, rfl, rfl, hI⟩ := hrel
      by_cases hlt : k < ra.length
      · have hkN : (k : Int) < ra.length := by omega
        obtain ⟨b1, o1, A1, c1, hA1, hbl1, hc1, hs1⟩ := h.rowAt (i := k) hlt rfl
        subst hA1
        by_cases e1 : (ro ra k).length = long
        · rw [e1] at hc1
          have hbe := below_any p A1 c1 (ro ra k) wr hs1 (by omega)
          rw [e1] at hbe
          by_cases e2 : ∀ x ∈ ro ra k, x < p
          · rw [decide_eq_true e2] at hbe
            have hI2 : Hid (∀ j, j < k + 1 → (ro ra j).length = long ∧ ∀ x ∈ ro ra j, x < p) := Lib.hid fun j hj => by
              by_cases ej : j = k
              · subst ej; exact ⟨e1, e2⟩
              · exact hI.out j (by omega)
            clear e1 e2
            go_wp2_with (go_at_call 13; refine hbe.mono ?_; rintro e w' ⟨rfl, rfl⟩)
            go_roundw
            case rel => exact ⟨k + 1, by omega, by simp, by first | rfl | trivial, hI2⟩
            case measure => simp [intOf]; omega
          · rw [decide_eq_false e2] at hbe
            have hN2 : Hid (¬ Fair p ra.length long ra) := Lib.hid fun hf => e2 (hf.2 k hlt).2
            clear e1 e2
            go_wp2_with (go_at_call 13; refine hbe.mono ?_; rintro e w' ⟨rfl, rfl⟩)
            go_ret
            exact ⟨⟨false, rfl, by simp [hN2.out]⟩, rfl⟩
        · have hN2 : Hid (¬ Fair p ra.length long ra) := Lib.hid fun hf => e1 (hf.2 k hlt).1
          have e1I : ¬ ((ro ra k).length : Int) = long := by omega
          have e1b : (((ro ra k).length : Int) != long) = true := bne_iff_ne.2 e1I
          go_wp2
          go_ret
          exact ⟨⟨false, rfl, by simp [hN2.out]⟩, rfl⟩
      · obtain rfl : k = ra.length := by omega
        have hY : Hid (Fair p ra.length long ra) := Lib.hid ⟨rfl, hI.out⟩
        go_wp2
        go_ret
        exact ⟨⟨true, rfl, by simp [hY.out]⟩, rfl⟩
  · have hlI : ¬ (ra.length : Int) = N := by omega
    have hlb : ((ra.length : Int) != N) = true := bne_iff_ne.2 hlI
    have hN2 : Hid (¬ Fair p N long ra) := Lib.hid fun hf => hlen hf.1
    go_enter Try.func28, Try.ntmps28
    go_wp2
    go_ret
    exact ⟨⟨false, rfl, by simp [hN2.out]⟩, rfl⟩
end Go.Proofs.Ytddbdjhgmeeakaa
