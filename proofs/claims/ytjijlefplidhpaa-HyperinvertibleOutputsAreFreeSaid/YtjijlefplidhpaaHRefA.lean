/- Small and Below of the reference of layer 7, unlike and below of its laws: they only read. Conditions: where said, at most 1000 rows, words, numbers or points. -/
import Derived.Test.YtjijlefplidhpaaMG
namespace Go.Proofs.Ytjijlefplidhpaa
set_option maxRecDepth 100000
open Go.RowKit PolyMath FieldMath MatMath

/-- At most so many rows and columns. -/
def smallB (m : List (List Int)) (n k : Nat) : Bool := decide (m.length ≤ n ∧ ∀ r ∈ m, r.length ≤ k)
theorem small_any (A : Option Addr) (c n k : Nat) (m : List (List Int)) (hn : n ≤ 1000) (w : World) (h : Sll w A c m) :
    Calls Try.prog 22 #[.slice A m.length c, .int .i64 n, .int .i64 k] w fun e w' => e = .returned (.bool (smallB m n k)) ∧ w = w' := by
  by_cases hb : (n : Int) < m.length
  · have hF : Hid (smallB m n k = false) := Lib.hid (decide_eq_false fun h => by omega)
    go_enter Try.func22, Try.ntmps22
    go_wp2
    go_ret
    rw [hF.out]
    exact ⟨rfl, rfl⟩
  · go_enter Try.func22, Try.ntmps22
    go_wp2
    go_loop [7] (fun i => ∃ j : Nat, j ≤ m.length ∧ i = .int .i64 j ∧ Hid (∀ q, q < j → (ro m q).length ≤ k)) (fun i => m.length - (intOf i).toNat)
    case atStart => exact ⟨0, Nat.zero_le _, rfl, Lib.hid (fun q hq => absurd hq (Nat.not_lt_zero _))⟩
    case round =>
      obtain ⟨j, hj, rfl, hE⟩ := hrel
      by_cases hlt : j < m.length
      · obtain ⟨b, off, A', c', hA, hbl, hc, hs⟩ := h.rowAt (i := j) (L := (ro m j).length) hlt rfl
        subst hA
        have hjn : (j : Int) < m.length := by omega
        by_cases hk : (k : Int) < (ro m j).length
        · have hF : Hid (smallB m n k = false) := Lib.hid (decide_eq_false fun h => by have := h.2 _ (List.mem_of_getElem? (ro_get hlt)); omega)
          clear hE
          go_wp2
          go_ret
          rw [hF.out]
          exact ⟨rfl, rfl⟩
        · have hE2 : Hid (∀ q, q < j + 1 → (ro m q).length ≤ k) := Lib.hid fun q hq => by
            by_cases e : q = j
            · subst e; omega
            · exact hE.out q (by omega)
          clear hE
          go_wp2
          go_round
          case rel => exact ⟨j + 1, by omega, by simp, hE2⟩
          case measure => simp [intOf]; omega
      · obtain rfl : j = m.length := by omega
        have hF : Hid (smallB m n k = true) := Lib.hid (decide_eq_true ⟨by omega, fun r hr => by
          obtain ⟨i, hi⟩ := List.mem_iff_getElem?.1 hr
          have := hE.out i (List.getElem?_eq_some_iff.1 hi).1
          rwa [ro_at hi] at this⟩)
        clear hE
        go_wp2
        go_ret
        rw [hF.out]
        exact ⟨rfl, rfl⟩

/-- All words are below p. -/
def belM (p : Int) (m : List (List Int)) : Bool := decide (∀ r ∈ m, ∀ x ∈ r, x < p)
theorem belM_any (p : Int) (A : Option Addr) (c : Nat) (m : List (List Int)) (hm : m.length ≤ 1000) (hr : ∀ i, (ro m i).length ≤ 1000) (w : World) (h : Sll w A c m) :
    Calls Try.prog 24 #[.int .u64 p, .slice A m.length c] w fun e w' => e = .returned (.bool (belM p m)) ∧ w = w' := by
  go_enter Try.func24, Try.ntmps24
  go_wp2
  go_loop [5] (fun i => ∃ j : Nat, j ≤ m.length ∧ i = .int .i64 j ∧ Hid (∀ q, q < j → ∀ x ∈ ro m q, x < p)) (fun i => m.length - (intOf i).toNat)
  case atStart => exact ⟨0, Nat.zero_le _, rfl, Lib.hid (fun q hq => absurd hq (Nat.not_lt_zero _))⟩
  case round =>
    obtain ⟨j, hj, rfl, hE⟩ := hrel
    by_cases hlt : j < m.length
    · obtain ⟨b, off, A', c', hA, hbl, hc, hs⟩ := h.rowAt (i := j) (L := (ro m j).length) hlt rfl
      subst hA
      have hjn : (j : Int) < m.length := by omega
      have hcall := below_any p A' c' (ro m j) w hs (hr j)
      by_cases hk : ∀ x ∈ ro m j, x < p
      · rw [decide_eq_true hk] at hcall
        have hE2 : Hid (∀ q, q < j + 1 → ∀ x ∈ ro m q, x < p) := Lib.hid fun q hq => by
          by_cases e : q = j
          · subst e; exact hk
          · exact hE.out q (by omega)
        clear hE hk
        go_wp2_with (go_at_call 15; refine hcall.mono ?_; rintro e w' ⟨rfl, rfl⟩)
        go_round
        case rel => exact ⟨j + 1, by omega, by simp, hE2⟩
        case measure => simp [intOf]; omega
      · rw [decide_eq_false hk] at hcall
        have hF : Hid (belM p m = false) := Lib.hid (decide_eq_false fun h => hk (h _ (List.mem_of_getElem? (ro_get hlt))))
        clear hE hk
        go_wp2_with (go_at_call 15; refine hcall.mono ?_; rintro e w' ⟨rfl, rfl⟩)
        go_ret
        rw [hF.out]
        exact ⟨rfl, rfl⟩
    · obtain rfl : j = m.length := by omega
      have hF : Hid (belM p m = true) := Lib.hid (decide_eq_true fun r hr => by
        obtain ⟨i, hi⟩ := List.mem_iff_getElem?.1 hr
        have := hE.out i (List.getElem?_eq_some_iff.1 hi).1
        rwa [ro_at hi] at this)
      clear hE
      go_wp2
      go_ret
      rw [hF.out]
      exact ⟨rfl, rfl⟩

/-- All values are below p. -/
def belP (p : Int) (ps : List (Int × Int)) : Bool := decide (∀ q ∈ ps, q.2 < p)
theorem belP_any (p : Int) (A : Option Addr) (c : Nat) (ps : List (Int × Int)) (hl : ps.length ≤ 1000) (w : World) (h : Pt w A c ps) :
    Calls Try.prog 25 #[.int .u64 p, .slice A ps.length c] w fun e w' => e = .returned (.bool (belP p ps)) ∧ w = w' := by
  go_enter Try.func25, Try.ntmps25
  go_wp2
  go_loop [5] (fun i => ∃ j : Nat, j ≤ ps.length ∧ i = .int .i64 j ∧ Hid (∀ q ∈ ps.take j, q.2 < p)) (fun i => ps.length - (intOf i).toNat)
  case atStart => exact ⟨0, Nat.zero_le _, rfl, Lib.hid (fun q hq => by simp at hq)⟩
  case round =>
    obtain ⟨j, hj, rfl, hE⟩ := hrel
    by_cases hlt : j < ps.length
    · obtain ⟨b, off, x, y, hA, hbl, hx, hcx, hcy⟩ := h.at_ hlt
      subst hA
      have hjn : (j : Int) < ps.length := by omega
      by_cases hk : y < p
      · have hE2 : Hid (∀ q ∈ ps.take (j + 1), q.2 < p) := Lib.hid fun q hq => by
          rw [List.take_add_one, hx, List.mem_append] at hq
          rcases hq with hq | hq
          · exact hE.out q hq
          · simp at hq; subst hq; exact hk
        have hk' : ¬ p ≤ y := by omega
        clear hE hx
        go_wp2
        go_round
        case rel => exact ⟨j + 1, by omega, by simp, hE2⟩
        case measure => simp [intOf]; omega
      · have hF : Hid (belP p ps = false) := Lib.hid (decide_eq_false fun h => hk (h _ (List.mem_of_getElem? hx)))
        have hk' : p ≤ y := by omega
        clear hE hx
        go_wp2
        go_ret
        rw [hF.out]
        exact ⟨rfl, rfl⟩
    · obtain rfl : j = ps.length := by omega
      have hF : Hid (belP p ps = true) := Lib.hid (decide_eq_true (by have := hE.out; rwa [List.take_length] at this))
      clear hE
      go_wp2
      go_ret
      rw [hF.out]
      exact ⟨rfl, rfl⟩

/-- Distinct numbers in range. -/
def unlB (xs : List Int) (n : Int) : Bool := decide ((∀ x ∈ xs, 0 ≤ x ∧ x < n) ∧ xs.Nodup)
set_option maxHeartbeats 1000000 in
theorem unl_any (A : Option Addr) (c : Nat) (xs : List Int) (n : Int) (hl : xs.length ≤ 1000) (w : World) (h : Si w A c xs) :
    Calls Try.prog 19 #[.slice A xs.length c, .int .i64 n] w fun e w' => e = .returned (.bool (unlB xs n)) ∧ Below w.heap.size w w' := by
  have key : ∀ m, Below w.heap.size w (w.drewN m) := fun m => below_drewN (Below.refl _ w) m
  go_enter Try.func19, Try.ntmps19
  go_wp2
  go_loopw [5] (fun i wr => ∃ k m : Nat, k ≤ xs.length ∧ i = .int .i64 k ∧ wr = w.drewN m ∧ Hid ((∀ x ∈ xs.take k, 0 ≤ x ∧ x < n) ∧ (xs.take k).Nodup)) (fun i _ => xs.length - (intOf i).toNat)
  case atStart => exact ⟨0, 0, Nat.zero_le _, rfl, rfl, Lib.hid ⟨fun x hx => by simp at hx, by simp⟩⟩
  case round =>
    obtain ⟨k, m, hk, rfl, rfl, hE⟩ := hrel
    by_cases hlt : k < xs.length
    · obtain ⟨b, off, x, hA, hbl, hx, hcx⟩ := h.at_ hlt
      subst hA
      have hkn : (k : Int) < xs.length := by omega
      have hX := Lib.hid hx
      clear hx
      by_cases hx0 : x < 0
      · have hF : Hid (unlB xs n = false) := Lib.hid (decide_eq_false fun h => by have := h.1 _ (List.mem_of_getElem? hX.out); omega)
        clear hE
        go_wp2
        go_ret
        rw [hF.out]
        exact ⟨rfl, key m⟩
      · by_cases hxn : n ≤ x
        · have hF : Hid (unlB xs n = false) := Lib.hid (decide_eq_false fun h => by have := h.1 _ (List.mem_of_getElem? hX.out); omega)
          clear hE
          go_wp2
          go_ret
          rw [hF.out]
          exact ⟨rfl, key m⟩
        · go_wp2
          go_loopw [6] (fun i wr => ∃ j q : Nat, j ≤ k ∧ i = .int .i64 j ∧ wr = w.drewN q ∧ Hid (x ∉ xs.take j)) (fun i _ => k - (intOf i).toNat)
          case atStart => exact ⟨0, m, Nat.zero_le _, rfl, rfl, Lib.hid (by simp)⟩
          case round =>
            obtain ⟨j, q, hj, rfl, rfl, hN⟩ := hrel
            by_cases hlt2 : j < k
            · obtain ⟨b2, off2, y, hA2, hbl2, hy, hcy⟩ := h.at_ (k := j) (by omega)
              injection hA2 with hA2
              injection hA2 with e1 e2
              subst e1 e2
              have hjk : (j : Int) < k := by omega
              have hjn : (j : Int) < xs.length := by omega
              by_cases e : x = y
              · have hF : Hid (unlB xs n = false) := Lib.hid (decide_eq_false fun h => by
                  have h1 := List.pairwise_iff_getElem.1 h.2 j k (by omega) hlt hlt2
                  rw [List.getElem?_eq_getElem (by omega)] at hy
                  have h3 := hX.out
                  rw [List.getElem?_eq_getElem hlt] at h3
                  injection hy with hy
                  injection h3 with h3
                  exact h1 (by rw [hy, h3, e]))
                subst e
                clear hE hN hy
                go_wp2
                go_quiet (fail)
                go_wp2
                go_ret
                rw [hF.out]
                refine ⟨rfl, ?_⟩
                first | exact key _ | (simp; exact key _)
              · have hN2 : Hid (x ∉ xs.take (j + 1)) := Lib.hid (by
                  rw [List.take_add_one, hy]
                  intro hm
                  rcases List.mem_append.1 hm with h1 | h1
                  · exact hN.out h1
                  · exact e (by simpa using h1))
                have e' : (x == y) = false := beq_eq_false_iff_ne.2 e
                clear hN hy
                go_wp2
                go_quiet (fail)
                go_wp2
                go_roundw
                case rel => exact ⟨j + 1, _, by omega, by simp, by first | rfl | (simp; rfl), hN2⟩
                case measure => simp [intOf]; omega
            · obtain rfl : j = k := by omega
              have hE2 : Hid ((∀ x ∈ xs.take (j + 1), 0 ≤ x ∧ x < n) ∧ (xs.take (j + 1)).Nodup) := Lib.hid ⟨fun y hy => by
                rw [List.take_add_one, hX.out, List.mem_append] at hy
                rcases hy with hy | hy
                · exact hE.out.1 y hy
                · simp at hy; subst hy; omega, (nodup_take hX.out).2 ⟨hE.out.2, hN.out⟩⟩
              clear hE hN
              go_wp2
              go_roundw
              case rel => exact ⟨j + 1, _, by omega, by simp, rfl, hE2⟩
              case measure => simp [intOf]; omega
    · obtain rfl : k = xs.length := by omega
      have hF : Hid (unlB xs n = true) := Lib.hid (decide_eq_true (by have := hE.out; rwa [List.take_length] at this))
      clear hE
      go_wp2
      go_ret
      rw [hF.out]
      exact ⟨rfl, key m⟩
end Go.Proofs.Ytjijlefplidhpaa
