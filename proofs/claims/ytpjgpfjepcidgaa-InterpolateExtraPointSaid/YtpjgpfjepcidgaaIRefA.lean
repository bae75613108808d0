/- Same, SameRows, Below, Points, Unlike, Places of the reference of layer 5; nothing that lay is changed. Conditions: words, at most 100 of them. -/
import Derived.Test.YtpjgpfjepcidgaaIFac
import Derived.Test.YtpjgpfjepcidgaaIMem
namespace Go.Proofs.Ytpjgpfjepcidgaa
open Go.RowKit PolyMath FieldMath

theorem Sl.drewN {w : World} {A : Option Addr} {c : Nat} {xs : List Int} (h : Sl w A c xs) (n : Nat) : Sl (w.drewN n) A c xs := h.next (below_drewN (Below.refl _ w) n)
theorem Sll.drewN {w : World} {A : Option Addr} {c : Nat} {xs : List (List Int)} (h : Sll w A c xs) (n : Nat) : Sll (w.drewN n) A c xs := h.next (below_drewN (Below.refl _ w) n)

theorem same_is (A A' : Option Addr) (xs : List Int) (c c' : Nat) (w : World) (h : Sl w A c xs) (h' : Sl w A' c' xs) (hl : xs.length ≤ 1000) :
    Calls Try.prog 15 #[.slice A xs.length c, .slice A' xs.length c'] w fun e w' => e = .returned (.bool true) ∧ ∃ m, w' = w.drewN m := by
  go_enter Try.func15, Try.ntmps15
  go_wp2
  go_loopw [5] (fun i wr => ∃ k m : Nat, k ≤ xs.length ∧ i = .int .i64 k ∧ wr = w.drewN m) (fun i _ => xs.length - (intOf i).toNat)
  case atStart => exact ⟨0, 0, Nat.zero_le _, rfl, rfl⟩
  case round =>
    obtain ⟨k, m, hk, rfl, rfl⟩ := hrel
    by_cases hlt : k < xs.length
    · obtain ⟨b, off, x, hA, _, hx, hc⟩ := h.at_ hlt
      obtain ⟨b', off', y, hA', _, hy, hc'⟩ := h'.at_ hlt
      subst hA hA'
      obtain rfl : x = y := by rw [hx] at hy; injection hy
      have hi1 : (k : Int) < xs.length := by omega
      clear hx hy
      go_wp2
      go_quiet (fail)
      go_wp2
      go_roundw
      case rel => exact ⟨k + 1, _, by omega, by simp, by first | rfl | (simp; rfl)⟩
      case measure => simp [intOf]; omega
    · obtain rfl : k = xs.length := by omega
      go_wp2
      go_ret
      exact ⟨rfl, m, rfl⟩

theorem quiet_more {P : Program} {f : FuncId} {args : Array Value} {w : World} {a n : Nat} {v : Value}
    (h : Calls P f args (w.drewN (a + n)) fun e w' => e = .returned v ∧ ∃ m, w' = (w.drewN (a + n)).drewN m) : Calls P f args (w.drewN (a + n)) fun e w'' => e = .returned v ∧ ∃ m, w'' = w.drewN (a + m) :=
  h.mono fun _ _ ⟨he, m, hm⟩ => ⟨he, n + m, hm.trans ((World.drewN_drewN _ _ _).trans (by rw [Nat.add_assoc]))⟩

set_option maxHeartbeats 1000000 in
theorem sameRows_is (A A' : Option Addr) (rows : List (List Int)) (c c' : Nat) (w : World) (h : Sll w A c rows) (h' : Sll w A' c' rows) (hl : rows.length ≤ 1000) (hr : ∀ r ∈ rows, r.length ≤ 1000) :
    Calls Try.prog 27 #[.slice A rows.length c, .slice A' rows.length c'] w fun e w' => e = .returned (.bool true) ∧ ∃ m, w' = w.drewN m := by
  go_enter Try.func27, Try.ntmps27
  go_wp2
  go_loopw [5] (fun i wr => ∃ k m : Nat, k ≤ rows.length ∧ i = .int .i64 k ∧ wr = w.drewN m) (fun i _ => rows.length - (intOf i).toNat)
  case atStart => exact ⟨0, 0, Nat.zero_le _, rfl, rfl⟩
  case round =>
    obtain ⟨k, m, hk, rfl, rfl⟩ := hrel
    by_cases hlt : k < rows.length
    · obtain ⟨b, off, r, A1, c1, hA, _, hx, hc, hs⟩ := h.at_ hlt
      obtain ⟨b', off', r', A2, c2, hA', _, hy, hc', hs'⟩ := h'.at_ hlt
      subst hA hA'
      obtain rfl : r = r' := by rw [hx] at hy; injection hy
      have hi1 : (k : Int) < rows.length := by omega
      have hrl := hr r (List.mem_of_getElem? hx)
      have hsm := fun n : Nat => same_is A1 A2 r c1 c2 (w.drewN (m + n)) (hs.drewN _) (hs'.drewN _) hrl
      clear hx hy
      go_wp2
      go_quiet (exact quiet_more (hsm _))
      go_wp2
      go_roundw
      case rel => exact ⟨k + 1, _, by omega, by simp, by first | rfl | (simp; rfl)⟩
      case measure => simp [intOf]; omega
    · obtain rfl : k = rows.length := by omega
      go_wp2
      go_ret
      exact ⟨rfl, m, rfl⟩

theorem below_any (p : Int) (A : Option Addr) (c : Nat) (xs : List Int) (w : World) (h : Sl w A c xs) (hl : xs.length ≤ 1000) :
    Calls Try.prog 17 #[.int .u64 p, .slice A xs.length c] w fun e w' => e = .returned (.bool (decide (∀ x ∈ xs, x < p))) ∧ w = w' := by
  go_enter Try.func17, Try.ntmps17
  go_wp2
  go_loop [5] (fun i => ∃ k : Nat, k ≤ xs.length ∧ i = .int .i64 k ∧ Hid (∀ x ∈ xs.take k, x < p)) (fun i => xs.length - (intOf i).toNat)
  case atStart => exact ⟨0, Nat.zero_le _, rfl, Lib.hid (fun x hx => by simp at hx)⟩
  case round =>
    obtain ⟨k, hk, rfl, hE⟩ := hrel
    by_cases hlt : k < xs.length
    · obtain ⟨b, off, x, hA, _, hx, hc⟩ := h.at_ hlt
      subst hA
      have hX := Lib.hid hx
      have hi1 : (k : Int) < xs.length := by omega
      clear hx
      by_cases hxp : x < p
      · have hN := Lib.hid (show ∀ y ∈ xs.take (k + 1), y < p from fun y hy => by
          rw [List.take_add_one, hX.out] at hy
          rcases List.mem_append.1 hy with h1 | h1
          · exact hE.out y h1
          · have : y = x := by simpa using h1
            subst this; exact hxp)
        go_wp2
        go_round
        case rel => exact ⟨k + 1, by omega, by simp, hN⟩
        case measure => simp [intOf]; omega
      · have hN := Lib.hid (show ¬ ∀ y ∈ xs, y < p from fun h => hxp (h x (List.mem_of_getElem? hX.out)))
        have hxp' : p ≤ x := by omega
        go_wp2
        go_ret
        exact ⟨by rw [decide_eq_false hN.out]; rfl, rfl⟩
    · obtain rfl : k = xs.length := by omega
      go_wp2
      go_ret
      exact ⟨by rw [decide_eq_true (by have := hE.out; rwa [List.take_length] at this)]; rfl, rfl⟩

theorem points_any (p : Int) (A : Option Addr) (c : Nat) (ps : List (Int × Int)) (w : World) (h : Pt w A c ps) (hl : ps.length ≤ 1000) :
    Calls Try.prog 12 #[.int .u64 p, .slice A ps.length c] w fun e w' => e = .returned (.bool (decide (∀ q ∈ ps, q.1 < p ∧ q.2 < p))) ∧ w = w' := by
  go_enter Try.func12, Try.ntmps12
  go_wp2
  go_loop [5] (fun i => ∃ k : Nat, k ≤ ps.length ∧ i = .int .i64 k ∧ Hid (∀ q ∈ ps.take k, q.1 < p ∧ q.2 < p)) (fun i => ps.length - (intOf i).toNat)
  case atStart => exact ⟨0, Nat.zero_le _, rfl, Lib.hid (fun x hx => by simp at hx)⟩
  case round =>
    obtain ⟨k, hk, rfl, hE⟩ := hrel
    by_cases hlt : k < ps.length
    · obtain ⟨b, off, x, y, hA, _, hx, hcx, hcy⟩ := h.at_ hlt
      subst hA
      have hX := Lib.hid hx
      have hi1 : (k : Int) < ps.length := by omega
      clear hx
      by_cases hxp : x < p
      · by_cases hyp : y < p
        · have hN := Lib.hid (show ∀ q ∈ ps.take (k + 1), q.1 < p ∧ q.2 < p from fun q hq => by
            rw [List.take_add_one, hX.out] at hq
            rcases List.mem_append.1 hq with h1 | h1
            · exact hE.out q h1
            · have : q = (x, y) := by simpa using h1
              subst this; exact ⟨hxp, hyp⟩)
          go_wp2
          go_round
          case rel => exact ⟨k + 1, by omega, by simp, hN⟩
          case measure => simp [intOf]; omega
        · have hN := Lib.hid (show ¬ ∀ q ∈ ps, q.1 < p ∧ q.2 < p from fun h => hyp (h _ (List.mem_of_getElem? hX.out)).2)
          have hyp' : p ≤ y := by omega
          go_wp2
          go_ret
          exact ⟨by rw [decide_eq_false hN.out]; rfl, rfl⟩
      · have hN := Lib.hid (show ¬ ∀ q ∈ ps, q.1 < p ∧ q.2 < p from fun h => hxp (h _ (List.mem_of_getElem? hX.out)).1)
        have hxp' : p ≤ x := by omega
        go_wp2
        go_ret
        exact ⟨by rw [decide_eq_false hN.out]; rfl, rfl⟩
    · obtain rfl : k = ps.length := by omega
      go_wp2
      go_ret
      exact ⟨by rw [decide_eq_true (by have := hE.out; rwa [List.take_length] at this)]; rfl, rfl⟩

set_option maxHeartbeats 1000000 in
theorem unlike_any (A : Option Addr) (c : Nat) (xs : List Int) (w : World) (h : Sl w A c xs) (hl : xs.length ≤ 1000) :
    Calls Try.prog 18 #[.slice A xs.length c] w fun e w' => e = .returned (.bool (decide xs.Nodup)) ∧ ∃ m, w' = w.drewN m := by
  go_enter Try.func18, Try.ntmps18
  go_wp2
  go_loopw [3] (fun i wr => ∃ k m : Nat, k ≤ xs.length ∧ i = .int .i64 k ∧ wr = w.drewN m ∧ Hid (xs.take k).Nodup) (fun i _ => xs.length - (intOf i).toNat)
  case atStart => exact ⟨0, 0, Nat.zero_le _, rfl, rfl, Lib.hid (by simp)⟩
  case round =>
    obtain ⟨k, m, hk, rfl, rfl, hE⟩ := hrel
    by_cases hlt : k < xs.length
    · obtain ⟨b, off, x, hA, _, hx, hc⟩ := h.at_ hlt
      have hX := Lib.hid hx
      have hi1 : (k : Int) < xs.length := by omega
      clear hx
      go_wp2
      go_loopw [4] (fun i wr => ∃ j n : Nat, j ≤ k ∧ i = .int .i64 j ∧ wr = w.drewN n ∧ Hid (x ∉ xs.take j)) (fun i _ => k - (intOf i).toNat)
      case atStart => exact ⟨0, m, Nat.zero_le _, rfl, rfl, Lib.hid (by simp)⟩
      case round =>
        obtain ⟨j, n, hj, rfl, rfl, hF⟩ := hrel
        by_cases hlt2 : j < k
        · obtain ⟨b', off', y, hA', _, hy, hc'⟩ := h.at_ (show j < xs.length by omega)
          rw [hA] at hA'
          injection hA' with hA'
          injection hA' with hA1 hA2
          subst hA1 hA2 hA
          have hY := Lib.hid hy
          have hi2 : (j : Int) < k := by omega
          have hi3 : (j : Int) < xs.length := by omega
          clear hy
          by_cases hxy : x = y
          · subst hxy
            have hN := Lib.hid (show ¬ xs.Nodup from fun hn => by
              obtain ⟨h1, e1⟩ := List.getElem?_eq_some_iff.1 hX.out
              obtain ⟨h2, e2⟩ := List.getElem?_eq_some_iff.1 hY.out
              have := nodup_inj hn h1 h2 (e1.trans e2.symm)
              omega)
            go_wp2
            go_quiet (fail)
            go_wp2
            go_ret
            exact ⟨by rw [decide_eq_false hN.out]; rfl, _, by first | rfl | (simp; rfl)⟩
          · have hN := Lib.hid (show x ∉ xs.take (j + 1) from fun hm => by
              rw [List.take_add_one, hY.out] at hm
              rcases List.mem_append.1 hm with h1 | h1
              · exact hF.out h1
              · exact hxy (by simpa using h1))
            go_wp2
            go_quiet (fail)
            go_wp2
            go_roundw
            case rel => exact ⟨j + 1, _, by omega, by simp, by first | rfl | (simp; rfl), hN⟩
            case measure => simp [intOf]; omega
        · obtain rfl : j = k := by omega
          have hN := Lib.hid ((nodup_take hX.out).2 ⟨hE.out, hF.out⟩)
          go_wp2
          go_roundw
          case rel => exact ⟨j + 1, n, by omega, by simp, rfl, hN⟩
          case measure => simp [intOf]; omega
    · obtain rfl : k = xs.length := by omega
      go_wp2
      go_ret
      exact ⟨by rw [decide_eq_true (by have := hE.out; rwa [List.take_length] at this)]; rfl, m, rfl⟩

set_option maxHeartbeats 1000000 in
theorem places_row (A : Option Addr) (c : Nat) (ps : List (Int × Int)) (hl : ps.length ≤ 100) (w : World) (h : Pt w A c ps) :
    Calls Try.prog 24 #[.slice A ps.length c] w fun e w' => Row w e w' (px ps) := by
  obtain ⟨i0, hi, hz0, hz1, hz2⟩ := info_parts info_u64
  have hD := Lib.hid (show (List.range ps.length).map (co (px ps)) = px ps from by rw [← px_len]; exact range_co _)
  have hxl := Lib.hid (px_len ps)
  go_enter Try.func24, Try.ntmps24
  go_wp2
  go_loopw [3, 4] (fun v i wr => ∃ k : Nat, k ≤ ps.length ∧ i = .int .i64 k ∧ wr.ownsRow w.heap.size 22 1 v k (((List.range k).map (co (px ps))).map (Value.int .u64)) ∧ Below w.heap.size w wr) (fun _ i _ => ps.length - (intOf i).toNat)
  case atStart => exact ⟨0, Nat.zero_le _, rfl, World.ownsRow_nil _ _ _ _, Below.refl _ _⟩
  case round =>
    obtain ⟨k, hk, rfl, hrow, hB⟩ := hrel
    have hsz := hB.size
    by_cases hlt : k < ps.length
    · obtain ⟨b, off, x, y, hA, hbl, hx, hcx, hcy⟩ := (h.next hB).at_ hlt
      subst hA
      have hX := Lib.hid (px_at hx)
      have hk' : (k : Int) < ps.length := by omega
      clear hx
      go_wp2_with (at_builtin; refine wpList_append_own _ rfl _ _ 27 rfl w.heap.size 22 i0 (.int .u64 0) 1 8 Try.underlying27 hi hz0 hz1 hz2 rfl (by decide) _ _ _ rfl (hrow.alloc _) ⟨wr.heap.size, 0, none⟩ 1 1 [.int .u64 x] rfl rfl (cell_one_new _ _ _) (by simp [Value.oneCell']) (by simp only [maxLen]; omega) (by omega) (by simp; omega) ?_; intro v' w2 hown' hgrow _)
      have hB2 : Below w.heap.size w w2 := (hB.alloc hsz _).grown hgrow (by simp; omega) (fun k e => (hrow.lt k e).1)
      go_roundw
      case rel => exact ⟨k + 1, by omega, by simp, own_next (f := co (px ps)) (by rw [hX.out]; exact hown'), hB2⟩
      case measure => simp [intOf]; omega
    · obtain rfl : k = ps.length := by omega
      rw [hD.out] at hrow
      obtain ⟨A2, c2, hv, hs2⟩ := own_form hrow
      subst hv
      go_wp2
      go_ret
      exact ⟨A2, c2, rfl, hs2, hB⟩
end Go.Proofs.Ytpjgpfjepcidgaa
