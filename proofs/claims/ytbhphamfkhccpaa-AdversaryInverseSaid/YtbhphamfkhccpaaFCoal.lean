/- ValidCoalition of package params and of the reference of layer 12; In and Ints of the reference. Nothing that lay is changed. Conditions: at most 1000 numbers. -/
import Derived.Test.YtbhphamfkhccpaaFVal
import Derived.Test.YtbhphamfkhccpaaOArg
import Derived.Test.YtbhphamfkhccpaaIRefA
namespace Go.Proofs.Ytbhphamfkhccpaa
set_option maxRecDepth 100000
open Go.RowKit PolyMath FieldMath PartyMath

/-- Whether a list is a valid coalition. -/
def vC (p n t : Int) (xs : List Int) : Bool := vS p n t && (decide ((xs.length : Int) ≤ t) && asc n 0 xs)
/-- A call hands back the numbers ys in a slice; what lay before lies as before. -/
def RowI (w : World) (e : Ending) (w' : World) (ys : List Int) : Prop :=
  ∃ A c, e = .returned (.slice A ys.length c) ∧ Si w' A c ys ∧ Below w.heap.size w w'
theorem Si.drewN {w : World} {A : Option Addr} {c : Nat} {xs : List Int} (h : Si w A c xs) (n : Nat) : Si (w.drewN n) A c xs := h.next (below_drewN (Below.refl _ w) n)
theorem Nums.at_ {xs : List Int} (h : Nums xs) {k : Nat} {x : Int} (hx : xs[k]? = some x) : -9223372036854775808 ≤ x ∧ x ≤ 9223372036854775807 := h x (List.mem_of_getElem? hx)
theorem nums_lst {xs : List Int} (h : Nums xs) (k : Nat) : -9223372036854775808 ≤ lst xs k ∧ lst xs k ≤ 9223372036854775807 := by
  cases k with
  | zero => unfold lst; simp
  | succ k =>
    rw [lst_succ]
    by_cases hk : k < xs.length
    · exact h _ (co_mem hk)
    · rw [co_fin xs k (by omega)]; omega

/-- Parameters that lie in a box. -/
structure Bx (w : World) (b : Nat) (p n t : Int) : Prop where
  c0 : w.cell? ⟨b, 0, none⟩ = some (.int .u64 p)
  c1 : w.cell? ⟨b, 1, none⟩ = some (.int .i64 n)
  c2 : w.cell? ⟨b, 2, none⟩ = some (.int .i64 t)
  lt : b < w.heap.size
theorem Bx.made (w : World) (p n t : Int) : Bx (w.alloc (.cells #[.int .u64 p, .int .i64 n, .int .i64 t] 24)) w.heap.size p n t := by
  refine ⟨?_, ?_, ?_, by simp⟩
  all_goals go_simp
theorem Bx.next {w w' : World} {b : Nat} {p n t : Int} (h : Bx w b p n t) (hb : Below w.heap.size w w') : Bx w' b p n t :=
  ⟨(hb.cell h.lt).trans h.c0, (hb.cell h.lt).trans h.c1, (hb.cell h.lt).trans h.c2, Nat.lt_of_lt_of_le h.lt hb.size⟩

set_option maxHeartbeats 1000000 in
theorem coal_any (p n t : Int) (hn : Wi n) (_ht : Wi t) (A : Option Addr) (c : Nat) (xs : List Int) (hl : xs.length ≤ 1000) (hx : Nums xs) (w : World) (h : Si w A c xs) :
    Calls Try.prog 49 #[pv p n t, .slice A xs.length c] w fun e w' => e = .returned (.bool (vC p n t xs)) ∧ Below w.heap.size w w' := by
  have hv := fun W => valid_any p n t hn W
  have hB1 := Lib.hid ((Below.refl _ w).alloc (Nat.le_refl _) (.cells #[.int .u64 p, .int .i64 n, .int .i64 t] 24))
  have hX1 := Lib.hid (Bx.made w p n t)
  unfold pv at hv ⊢
  by_cases h1 : vS p n t = true
  case neg =>
    have h1' : vS p n t = false := by simpa using h1
    rw [h1'] at hv
    have e : vC p n t xs = false := by unfold vC; rw [h1']; rfl
    rw [e]
    go_enter Try.func49, Try.ntmps49
    go_wp2_with fail
    refine (hv _).mono ?_; rintro e w1 ⟨rfl, hb⟩
    go_wp2_with fail
    go_ret
    exact ⟨rfl, hB1.out.trans (hb.mono (by simp))⟩
  rw [h1] at hv
  obtain ⟨hp, n1, n2, t1, t2⟩ := vS_is.1 h1
  by_cases h2 : (xs.length : Int) ≤ t
  case neg =>
    have e : vC p n t xs = false := by unfold vC; rw [h1, decide_eq_false h2]; rfl
    rw [e]
    go_enter Try.func49, Try.ntmps49
    go_wp2_with fail
    refine (hv _).mono ?_; rintro e w1 ⟨rfl, hb⟩
    obtain ⟨c0, c1, c2, _⟩ := hX1.out.next hb
    have h2' : t < (xs.length : Int) := by omega
    go_wp2_with fail
    go_ret
    exact ⟨rfl, hB1.out.trans (hb.mono (by simp))⟩
  have e : vC p n t xs = asc n 0 xs := by unfold vC; rw [h1, decide_eq_true h2]; rfl
  rw [e]
  clear e
  have hD : decide ((t : Int) < (xs.length : Int)) = false := decide_eq_false (by omega)
  go_enter Try.func49, Try.ntmps49
  go_wp2_with fail
  refine (hv _).mono ?_; rintro e w1 ⟨rfl, hb⟩
  obtain ⟨c0, c1, c2, _⟩ := hX1.out.next hb
  have hBB := Lib.hid (hB1.out.trans (hb.mono (by simp)))
  have hS := h.next hBB.out
  clear hb
  go_wp2
  go_loop [5, 20] (fun l i => ∃ k : Nat, k ≤ xs.length ∧ l = .int .i64 (lst xs k) ∧ i = .int .i64 k ∧ Hid (asc n 0 (xs.take k) = true)) (fun _ i => xs.length - (intOf i).toNat)
  case atStart => exact ⟨0, Nat.zero_le _, rfl, rfl, Lib.hid rfl⟩
  case round =>
    obtain ⟨k, hk, rfl, rfl, hE⟩ := hrel
    by_cases hlt : k < xs.length
    · obtain ⟨b, off, x, hA, _, hx1, hc⟩ := hS.at_ hlt
      subst hA
      have hX := Lib.hid hx1
      have hkN : (k : Int) < xs.length := by omega
      have hxb := hx.at_ hx1
      have hlb := nums_lst hx k
      have hle : lst xs k ≤ n := by
        cases k with
        | zero => unfold lst; simp; omega
        | succ j =>
          have h3 := ((asc_iff _ _ _).1 hE.out).1 (co xs j) (by
            rw [co_get (show j < xs.length by omega)]
            exact List.mem_take_iff_getElem.2 ⟨j, by omega, rfl⟩)
          rw [lst_succ]; exact h3.2
      have hN := Lib.hid (asc_next (n := n) hx1)
      have hbt := fun W => between_any x (lst xs k + 1) n W
      have hl1 : (lst xs (k + 1)) = x := by rw [lst_succ]; exact co_at hx1
      have hL := Lib.hid hl1
      clear hx1 hl1
      generalize lst xs k = l0 at *
      by_cases hbb : l0 + 1 ≤ x ∧ x ≤ n
      · rw [decide_eq_true hbb] at hbt
        have hN2 := Lib.hid (show asc n 0 (xs.take (k + 1)) = true by rw [hN.out, hE.out, decide_eq_true hbb]; rfl)
        go_wp2_with fail
        refine (hbt _).mono ?_; rintro e w2 ⟨rfl, rfl⟩
        go_wp2_with fail
        go_round
        case rel => exact ⟨k + 1, by omega, by rw [hL.out], by simp, hN2⟩
        case measure => simp [intOf]; omega
      · rw [decide_eq_false hbb] at hbt
        have hN2 := Lib.hid (asc_bad (xs := xs) (n := n) (k := k + 1) (by rw [hN.out, hE.out, decide_eq_false hbb]; rfl))
        go_wp2_with fail
        refine (hbt _).mono ?_; rintro e w2 ⟨rfl, rfl⟩
        go_wp2_with fail
        go_ret
        exact ⟨by rw [hN2.out]; rfl, hBB.out⟩
    · obtain rfl : k = xs.length := by omega
      have hN2 := Lib.hid (show asc n 0 xs = true by have := hE.out; rwa [List.take_length] at this)
      go_wp2
      go_ret
      exact ⟨by rw [hN2.out]; rfl, hBB.out⟩
set_option maxHeartbeats 1000000 in
theorem rCoal_any (p n t : Int) (hp : Wd p) (hn : Wi n) (_ht : Wi t) (A : Option Addr) (c : Nat) (xs : List Int) (hx : Nums xs) (w : World) (h : Si w A c xs) :
    Calls Try.prog 34 #[pv p n t, .slice A xs.length c] w fun e w' => e = .returned (.bool (vC p n t xs)) ∧ Below w.heap.size w w' := by
  have hv := fun W => rValid_any p n t hp hn W
  have hB1 := Lib.hid ((Below.refl _ w).alloc (Nat.le_refl _) (.cells #[.int .u64 p, .int .i64 n, .int .i64 t] 24))
  have hX1 := Lib.hid (Bx.made w p n t)
  unfold pv at hv ⊢
  by_cases h1 : vS p n t = true
  case neg =>
    have h1' : vS p n t = false := by simpa using h1
    rw [h1'] at hv
    have e : vC p n t xs = false := by unfold vC; rw [h1']; rfl
    rw [e]
    go_enter Try.func34, Try.ntmps34
    go_wp2_with fail
    refine (hv _).mono ?_; rintro e w1 ⟨rfl, hb⟩
    go_wp2_with fail
    go_ret
    exact ⟨rfl, hB1.out.trans (hb.mono (by simp))⟩
  rw [h1] at hv
  obtain ⟨hp, n1, n2, t1, t2⟩ := vS_is.1 h1
  by_cases h2 : (xs.length : Int) ≤ t
  case neg =>
    have e : vC p n t xs = false := by unfold vC; rw [h1, decide_eq_false h2]; rfl
    rw [e]
    go_enter Try.func34, Try.ntmps34
    go_wp2_with fail
    refine (hv _).mono ?_; rintro e w1 ⟨rfl, hb⟩
    obtain ⟨c0, c1, c2, _⟩ := hX1.out.next hb
    have h2' : t < (xs.length : Int) := by omega
    go_wp2_with fail
    go_ret
    exact ⟨rfl, hB1.out.trans (hb.mono (by simp))⟩
  have hl : xs.length ≤ 1000 := by omega
  have e : vC p n t xs = asc n 0 xs := by unfold vC; rw [h1, decide_eq_true h2]; rfl
  rw [e]
  clear e
  have hD : decide ((t : Int) < (xs.length : Int)) = false := decide_eq_false (by omega)
  go_enter Try.func34, Try.ntmps34
  go_wp2_with fail
  refine (hv _).mono ?_; rintro e w1 ⟨rfl, hb⟩
  have hX2 := Lib.hid (hX1.out.next hb)
  have hBB := Lib.hid (hB1.out.trans (hb.mono (by simp)))
  have hS := h.next hBB.out
  obtain ⟨c0, c1, c2, _⟩ := hX2.out
  clear hb
  go_wp2
  clear c0 c1 c2
  go_loopw [5] (fun i wr => ∃ k m : Nat, k ≤ xs.length ∧ i = .int .i64 k ∧ wr = w1.drewN m ∧ Hid (asc n 0 (xs.take k) = true)) (fun i _ => xs.length - (intOf i).toNat)
  case atStart => exact ⟨0, 0, Nat.zero_le _, rfl, rfl, Lib.hid rfl⟩
  case round =>
    obtain ⟨k, m, hk, rfl, rfl, hE⟩ := hrel
    have hd := fun m => below_drewN (Below.refl w1.heap.size w1) m
    by_cases hlt : k < xs.length
    · obtain ⟨b, off, x, hA, _, hx1, hc⟩ := hS.at_ hlt
      obtain ⟨c0, c1, c2, _⟩ := hX2.out
      subst hA
      have hkN : (k : Int) < xs.length := by omega
      have hN := Lib.hid (asc_next (n := n) hx1)
      by_cases h3 : x < 1
      case pos =>
        have hl0 : 0 ≤ lst xs k := by
          cases k with
          | zero => unfold lst; simp
          | succ j =>
            have h3 := ((asc_iff _ _ _).1 hE.out).1 (co xs j) (by
              rw [co_get (show j < xs.length by omega)]
              exact List.mem_take_iff_getElem.2 ⟨j, by omega, rfl⟩)
            rw [lst_succ]; omega
        have hN2 := Lib.hid (asc_bad (xs := xs) (n := n) (k := k + 1) (by rw [hN.out, hE.out, decide_eq_false (by omega)]; rfl))
        clear hx1 hl0
        have hd1 : decide (x < 1) = true := decide_eq_true h3
        go_wp2
        go_quiet (fail)
        go_wp2
        go_ret
        exact ⟨by rw [hN2.out]; rfl, hBB.out.trans ((below_drewN (hd m) _).mono hBB.out.size)⟩
      have h3' : decide (x < 1) = false := decide_eq_false h3
      by_cases h4 : n < x
      case pos =>
        have hN2 := Lib.hid (asc_bad (xs := xs) (n := n) (k := k + 1) (by rw [hN.out, hE.out, decide_eq_false (by omega)]; rfl))
        have hd1 : decide (n < x) = true := decide_eq_true h4
        clear hx1
        go_wp2
        go_quiet (fail)
        go_wp2
        go_ret
        exact ⟨by rw [hN2.out]; rfl, hBB.out.trans ((below_drewN (hd m) _).mono hBB.out.size)⟩
      have h4' : decide (n < x) = false := decide_eq_false h4
      by_cases h5 : k = 0
      · have hN2 := Lib.hid (show asc n 0 (xs.take (k + 1)) = true by rw [hN.out, hE.out, decide_eq_true (by rw [h5]; unfold lst; simp; omega)]; rfl)
        have hk0 : decide (0 < k) = false := decide_eq_false (by omega)
        clear hx1 h h5
        go_wp2
        go_quiet (fail)
        go_wp2
        go_roundw
        case rel => exact ⟨k + 1, _, by omega, by simp, by first | rfl | (simp; rfl), hN2⟩
        case measure => simp [intOf]; omega
      · have hk0 : decide (0 < k) = true := decide_eq_true (by omega)
        obtain ⟨b', off', y, hA', _, hy1, hc'⟩ := hS.at_ (show k - 1 < xs.length by omega)
        injection hA' with hA'
        injection hA' with hA1 hA2
        subst hA1 hA2
        have hcy : w1.cell? ⟨b, off + (k - 1), none⟩ = some (.int .i64 y) := hc'
        have hly : lst xs k = y := by unfold lst; rw [if_neg h5]; exact co_at hy1
        have hxb := hx.at_ hx1
        have hyb := hx.at_ hy1
        have hj1 : (k : Int) - 1 = ((k - 1 : Nat) : Int) := by omega
        have hj2 : ((k - 1 : Nat) : Int) < xs.length := by omega
        rw [hly] at hN
        clear hx1 hy1 hly hc'
        by_cases h6 : x ≤ y
        · have hN2 := Lib.hid (asc_bad (xs := xs) (n := n) (k := k + 1) (by rw [hN.out, hE.out, decide_eq_false (by omega)]; rfl))
          have h6' : decide (x ≤ y) = true := decide_eq_true h6
          go_wp2
          go_quiet (fail)
          go_wp2
          go_ret
          exact ⟨by rw [hN2.out]; rfl, hBB.out.trans ((below_drewN (hd m) _).mono hBB.out.size)⟩
        · have hN2 := Lib.hid (show asc n 0 (xs.take (k + 1)) = true by rw [hN.out, hE.out, decide_eq_true (by omega)]; rfl)
          have h6' : decide (x ≤ y) = false := decide_eq_false h6
          go_wp2
          go_quiet (fail)
          go_wp2
          go_roundw
          case rel => exact ⟨k + 1, _, by omega, by simp, by first | rfl | (simp; rfl), hN2⟩
          case measure => simp [intOf]; omega
    · obtain rfl : k = xs.length := by omega
      have hN2 := Lib.hid (show asc n 0 xs = true by have := hE.out; rwa [List.take_length] at this)
      go_wp2
      go_ret
      exact ⟨by rw [hN2.out]; rfl, hBB.out.trans ((hd m).mono hBB.out.size)⟩

end Go.Proofs.Ytbhphamfkhccpaa
