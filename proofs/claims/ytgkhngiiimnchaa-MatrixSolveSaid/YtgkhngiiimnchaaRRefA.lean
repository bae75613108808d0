/- Below, Fair, SameList, Same, Rect, square, Dot of the reference of layer 6; nothing that lay is changed. Conditions: where said, at most 1000 words. -/
import Derived.Test.YtgkhngiiimnchaaRInv
namespace Go.Proofs.Ytgkhngiiimnchaa
open Go.RowKit PolyMath FieldMath MatMath

theorem rInv_any (p a : Int) (hp : OkP p) (ha0 : 0 < a) (ha : a < p) (w : World) :
    Calls Try.prog 62 #[.int .u64 p, .int .u64 a] w fun e w' => e = .returned (.tuple #[.int .u64 (fpow p a (p - 2)), .int .i64 0]) ∧ w = w' := by
  have hbd := hp.bd
  go_enter Try.func62, Try.ntmps62
  go_wp2_with (go_at_call 66; refine (rPow_any _ _ _ hp (by omega) (by omega) (by omega) (by omega) _).mono ?_; rintro e w' ⟨rfl, rfl⟩)
  go_ret2
  exact ⟨rfl, rfl⟩

theorem sameL_is (A A' : Option Addr) (xs : List Int) (c c' : Nat) (w : World) (h : Sl w A c xs) (h' : Sl w A' c' xs) (hl : xs.length ≤ 1000) :
    Calls Try.prog 18 #[.slice A xs.length c, .slice A' xs.length c'] w fun e w' => e = .returned (.bool true) ∧ ∃ m, w' = w.drewN m := by
  go_enter Try.func18, Try.ntmps18
  go_wp2
  go_loopw [5] (fun i wr => ∃ k m : Nat, k ≤ xs.length ∧ i = .int .i64 k ∧ wr = w.drewN m) (fun i _ => xs.length - (intOf i).toNat)
  case atStart => exact ⟨0, 0, Nat.zero_le _, rfl, rfl⟩
  case round =>
    obtain ⟨k, m, hk, rfl, rfl⟩ := hrel
    by_cases hlt : k < xs.length
    · obtain ⟨b, off, x, hA, _, hx, hc⟩ := h.at_ hlt
      obtain ⟨b', off', y, hA', _, hy, hc'⟩ := h'.at_ hlt
      subst hA hA'
      obtain rfl : x = y := by rw [hx] at hy; injection hy
      have hi1 : (k : Int) < xs.length := by omega
      clear hx hy
      go_wp2
      go_quiet (fail)
      go_wp2
      go_roundw
      case rel => exact ⟨k + 1, _, by omega, by simp, by first | rfl | (simp; rfl)⟩
      case measure => simp [intOf]; omega
    · obtain rfl : k = xs.length := by omega
      go_wp2
      go_ret
      exact ⟨rfl, m, rfl⟩

set_option maxHeartbeats 1000000 in
theorem sameM_is (A A' : Option Addr) (rows : List (List Int)) (c c' : Nat) (w : World) (h : Sll w A c rows) (h' : Sll w A' c' rows) (hz : Sized rows) :
    Calls Try.prog 17 #[.slice A rows.length c, .slice A' rows.length c'] w fun e w' => e = .returned (.bool true) ∧ ∃ m, w' = w.drewN m := by
  have hl := hz.1
  go_enter Try.func17, Try.ntmps17
  go_wp2
  go_loopw [5] (fun i wr => ∃ k m : Nat, k ≤ rows.length ∧ i = .int .i64 k ∧ wr = w.drewN m) (fun i _ => rows.length - (intOf i).toNat)
  case atStart => exact ⟨0, 0, Nat.zero_le _, rfl, rfl⟩
  case round =>
    obtain ⟨k, m, hk, rfl, rfl⟩ := hrel
    by_cases hlt : k < rows.length
    · obtain ⟨b, off, A1, c1, hA, _, hc, hs⟩ := h.rowAt hlt rfl
      obtain ⟨b', off', A2, c2, hA', _, hc', hs'⟩ := h'.rowAt hlt rfl
      subst hA hA'
      have hi1 : (k : Int) < rows.length := by omega
      have hsm := fun n : Nat => sameL_is A1 A2 (ro rows k) c1 c2 (w.drewN (m + n)) (hs.drewN _) (hs'.drewN _) (by have := hz.2 k; omega)
      go_wp2
      go_quiet (exact quiet_more (hsm _))
      go_wp2
      go_roundw
      case rel => exact ⟨k + 1, _, by omega, by simp, by first | rfl | (simp; rfl)⟩
      case measure => simp [intOf]; omega
    · obtain rfl : k = rows.length := by omega
      go_wp2
      go_ret
      exact ⟨rfl, m, rfl⟩
theorem sameL_b (A A' : Option Addr) (xs : List Int) (c c' : Nat) (w : World) (h : Sl w A c xs) (h' : Sl w A' c' xs) (hl : xs.length ≤ 1000) :
    Calls Try.prog 18 #[.slice A xs.length c, .slice A' xs.length c'] w fun e w' => e = .returned (.bool true) ∧ Below w.heap.size w w' :=
  (sameL_is A A' xs c c' w h h' hl).mono fun _ _ ⟨he, m, hm⟩ => ⟨he, by rw [hm]; exact below_drewN (Below.refl _ w) m⟩
theorem sameM_b (A A' : Option Addr) (rows : List (List Int)) (c c' : Nat) (w : World) (h : Sll w A c rows) (h' : Sll w A' c' rows) (hz : Sized rows) :
    Calls Try.prog 17 #[.slice A rows.length c, .slice A' rows.length c'] w fun e w' => e = .returned (.bool true) ∧ Below w.heap.size w w' :=
  (sameM_is A A' rows c c' w h h' hz).mono fun _ _ ⟨he, m, hm⟩ => ⟨he, by rw [hm]; exact below_drewN (Below.refl _ w) m⟩

/-- At most so many words, all below p. -/
def belB (p : Int) (xs : List Int) (most : Nat) : Bool := decide (xs.length ≤ most ∧ ∀ x ∈ xs, x < p)
theorem below_any (p : Int) (A : Option Addr) (c most : Nat) (xs : List Int) (hm : most ≤ 100) (w : World) (h : Sl w A c xs) :
    Calls Try.prog 24 #[.int .u64 p, .slice A xs.length c, .int .i64 most] w fun e w' => e = .returned (.bool (belB p xs most)) ∧ w = w' := by
  go_enter Try.func24, Try.ntmps24
  go_wp2
  go_loop [7] (fun i => ∃ k : Nat, k ≤ xs.length ∧ k ≤ most + 1 ∧ i = .int .i64 k ∧ Hid (∀ x ∈ xs.take k, x < p)) (fun i => most + 1 - (intOf i).toNat)
  case atStart => exact ⟨0, Nat.zero_le _, Nat.zero_le _, rfl, Lib.hid (fun x hx => by simp at hx)⟩
  case round =>
    obtain ⟨k, hk, hk2, rfl, hE⟩ := hrel
    by_cases hlt : k < xs.length
    · have hi1 : (k : Int) < xs.length := by omega
      by_cases hlm : k ≤ most
      · obtain ⟨b, off, x, hA, _, hx, hc⟩ := h.at_ hlt
        subst hA
        have hX := Lib.hid hx
        have hi2 : (k : Int) ≤ most := by omega
        clear hx
        by_cases hxp : x < p
        · have hN := Lib.hid (show ∀ y ∈ xs.take (k + 1), y < p from fun y hy => by
            rw [List.take_add_one, hX.out] at hy
            rcases List.mem_append.1 hy with h1 | h1
            · exact hE.out y h1
            · have : y = x := by simpa using h1
              subst this; exact hxp)
          have hxp' : ¬ p ≤ x := by omega
          go_wp2
          go_round
          case rel => exact ⟨k + 1, by omega, by omega, by simp, hN⟩
          case measure => simp [intOf]; omega
        · have hN := Lib.hid (show belB p xs most = false from decide_eq_false fun h => hxp (h.2 x (List.mem_of_getElem? hX.out)))
          have hxp' : p ≤ x := by omega
          go_wp2
          go_ret
          rw [hN.out]
          exact ⟨rfl, rfl⟩
      · have hi2 : ¬ (k : Int) ≤ most := by omega
        have hi3 : ¬ (xs.length : Int) ≤ most := by omega
        have hN := Lib.hid (show belB p xs most = false from decide_eq_false fun h => by omega)
        go_wp2
        go_ret
        rw [hN.out]
        exact ⟨rfl, rfl⟩
    · obtain rfl : k = xs.length := by omega
      have hall := hE.out
      rw [List.take_length] at hall
      by_cases hlm : xs.length ≤ most
      · have hi3 : (xs.length : Int) ≤ most := by omega
        have hN := Lib.hid (show belB p xs most = true from decide_eq_true ⟨hlm, hall⟩)
        clear hall
        go_wp2
        go_ret
        rw [hN.out]
        exact ⟨rfl, rfl⟩
      · have hi3 : ¬ (xs.length : Int) ≤ most := by omega
        have hN := Lib.hid (show belB p xs most = false from decide_eq_false fun h => by omega)
        clear hall
        go_wp2
        go_ret
        rw [hN.out]
        exact ⟨rfl, rfl⟩

/-- A supported prime, and at most so many rows and columns of words below it. -/
def fairB (p : Int) (rows : List (List Int)) (most : Nat) : Bool := (qOf p != 0) && decide (rows.length ≤ most ∧ ∀ i, i < rows.length → belB p (ro rows i) most = true)

set_option maxHeartbeats 1000000 in
theorem fair_any (p : Int) (A : Option Addr) (c most : Nat) (rows : List (List Int)) (hm : most ≤ 100) (w : World) (h : Sll w A c rows) :
    Calls Try.prog 19 #[.int .u64 p, .slice A rows.length c, .int .i64 most] w fun e w' => e = .returned (.bool (fairB p rows most)) ∧ Below w.heap.size w w' := by
  have hsup := rSupported_any p w
  have hE : Hid (fairB p rows most = ((qOf p != 0) && decide (rows.length ≤ most ∧ ∀ i, i < rows.length → belB p (ro rows i) most = true))) := Lib.hid rfl
  cases hq : (qOf p != 0) with
  | false =>
    rw [hq] at hsup hE
    go_enter Try.func19, Try.ntmps19
    go_wp2_with fail
    refine hsup.mono ?_; rintro e w1 ⟨rfl, hB⟩
    go_wp2_with fail
    go_ret
    rw [hE.out]
    exact ⟨rfl, hB⟩
  | true =>
    rw [hq, Bool.true_and] at hE
    rw [hq] at hsup
    clear hq
    by_cases hlm : rows.length ≤ most
    · have hl' : ¬ (most : Int) < rows.length := by omega
      go_enter Try.func19, Try.ntmps19
      go_wp2_with fail
      refine hsup.mono ?_; rintro e w1 ⟨rfl, hB⟩
      have hs1 := h.next hB
      clear hsup
      go_wp2_with fail
      simp only [show decide (most < rows.length) = false from decide_eq_false (by omega)]
      go_loop [7] (fun i => ∃ k : Nat, k ≤ rows.length ∧ i = .int .i64 k ∧ Hid (∀ i, i < k → belB p (ro rows i) most = true)) (fun i => rows.length - (intOf i).toNat)
      case atStart => exact ⟨0, Nat.zero_le _, rfl, Lib.hid (fun i hi => absurd hi (Nat.not_lt_zero _))⟩
      case round =>
        obtain ⟨k, hk, rfl, hI⟩ := hrel
        by_cases hlt : k < rows.length
        · obtain ⟨b, off, A1, c1, hA, _, hc, hs⟩ := hs1.rowAt hlt rfl
          subst hA
          have hbl := below_any p A1 c1 most (ro rows k) hm w1 hs
          have hi1 : (k : Int) < rows.length := by omega
          cases hb : belB p (ro rows k) most with
          | true =>
            rw [hb] at hbl
            have hN := Lib.hid (show ∀ i, i < k + 1 → belB p (ro rows i) most = true from fun i hi => by
              by_cases e : i = k
              · subst e; exact hb
              · exact hI.out i (by omega))
            clear hb
            go_wp2_with (go_at_call 24; refine hbl.mono ?_; rintro e w' ⟨rfl, rfl⟩)
            go_round
            case rel => exact ⟨k + 1, by omega, by simp, hN⟩
            case measure => simp [intOf]; omega
          | false =>
            rw [hb] at hbl
            have hN : Hid (fairB p rows most = false) := Lib.hid (by rw [hE.out]; exact decide_eq_false fun h => by rw [h.2 k hlt] at hb; cases hb)
            clear hb
            go_wp2_with (go_at_call 24; refine hbl.mono ?_; rintro e w' ⟨rfl, rfl⟩)
            go_ret
            rw [hN.out]
            exact ⟨rfl, hB⟩
        · obtain rfl : k = rows.length := by omega
          have hN : Hid (fairB p rows most = true) := Lib.hid (by rw [hE.out]; exact decide_eq_true ⟨hlm, hI.out⟩)
          go_wp2
          go_ret
          rw [hN.out]
          exact ⟨rfl, hB⟩
    · have hl' : (most : Int) < rows.length := by omega
      have hN : Hid (fairB p rows most = false) := Lib.hid (by rw [hE.out]; exact decide_eq_false fun h => hlm h.1)
      go_enter Try.func19, Try.ntmps19
      go_wp2_with fail
      refine hsup.mono ?_; rintro e w1 ⟨rfl, hB⟩
      go_wp2_with fail
      go_ret
      rw [hN.out]
      exact ⟨rfl, hB⟩

/-- What Rect answers. -/
def rectN (rows : List (List Int)) : Nat := if rect rows = true then ncol rows else 0
theorem rect_nil : rect [] = true := rfl
set_option maxHeartbeats 1000000 in
theorem rRect_any (A : Option Addr) (c : Nat) (rows : List (List Int)) (hl : rows.length ≤ 9223372036854775807) (w : World) (h : Sll w A c rows) :
    Calls Try.prog 32 #[.slice A rows.length c] w fun e w' => e = .returned (.tuple #[.int .i64 (rectN rows), .bool (rect rows)]) ∧ ∃ m, w' = w.drewN m := by
  by_cases h0 : rows.length = 0
  · have hR : rows = [] := List.eq_nil_of_length_eq_zero h0
    subst hR
    go_enter Try.func32, Try.ntmps32
    go_wp2
    go_ret2
    exact ⟨rfl, 0, rfl⟩
  · obtain ⟨b0, off0, A0, c0, hA0, hb0, hc0, hs0⟩ := h.rowAt (i := 0) (L := ncol rows) (by omega) rfl
    rw [Nat.add_zero] at hc0
    have hz : ((rows.length : Int) == 0) = false := beq_eq_false_iff_ne.2 (by omega)
    have hpos : (0 : Int) < rows.length := by omega
    subst hA0
    go_enter Try.func32, Try.ntmps32
    go_wp2
    go_loopw [4] (fun i wr => ∃ k m : Nat, k ≤ rows.length ∧ i = .int .i64 k ∧ Hid (∀ i, i < k → (ro rows i).length = ncol rows) ∧ wr = w.drewN m) (fun i _ => rows.length - (intOf i).toNat)
    case atStart => exact ⟨0, 0, Nat.zero_le _, rfl, Lib.hid (fun i hi => absurd hi (Nat.not_lt_zero _)), rfl⟩
    case round =>
      obtain ⟨k, m, hk, rfl, hI, rfl⟩ := hrel
      by_cases hlt : k < rows.length
      · obtain ⟨b1, off1, A1, c1, hA, _, hc, hs⟩ := h.rowAt (i := k) hlt rfl
        injection hA with hA
        injection hA with e1 e2
        subst e1 e2
        have hi1 : (k : Int) < rows.length := by omega
        by_cases hb : (ro rows k).length = ncol rows
        · have hN := Lib.hid (show ∀ i, i < k + 1 → (ro rows i).length = ncol rows from fun i hi => by
            by_cases e : i = k
            · subst e; exact hb
            · exact hI.out i (by omega))
          rw [hb] at hc
          clear hb hI
          go_wp2
          go_quiet (fail)
          go_wp2
          go_roundw
          case rel => exact ⟨k + 1, _, by omega, by simp, hN, by first | rfl | (simp; rfl)⟩
          case measure => simp [intOf]; omega
        · have hN : Hid (rect rows = false) := Lib.hid (by
            cases hr : rect rows with
            | false => rfl
            | true => exact absurd (rect_iff.1 hr k hlt) hb)
          have hN2 : Hid (rectN rows = 0) := Lib.hid (by unfold rectN; rw [hN.out]; rfl)
          have hb' : (((ro rows k).length : Int) != ncol rows) = true := bne_iff_ne.2 (by omega)
          clear hI
          go_wp2
          go_quiet (fail)
          go_wp2
          go_ret2
          rw [hN.out, hN2.out]
          exact ⟨rfl, _, by first | rfl | (simp; rfl)⟩
      · obtain rfl : k = rows.length := by omega
        have hN : Hid (rect rows = true) := Lib.hid (rect_iff.2 hI.out)
        have hN2 : Hid (rectN rows = ncol rows) := Lib.hid (by unfold rectN; rw [hN.out]; rfl)
        go_wp2
        go_ret2
        rw [hN.out, hN2.out]
        exact ⟨rfl, m, rfl⟩
theorem rRect_b (A : Option Addr) (c : Nat) (rows : List (List Int)) (hl : rows.length ≤ 9223372036854775807) (w : World) (h : Sll w A c rows) :
    Calls Try.prog 32 #[.slice A rows.length c] w fun e w' => e = .returned (.tuple #[.int .i64 (rectN rows), .bool (rect rows)]) ∧ Below w.heap.size w w' :=
  (rRect_any A c rows hl w h).mono fun _ _ ⟨he, m, hm⟩ => ⟨he, by rw [hm]; exact below_drewN (Below.refl _ w) m⟩

theorem rDot_any (p : Int) (hp : OkP p) (A B : Option Addr) (ca cb n : Nat) (a b : List Int) (ha : El p a) (hb : El p b) (la : a.length = n) (lb : b.length = n) (hl : n ≤ 1000) (w : World) (sa : Sl w A ca a) (sb : Sl w B cb b) :
    Calls Try.prog 30 #[.int .u64 p, .slice A n ca, .slice B n cb] w fun e w' => e = .returned (.int .u64 (dot p a b)) ∧ ∃ m, w' = w.drewN m := by
  have hbd := hp.bd
  have LA := Lib.hid la
  have LB := Lib.hid lb
  clear la lb
  go_enter Try.func30, Try.ntmps30
  go_wp2
  go_loopw [7, 8] (fun s i wr => ∃ (k m : Nat) (S : Int), k ≤ n ∧ i = .int .i64 k ∧ s = .int .u64 S ∧ 0 ≤ S ∧ S < p ∧ Hid (sg k (fun j => co a j * co b j) % p = S) ∧ wr = w.drewN m) (fun _ i _ => n - (intOf i).toNat)
  case atStart => exact ⟨0, 0, 0, Nat.zero_le _, rfl, rfl, by omega, by omega, Lib.hid (Int.zero_emod p), rfl⟩
  case round =>
    obtain ⟨k, m, S, hk, rfl, rfl, hS0, hS, hE, rfl⟩ := hrel
    by_cases hlt : k < n
    · obtain ⟨ba, oa, x, hA, _, hx, hcx⟩ := sa.at_ (k := k) (by rw [LA.out]; exact hlt)
      obtain ⟨bb, ob, y, hB, _, hy, hcy⟩ := sb.at_ (k := k) (by rw [LB.out]; exact hlt)
      subst hA hB
      have hxb := ha x (List.mem_of_getElem? hx)
      have hyb := hb y (List.mem_of_getElem? hy)
      have hm := fmul_bd p x y (by omega)
      have hm2 := fadd_bd p S (fmul p x y) (by omega)
      have hN : Hid (sg (k + 1) (fun j => co a j * co b j) % p = fadd p S (fmul p x y)) := Lib.hid (by
        rw [sg_succ, ← hE.out, fadd_mod, co_at hx, co_at hy])
      have hkn : (k : Int) < n := by omega
      clear hx hy hE
      go_wp2
      go_quiet (first | (go_at_call 48; exact quiet_add_left (rMul_any _ _ _ hp hxb.1 hxb.2 hyb.1 hyb.2 _)) | (go_at_call 47; exact quiet_add_left (rAdd_any _ _ _ hp hS0 hS hm.1 hm.2 _)))
      go_wp2
      go_roundw
      case rel => exact ⟨k + 1, _, _, by omega, by simp, rfl, hm2.1, hm2.2, hN, by first | rfl | (simp; rfl)⟩
      case measure => simp [intOf]; omega
    · obtain rfl : k = n := by omega
      have hR : Hid (dot p a b = S) := Lib.hid (by unfold dot; rw [LA.out]; exact hE.out)
      go_wp2
      go_ret
      rw [hR.out]
      exact ⟨rfl, m, rfl⟩
end Go.Proofs.Ytgkhngiiimnchaa
