/- Texts joined: RRefA, RRefB, RAwake, ROpen, RMath, RGen, RRefC, RRed, RRefD, RRefE, HMath, HFun, HRefC. Each says its own conditions. -/
import Derived.Test.YtkhiiiggmhncbaaGreatMB
import Derived.Test.YtkhiiiggmhncbaaGreatMD
import Derived.Test.YtkhiiiggmhncbaaGreatMC
import Derived.ChangeSlices
import Derived.Carry
import Derived.Deep.Matrix
import Derived.BigRegion
import Derived.Test.YtkhiiiggmhncbaaGreatMA
/- Below, Fair, SameList, Same, Rect, square, Dot of the reference of layer 6; nothing that lay is changed. Conditions: where said, at most 1000 words. -/
namespace Go.Proofs.YtkhiiiggmhncbaaGreat
set_option maxRecDepth 100000
open Go.RowKit PolyMath FieldMath MatMath

theorem sameL_is (A A' : Option Addr) (xs : List Int) (c c' : Nat) (w : World) (h : Sl w A c xs) (h' : Sl w A' c' xs) (hl : xs.length ≤ 1000) :
    Calls Tryz.prog 13 #[.slice A xs.length c, .slice A' xs.length c'] w fun e w' => e = .returned (.bool true) ∧ ∃ m, w' = w.drewN m := by
  go_enter Tryz.func13, Tryz.ntmps13
  go_wp2
  go_loopw [5] (fun i wr => ∃ k m : Nat, k ≤ xs.length ∧ i = .int .i64 k ∧ wr = w.drewN m) (fun i _ => xs.length - (intOf i).toNat)
  case atStart => exact ⟨0, 0, Nat.zero_le _, rfl, rfl⟩
  case round =>
    obtain ⟨k, m, hk, rfl, rfl⟩ := hrel
    by_cases hlt : k < xs.length
    · obtain ⟨b, off, x, hA, _, hx, hc⟩ := h.at_ hlt
      obtain ⟨b', off', y, hA', _, hy, hc'⟩ := h'.at_ hlt
      subst hA hA'
      obtain rfl : x = y := by rw [hx] at hy; injection hy
      have hi1 : (k : Int) < xs.length := by omega
      clear hx hy
      go_wp2
      go_quiet (fail)
      go_wp2
      go_roundw
      case rel => exact ⟨k + 1, _, by omega, by simp, by first | rfl | (simp; rfl)⟩
      case measure => simp [intOf]; omega
    · obtain rfl : k = xs.length := by omega
      go_wp2
      go_ret
      exact ⟨rfl, m, rfl⟩

set_option maxHeartbeats 1000000 in
theorem sameM_is (A A' : Option Addr) (rows : List (List Int)) (c c' : Nat) (w : World) (h : Sll w A c rows) (h' : Sll w A' c' rows) (hz : Sized rows) :
    Calls Tryz.prog 8 #[.slice A rows.length c, .slice A' rows.length c'] w fun e w' => e = .returned (.bool true) ∧ ∃ m, w' = w.drewN m := by
  have hl := hz.1
  go_enter Tryz.func8, Tryz.ntmps8
  go_wp2
  go_loopw [5] (fun i wr => ∃ k m : Nat, k ≤ rows.length ∧ i = .int .i64 k ∧ wr = w.drewN m) (fun i _ => rows.length - (intOf i).toNat)
  case atStart => exact ⟨0, 0, Nat.zero_le _, rfl, rfl⟩
  case round =>
    obtain ⟨k, m, hk, rfl, rfl⟩ := hrel
    by_cases hlt : k < rows.length
    · obtain ⟨b, off, A1, c1, hA, _, hc, hs⟩ := h.rowAt hlt rfl
      obtain ⟨b', off', A2, c2, hA', _, hc', hs'⟩ := h'.rowAt hlt rfl
      subst hA hA'
      have hi1 : (k : Int) < rows.length := by omega
      have hsm := fun n : Nat => sameL_is A1 A2 (ro rows k) c1 c2 (w.drewN (m + n)) (hs.drewN _) (hs'.drewN _) (by have := hz.2 k; omega)
      go_wp2
      go_quiet (exact quiet_more (hsm _))
      go_wp2
      go_roundw
      case rel => exact ⟨k + 1, _, by omega, by simp, by first | rfl | (simp; rfl)⟩
      case measure => simp [intOf]; omega
    · obtain rfl : k = rows.length := by omega
      go_wp2
      go_ret
      exact ⟨rfl, m, rfl⟩
theorem sameL_b (A A' : Option Addr) (xs : List Int) (c c' : Nat) (w : World) (h : Sl w A c xs) (h' : Sl w A' c' xs) (hl : xs.length ≤ 1000) :
    Calls Tryz.prog 13 #[.slice A xs.length c, .slice A' xs.length c'] w fun e w' => e = .returned (.bool true) ∧ Below w.heap.size w w' :=
  (sameL_is A A' xs c c' w h h' hl).mono fun _ _ ⟨he, m, hm⟩ => ⟨he, by rw [hm]; exact below_drewN (Below.refl _ w) m⟩
theorem sameM_b (A A' : Option Addr) (rows : List (List Int)) (c c' : Nat) (w : World) (h : Sll w A c rows) (h' : Sll w A' c' rows) (hz : Sized rows) :
    Calls Tryz.prog 8 #[.slice A rows.length c, .slice A' rows.length c'] w fun e w' => e = .returned (.bool true) ∧ Below w.heap.size w w' :=
  (sameM_is A A' rows c c' w h h' hz).mono fun _ _ ⟨he, m, hm⟩ => ⟨he, by rw [hm]; exact below_drewN (Below.refl _ w) m⟩

/-- At most so many words, all below p. -/
def belB (p : Int) (xs : List Int) (most : Nat) : Bool := decide (xs.length ≤ most ∧ ∀ x ∈ xs, x < p)
theorem below_any6 (p : Int) (A : Option Addr) (c most : Nat) (xs : List Int) (hm : most ≤ 100) (w : World) (h : Sl w A c xs) :
    Calls Tryz.prog 10 #[.int .u64 p, .slice A xs.length c, .int .i64 most] w fun e w' => e = .returned (.bool (belB p xs most)) ∧ w = w' := by
  go_enter Tryz.func10, Tryz.ntmps10
  go_wp2
  go_loop [7] (fun i => ∃ k : Nat, k ≤ xs.length ∧ k ≤ most + 1 ∧ i = .int .i64 k ∧ Hid (∀ x ∈ xs.take k, x < p)) (fun i => most + 1 - (intOf i).toNat)
  case atStart => exact ⟨0, Nat.zero_le _, Nat.zero_le _, rfl, Lib.hid (fun x hx => by simp at hx)⟩
  case round =>
    obtain ⟨k, hk, hk2, rfl, hE⟩ := hrel
    by_cases hlt : k < xs.length
    · have hi1 : (k : Int) < xs.length := by omega
      by_cases hlm : k ≤ most
      · obtain ⟨b, off, x, hA, _, hx, hc⟩ := h.at_ hlt
        subst hA
        have hX := Lib.hid hx
        have hi2 : (k : Int) ≤ most := by omega
        clear hx
        by_cases hxp : x < p
        · have hN := Lib.hid (show ∀ y ∈ xs.take (k + 1), y < p from fun y hy => by
            rw [List.take_add_one, hX.out] at hy
            rcases List.mem_append.1 hy with h1 | h1
            · exact hE.out y h1
            · have : y = x := by simpa using h1
              subst this; exact hxp)
          have hxp' : ¬ p ≤ x := by omega
          go_wp2
          go_round
          case rel => exact ⟨k + 1, by omega, by omega, by simp, hN⟩
          case measure => simp [intOf]; omega
        · have hN := Lib.hid (show belB p xs most = false from decide_eq_false fun h => hxp (h.2 x (List.mem_of_getElem? hX.out)))
          have hxp' : p ≤ x := by omega
          go_wp2
          go_ret
          rw [hN.out]
          exact ⟨rfl, rfl⟩
      · have hi2 : ¬ (k : Int) ≤ most := by omega
        have hi3 : ¬ (xs.length : Int) ≤ most := by omega
        have hN := Lib.hid (show belB p xs most = false from decide_eq_false fun h => by omega)
        go_wp2
        go_ret
        rw [hN.out]
        exact ⟨rfl, rfl⟩
    · obtain rfl : k = xs.length := by omega
      have hall := hE.out
      rw [List.take_length] at hall
      by_cases hlm : xs.length ≤ most
      · have hi3 : (xs.length : Int) ≤ most := by omega
        have hN := Lib.hid (show belB p xs most = true from decide_eq_true ⟨hlm, hall⟩)
        clear hall
        go_wp2
        go_ret
        rw [hN.out]
        exact ⟨rfl, rfl⟩
      · have hi3 : ¬ (xs.length : Int) ≤ most := by omega
        have hN := Lib.hid (show belB p xs most = false from decide_eq_false fun h => by omega)
        clear hall
        go_wp2
        go_ret
        rw [hN.out]
        exact ⟨rfl, rfl⟩

/-- A supported prime, and at most so many rows and columns of words below it. -/
def fairB (p : Int) (rows : List (List Int)) (most : Nat) : Bool := (qOf p != 0) && decide (rows.length ≤ most ∧ ∀ i, i < rows.length → belB p (ro rows i) most = true)

set_option maxHeartbeats 1000000 in
theorem fair_any (p : Int) (A : Option Addr) (c most : Nat) (rows : List (List Int)) (hm : most ≤ 100) (w : World) (h : Sll w A c rows) :
    Calls Tryz.prog 9 #[.int .u64 p, .slice A rows.length c, .int .i64 most] w fun e w' => e = .returned (.bool (fairB p rows most)) ∧ Below w.heap.size w w' := by
  have hsup := rSupported_any p w
  have hE : Hid (fairB p rows most = ((qOf p != 0) && decide (rows.length ≤ most ∧ ∀ i, i < rows.length → belB p (ro rows i) most = true))) := Lib.hid rfl
  cases hq : (qOf p != 0) with
  | false =>
    rw [hq] at hsup hE
    go_enter Tryz.func9, Tryz.ntmps9
    go_wp2_with fail
    refine hsup.mono ?_; rintro e w1 ⟨rfl, hB⟩
    go_wp2_with fail
    go_ret
    rw [hE.out]
    exact ⟨rfl, hB⟩
  | true =>
    rw [hq, Bool.true_and] at hE
    rw [hq] at hsup
    clear hq
    by_cases hlm : rows.length ≤ most
    · have hl' : ¬ (most : Int) < rows.length := by omega
      go_enter Tryz.func9, Tryz.ntmps9
      go_wp2_with fail
      refine hsup.mono ?_; rintro e w1 ⟨rfl, hB⟩
      have hs1 := h.next hB
      clear hsup
      go_wp2_with fail
      simp only [show decide (most < rows.length) = false from decide_eq_false (by omega)]
      go_loop [7] (fun i => ∃ k : Nat, k ≤ rows.length ∧ i = .int .i64 k ∧ Hid (∀ i, i < k → belB p (ro rows i) most = true)) (fun i => rows.length - (intOf i).toNat)
      case atStart => exact ⟨0, Nat.zero_le _, rfl, Lib.hid (fun i hi => absurd hi (Nat.not_lt_zero _))⟩
      case round =>
        obtain ⟨k, hk, rfl, hI⟩ := hrel
        by_cases hlt : k < rows.length
        · obtain ⟨b, off, A1, c1, hA, _, hc, hs⟩ := hs1.rowAt hlt rfl
          subst hA
          have hbl := below_any6 p A1 c1 most (ro rows k) hm w1 hs
          have hi1 : (k : Int) < rows.length := by omega
          cases hb : belB p (ro rows k) most with
          | true =>
            rw [hb] at hbl
            have hN := Lib.hid (show ∀ i, i < k + 1 → belB p (ro rows i) most = true from fun i hi => by
              by_cases e : i = k
              · subst e; exact hb
              · exact hI.out i (by omega))
            clear hb
            go_wp2_with (go_at_call 10; refine hbl.mono ?_; rintro e w' ⟨rfl, rfl⟩)
            go_round
            case rel => exact ⟨k + 1, by omega, by simp, hN⟩
            case measure => simp [intOf]; omega
          | false =>
            rw [hb] at hbl
            have hN : Hid (fairB p rows most = false) := Lib.hid (by rw [hE.out]; exact decide_eq_false fun h => by rw [h.2 k hlt] at hb; cases hb)
            clear hb
            go_wp2_with (go_at_call 10; refine hbl.mono ?_; rintro e w' ⟨rfl, rfl⟩)
            go_ret
            rw [hN.out]
            exact ⟨rfl, hB⟩
        · obtain rfl : k = rows.length := by omega
          have hN : Hid (fairB p rows most = true) := Lib.hid (by rw [hE.out]; exact decide_eq_true ⟨hlm, hI.out⟩)
          go_wp2
          go_ret
          rw [hN.out]
          exact ⟨rfl, hB⟩
    · have hl' : (most : Int) < rows.length := by omega
      have hN : Hid (fairB p rows most = false) := Lib.hid (by rw [hE.out]; exact decide_eq_false fun h => hlm h.1)
      go_enter Tryz.func9, Tryz.ntmps9
      go_wp2_with fail
      refine hsup.mono ?_; rintro e w1 ⟨rfl, hB⟩
      go_wp2_with fail
      go_ret
      rw [hN.out]
      exact ⟨rfl, hB⟩

/-- What Rect answers. -/
def rectN (rows : List (List Int)) : Nat := if rect rows = true then ncol rows else 0
theorem rect_nil : rect [] = true := rfl
set_option maxHeartbeats 1000000 in
theorem rRect_any (A : Option Addr) (c : Nat) (rows : List (List Int)) (hl : rows.length ≤ 9223372036854775807) (w : World) (h : Sll w A c rows) :
    Calls Tryz.prog 48 #[.slice A rows.length c] w fun e w' => e = .returned (.tuple #[.int .i64 (rectN rows), .bool (rect rows)]) ∧ ∃ m, w' = w.drewN m := by
  by_cases h0 : rows.length = 0
  · have hR : rows = [] := List.eq_nil_of_length_eq_zero h0
    subst hR
    go_enter Tryz.func48, Tryz.ntmps48
    go_wp2
    go_ret2
    exact ⟨rfl, 0, rfl⟩
  · obtain ⟨b0, off0, A0, c0, hA0, hb0, hc0, hs0⟩ := h.rowAt (i := 0) (L := ncol rows) (by omega) rfl
    rw [Nat.add_zero] at hc0
    have hz : ((rows.length : Int) == 0) = false := beq_eq_false_iff_ne.2 (by omega)
    have hpos : (0 : Int) < rows.length := by omega
    subst hA0
    go_enter Tryz.func48, Tryz.ntmps48
    go_wp2
    go_loopw [4] (fun i wr => ∃ k m : Nat, k ≤ rows.length ∧ i = .int .i64 k ∧ Hid (∀ i, i < k → (ro rows i).length = ncol rows) ∧ wr = w.drewN m) (fun i _ => rows.length - (intOf i).toNat)
    case atStart => exact ⟨0, 0, Nat.zero_le _, rfl, Lib.hid (fun i hi => absurd hi (Nat.not_lt_zero _)), rfl⟩
    case round =>
      obtain ⟨k, m, hk, rfl, hI, rfl⟩ := hrel
      by_cases hlt : k < rows.length
      · obtain ⟨b1, off1, A1, c1, hA, _, hc, hs⟩ := h.rowAt (i := k) hlt rfl
        injection hA with hA
        injection hA with e1 e2
        subst e1 e2
        have hi1 : (k : Int) < rows.length := by omega
        by_cases hb : (ro rows k).length = ncol rows
        · have hN := Lib.hid (show ∀ i, i < k + 1 → (ro rows i).length = ncol rows from fun i hi => by
            by_cases e : i = k
            · subst e; exact hb
            · exact hI.out i (by omega))
          rw [hb] at hc
          clear hb hI
          go_wp2
          go_quiet (fail)
          go_wp2
          go_roundw
          case rel => exact ⟨k + 1, _, by omega, by simp, hN, by first | rfl | (simp; rfl)⟩
          case measure => simp [intOf]; omega
        · have hN : Hid (rect rows = false) := Lib.hid (by
            cases hr : rect rows with
            | false => rfl
            | true => exact absurd (rect_iff.1 hr k hlt) hb)
          have hN2 : Hid (rectN rows = 0) := Lib.hid (by unfold rectN; rw [hN.out]; rfl)
          have hb' : (((ro rows k).length : Int) != ncol rows) = true := bne_iff_ne.2 (by omega)
          clear hI
          go_wp2
          go_quiet (fail)
          go_wp2
          go_ret2
          rw [hN.out, hN2.out]
          exact ⟨rfl, _, by first | rfl | (simp; rfl)⟩
      · obtain rfl : k = rows.length := by omega
        have hN : Hid (rect rows = true) := Lib.hid (rect_iff.2 hI.out)
        have hN2 : Hid (rectN rows = ncol rows) := Lib.hid (by unfold rectN; rw [hN.out]; rfl)
        go_wp2
        go_ret2
        rw [hN.out, hN2.out]
        exact ⟨rfl, m, rfl⟩
theorem rRect_b (A : Option Addr) (c : Nat) (rows : List (List Int)) (hl : rows.length ≤ 9223372036854775807) (w : World) (h : Sll w A c rows) :
    Calls Tryz.prog 48 #[.slice A rows.length c] w fun e w' => e = .returned (.tuple #[.int .i64 (rectN rows), .bool (rect rows)]) ∧ Below w.heap.size w w' :=
  (rRect_any A c rows hl w h).mono fun _ _ ⟨he, m, hm⟩ => ⟨he, by rw [hm]; exact below_drewN (Below.refl _ w) m⟩

theorem rDot_any (p : Int) (hp : OkP p) (A B : Option Addr) (ca cb n : Nat) (a b : List Int) (ha : El p a) (hb : El p b) (la : a.length = n) (lb : b.length = n) (hl : n ≤ 1000) (w : World) (sa : Sl w A ca a) (sb : Sl w B cb b) :
    Calls Tryz.prog 50 #[.int .u64 p, .slice A n ca, .slice B n cb] w fun e w' => e = .returned (.int .u64 (dot p a b)) ∧ ∃ m, w' = w.drewN m := by
  have hbd := hp.bd
  have LA := Lib.hid la
  have LB := Lib.hid lb
  clear la lb
  go_enter Tryz.func50, Tryz.ntmps50
  go_wp2
  go_loopw [7, 8] (fun s i wr => ∃ (k m : Nat) (S : Int), k ≤ n ∧ i = .int .i64 k ∧ s = .int .u64 S ∧ 0 ≤ S ∧ S < p ∧ Hid (sg k (fun j => co a j * co b j) % p = S) ∧ wr = w.drewN m) (fun _ i _ => n - (intOf i).toNat)
  case atStart => exact ⟨0, 0, 0, Nat.zero_le _, rfl, rfl, by omega, by omega, Lib.hid (Int.zero_emod p), rfl⟩
  case round =>
    obtain ⟨k, m, S, hk, rfl, rfl, hS0, hS, hE, rfl⟩ := hrel
    by_cases hlt : k < n
    · obtain ⟨ba, oa, x, hA, _, hx, hcx⟩ := sa.at_ (k := k) (by rw [LA.out]; exact hlt)
      obtain ⟨bb, ob, y, hB, _, hy, hcy⟩ := sb.at_ (k := k) (by rw [LB.out]; exact hlt)
      subst hA hB
      have hxb := ha x (List.mem_of_getElem? hx)
      have hyb := hb y (List.mem_of_getElem? hy)
      have hm := fmul_bd p x y (by omega)
      have hm2 := fadd_bd p S (fmul p x y) (by omega)
      have hN : Hid (sg (k + 1) (fun j => co a j * co b j) % p = fadd p S (fmul p x y)) := Lib.hid (by
        rw [sg_succ, ← hE.out, fadd_mod, co_at hx, co_at hy])
      have hkn : (k : Int) < n := by omega
      clear hx hy hE
      go_wp2
      go_quiet (first | (go_at_call 43; exact quiet_add_left (rMul_any _ _ _ hp hxb.1 hxb.2 hyb.1 hyb.2 _)) | (go_at_call 73; exact quiet_add_left (rAdd_any _ _ _ hp hS0 hS hm.1 hm.2 _)))
      go_wp2
      go_roundw
      case rel => exact ⟨k + 1, _, _, by omega, by simp, rfl, hm2.1, hm2.2, hN, by first | rfl | (simp; rfl)⟩
      case measure => simp [intOf]; omega
    · obtain rfl : k = n := by omega
      have hR : Hid (dot p a b = S) := Lib.hid (by unfold dot; rw [LA.out]; exact hE.out)
      go_wp2
      go_ret
      rw [hR.out]
      exact ⟨rfl, m, rfl⟩
end Go.Proofs.YtkhiiiggmhncbaaGreat

/- Turn and One of the reference of layer 6: the transpose and the identity, in memory of the call's own; nothing that lay is changed. Conditions: at most 100 rows and columns, the matrix rectangular. -/
namespace Go.Proofs.YtkhiiiggmhncbaaGreat
set_option maxRecDepth 100000
open Go.RowKit PolyMath FieldMath MatMath

theorem own_wide {w : World} {base base' t n : Nat} {v : Value} {xs : List Value} (h : w.ownsRow base t 1 v n xs) (hb : base' ≤ base) : w.ownsRow base' t 1 v n xs :=
  ⟨h.1, h.2.imp id fun ⟨g, cap, cur, a1, a2, a3⟩ => ⟨g, cap, cur, a1, Nat.le_trans hb a2, a3⟩⟩
theorem MP.wide {base base' N k : Nat} {w : World} {v : Value} {vs : List Value} {rows : List (List Int)} (h : MP base w v N k vs rows) (hb : base' ≤ base) : MP base' w v N k vs rows :=
  ⟨own_wide h.head hb, h.len, h.le, fun i hi => by obtain ⟨u, h1, h2⟩ := h.row i hi; exact ⟨u, h1, own_wide h2 hb⟩, h.apart⟩
/-- One row more. -/
theorem MP.add {base N : Nat} {w0 w w' : World} {v v' u : Value} {vs : List Value} {rows : List (List Int)} {r : List Int} (h : MP base w0 v N N vs rows) (hb : Below w0.heap.size w0 w) (hbase : base ≤ w0.heap.size)
    (hu : w.ownsRow w0.heap.size 22 1 u r.length (r.map (Value.int .u64))) (hown : w'.ownsRow base 23 1 v' (N + 1) (vs ++ [u])) (hg : w.grownBy w' v.ownBlock) : MP base w' v' (N + 1) (N + 1) (vs ++ [u]) (rows ++ [r]) := by
  have h1 := h.next hb
  have hvl := h.vlen
  have hrl := h.len
  have keep : ∀ {x : Value} {b n : Nat} {xs : List Int}, w.ownsRow b 22 1 x n (xs.map (Value.int .u64)) → w'.ownsRow b 22 1 x n (xs.map (Value.int .u64)) := fun {x b n xs} hx =>
    World.ownsRow.kept hx hg (by
      cases hq : x.ownBlock with
      | none => exact .inl rfl
      | some e =>
        refine .inr fun e' => ?_
        obtain ⟨c1, f1, t1⟩ := own_tag hx e hq
        obtain ⟨c2, f2, t2⟩ := own_tag h1.head e e'.symm
        rw [t1] at t2
        cases t2)
  have roL : ∀ i, i < N → ro (rows ++ [r]) i = ro rows i := fun i hi => by unfold ro; rw [List.getElem?_append_left (by omega)]
  have roR : ro (rows ++ [r]) N = r := by unfold ro; rw [List.getElem?_append_right (by omega), show N - rows.length = 0 by omega]; rfl
  have vR : (vs ++ [u])[N]? = some u := by rw [List.getElem?_append_right (by omega), show N - vs.length = 0 by omega]; rfl
  refine ⟨hown, by rw [List.length_append, List.length_singleton, hrl], Nat.le_refl _, fun i hi => ?_, fun i j x y e hi hj hx hy he he' => ?_⟩
  · by_cases e : i = N
    · subst e
      exact ⟨u, vR, by rw [roR]; exact keep (own_wide hu hbase)⟩
    · obtain ⟨x, h2, h3⟩ := h1.row i (by omega)
      exact ⟨x, by rw [List.getElem?_append_left (by omega)]; exact h2, by rw [roL i (by omega)]; exact keep h3⟩
  · have old : ∀ i x, i < N → (vs ++ [u])[i]? = some x → x.ownBlock = some e → e < w0.heap.size := fun i x hi hx he => by
      rw [List.getElem?_append_left (by omega)] at hx
      exact (World.ownsRow.lt (h.own hi hx) e he).2
    have new : ∀ x, (vs ++ [u])[N]? = some x → x.ownBlock = some e → w0.heap.size ≤ e := fun x hx he => by
      rw [vR] at hx
      injection hx with hx
      subst hx
      exact (World.ownsRow.lt hu e he).1
    by_cases e1 : i = N
    · by_cases e2 : j = N
      · omega
      · subst e1
        have := new x hx he
        have := old j y (by omega) hy he'
        omega
    · by_cases e2 : j = N
      · subst e2
        have := new y hy he'
        have := old i x (by omega) hx he
        omega
      · rw [List.getElem?_append_left (by omega)] at hx hy
        exact h.apart i j x y e (by omega) (by omega) hx hy he he'
theorem MP.zero (base : Nat) (w : World) : MP base w (.slice none 0 0) 0 0 [] [] :=
  ⟨World.ownsRow_nil _ _ _ _, rfl, Nat.le_refl _, fun _ hi => absurd hi (Nat.not_lt_zero _), fun _ _ _ _ _ hi => absurd hi (Nat.not_lt_zero _)⟩

/-- The identity. -/
def oneL (n : Nat) : List (List Int) := (List.range n).map fun i => unitL n i
theorem oneL_len (n : Nat) : (oneL n).length = n := by unfold oneL; simp
def oneK (n k : Nat) : List (List Int) := (List.range k).map fun i => unitL n i
theorem oneK_len (n k : Nat) : (oneK n k).length = k := by unfold oneK; simp
theorem oneK_next (n k : Nat) : oneK n (k + 1) = oneK n k ++ [unitL n k] := by unfold oneK; rw [List.range_succ, List.map_append]; rfl

set_option maxHeartbeats 1000000 in
theorem rOne_any (n : Nat) (hn : n ≤ 100) (w : World) :
    Calls Tryz.prog 47 #[.int .i64 n] w fun e w' => MFresh w e w' (oneL n) := by
  obtain ⟨i0, hi0, hz0, hz1, hz2⟩ := info_parts info_u64
  obtain ⟨j0, hj0, hy0, hy1, hy2⟩ := info_parts info_sl
  have hb8 : Hid (i0.bytes * n ≤ 281474976710656) := Lib.hid (by rw [hz2]; omega)
  go_enter Tryz.func47, Tryz.ntmps47
  go_wp2
  go_loopw [3, 4] (fun v i wr => ∃ (k : Nat) (vs : List Value), k ≤ n ∧ i = .int .i64 k ∧ MP w.heap.size wr v k k vs (oneK n k) ∧ Below w.heap.size w wr) (fun _ i _ => n - (intOf i).toNat)
  case atStart => exact ⟨0, [], Nat.zero_le _, rfl, MP.zero _ _, Below.refl _ _⟩
  case round =>
    obtain ⟨k, vs, hk, rfl, hM, hB⟩ := hrel
    have hsz : w.heap.size ≤ wr.heap.size := hB.size
    by_cases hlt : k < n
    · have hin : (k : Int) < n := by omega
      have hMH := Lib.hid hM
      obtain ⟨A1, c1, hv⟩ := row_form hM.head
      subst hv
      clear hM
      go_wp2_with (first | (at_make; refine wpList_make_full _ rfl _ _ 23 rfl wr.heap.size 22 i0 (.int .u64 0) 1 Tryz.underlying23 hi0 hz0 hz1 .i64 .i64 _ _ n rfl rfl (by omega) (by omega) hb8.out (by simp only [maxLen]; omega) (Nat.le_refl _) ?_; intro w1 hown1 hgrow1; simp only [Value.cells, toList_madeCells_one, Nat.mul_one] at hown1; have hown2 : OwnAt w1 wr.heap.size wr.heap.size n n (List.replicate n 0) := (by unfold OwnAt; simpa using hown1); have hfz := hown2.frozen k; have hltw := hown2.lt; have hcell := hown2.cell (i := k) (x := 0) (by rw [List.getElem?_replicate, if_pos hlt]); have hu1 := hown2.put k 1; have hb1 : Below wr.heap.size wr (w1.setCell ⟨wr.heap.size, k, none⟩ (.int .u64 1)) := ((Below.refl _ wr).grown hgrow1 (Nat.le_refl _) (fun k e => by cases e)).setCell (p := ⟨wr.heap.size, k, none⟩) (Nat.le_refl _) _; obtain ⟨w2, hw2⟩ : ∃ w2, w2 = w1.setCell ⟨wr.heap.size, k, none⟩ (.int .u64 1) := ⟨_, rfl⟩; have hu2 : OwnAt w2 wr.heap.size wr.heap.size n n (unitL n k) := (by rw [hw2]; exact hu1); have hb2 : Below wr.heap.size wr w2 := (by rw [hw2]; exact hb1); have hsw : w2.heap.size = w1.heap.size := (by rw [hw2]; simp); have hb3 := hb2.alloc hb2.size (.cells #[.slice (some ⟨wr.heap.size, 0, none⟩) n n] 23); have hu3H := Lib.hid (hu2.push (.cells #[.slice (some ⟨wr.heap.size, 0, none⟩) n n] 23)); have hh3 := Lib.hid (hMH.out.next hb3).head; have hsz2 := hb2.size; clear hown1 hown2 hu1 hb1 hu2) | (at_builtin; rw [← hw2]; refine wpList_append_own _ rfl _ _ 24 rfl w.heap.size 23 j0 (.slice none 0 0) 1 24 Tryz.underlying24 hj0 hy0 hy1 hy2 rfl (by decide) _ _ _ rfl hh3.out ⟨w1.heap.size, 0, none⟩ 1 1 [.slice (some ⟨wr.heap.size, 0, none⟩) n n] rfl rfl (by rw [← hsw]; exact cell_one_new _ _ _) (by simp [Value.oneCell']) (by simp only [maxLen]; omega) (by omega) (by simp; omega) ?_; intro v4 w4 hown4 hgrow4 _))
      go_roundw
      case rel => exact ⟨k + 1, _, by omega, by simp, by rw [oneK_next]; exact hMH.out.add hb3 hsz (by rw [unitL_len]; exact hu3H.out) hown4 hgrow4, (hB.trans (hb3.mono hsz)).grown hgrow4 (by simp; omega) (fun x e => (World.ownsRow.lt hh3.out x e).1)⟩
      case measure => simp [intOf]; omega
    · obtain rfl : k = n := by omega
      go_wp2
      go_ret
      exact ⟨_, vs, rfl, by rw [oneL_len]; exact hM, hB⟩

/-- The transpose of a rectangular matrix. -/
def trn (R : List (List Int)) : List (List Int) := (List.range (ncol R)).map fun k => (List.range R.length).map fun i => mx R i k
theorem trn_len (R : List (List Int)) : (trn R).length = ncol R := by unfold trn; simp
theorem trn_ro {R : List (List Int)} {k : Nat} (h : k < ncol R) : ro (trn R) k = (List.range R.length).map fun i => mx R i k := ro_map _ h
def trnP (R : List (List Int)) (n k i : Nat) : List (List Int) := (List.range n).map fun j => if j < k then (List.range R.length).map (fun t => mx R t j) else if j = k then (List.range i).map (fun t => mx R t j) else []
theorem trnP_len (R : List (List Int)) (n k i : Nat) : (trnP R n k i).length = n := by unfold trnP; simp
theorem trnP_ro (R : List (List Int)) {n : Nat} (k i : Nat) {j : Nat} (h : j < n) : ro (trnP R n k i) j = if j < k then (List.range R.length).map (fun t => mx R t j) else if j = k then (List.range i).map (fun t => mx R t j) else [] := ro_map _ h
theorem trnP_here (R : List (List Int)) {n k : Nat} (i : Nat) (h : k < n) : ro (trnP R n k i) k = (List.range i).map (fun t => mx R t k) := by rw [trnP_ro R k i h, if_neg (by omega), if_pos rfl]
theorem trnP_next (R : List (List Int)) {n k : Nat} (i : Nat) (h : k < n) : (trnP R n k i).set k ((List.range i).map (fun t => mx R t k) ++ [mx R i k]) = trnP R n k (i + 1) :=
  rows_ext (by rw [List.length_set, trnP_len, trnP_len]) fun j hj => by
    rw [List.length_set, trnP_len] at hj
    rw [ro_set (by rw [trnP_len]; exact h), trnP_ro R k i hj, trnP_ro R k (i + 1) hj]
    by_cases e : j = k
    · subst e; rw [if_pos rfl, if_neg (by omega), if_pos rfl, map_next]
    · rw [if_neg e]
      by_cases h2 : j < k
      · rw [if_pos h2, if_pos h2]
      · rw [if_neg h2, if_neg h2, if_neg e, if_neg e]
theorem trnP_row (R : List (List Int)) (n k : Nat) : trnP R n k R.length = trnP R n (k + 1) 0 :=
  rows_ext (by rw [trnP_len, trnP_len]) fun j hj => by
    rw [trnP_len] at hj
    rw [trnP_ro R k _ hj, trnP_ro R (k + 1) 0 hj]
    by_cases h1 : j < k
    · rw [if_pos h1, if_pos (by omega)]
    · rw [if_neg h1]
      by_cases h2 : j = k
      · rw [if_pos h2, if_pos (by omega)]
      · rw [if_neg h2, if_neg (by omega)]
        by_cases h3 : j = k + 1
        · rw [if_pos h3]; rfl
        · rw [if_neg h3]
theorem trnP_done (R : List (List Int)) : trnP R (ncol R) (ncol R) 0 = trn R := rows_ext (by rw [trnP_len, trn_len]) fun j hj => by
  rw [trnP_len] at hj
  rw [trnP_ro R _ _ hj, if_pos hj, trn_ro hj]
theorem trnP_zero (R : List (List Int)) (n j : Nat) : ro (trnP R n 0 0) j = [] := by
  by_cases h : j < n
  · rw [trnP_ro R 0 0 h, if_neg (by omega)]
    split <;> rfl
  · unfold ro; rw [List.getElem?_eq_none (by rw [trnP_len]; omega)]; rfl

set_option maxRecDepth 100000 in
set_option maxHeartbeats 2000000 in
theorem rTurn_any (A : Option Addr) (c : Nat) (rows : List (List Int)) (hz : Sized rows) (hr : rect rows = true) (w : World) (h : Sll w A c rows) :
    Calls Tryz.prog 49 #[.slice A rows.length c] w fun e w' => MFresh w e w' (trn rows) := by
  obtain ⟨i0, hi0, hz0, hz1, hz2⟩ := info_parts info_u64
  obtain ⟨j0, hj0, hy0, hy1, hy2⟩ := info_parts info_sl
  have hN := hz.1
  have hnc : ncol rows ≤ 100 := hz.2 0
  have hrc := rect_iff.1 hr
  have h1 := rRect_b A c rows (by omega) w h
  have hRN : rectN rows = ncol rows := by unfold rectN; rw [hr]; rfl
  rw [hr, hRN] at h1
  have hb24 : Hid (j0.bytes * ncol rows ≤ 281474976710656) := Lib.hid (by rw [hy2]; omega)
  clear hr hRN
  go_enter Tryz.func49, Tryz.ntmps49
  go_wp2_with fail
  refine h1.mono ?_; rintro e w1 ⟨rfl, hB1⟩
  have hs1 := h.next hB1
  clear h1 h
  go_wp2_with (at_make; refine wpList_make_full _ rfl _ _ 24 rfl w1.heap.size 23 j0 (.slice none 0 0) 1 Tryz.underlying24 hj0 hy0 hy1 .i64 .i64 _ _ (ncol rows) rfl rfl (by omega) (by omega) hb24.out (by simp only [maxLen]; omega) (Nat.le_refl _) ?_; intro w3 hown3 hgrow3; simp only [Value.cells, toList_madeCells_one, Nat.mul_one] at hown3; have hM3 : MP w1.heap.size w3 (.slice (some ⟨w1.heap.size, 0, none⟩) (ncol rows) (ncol rows)) (ncol rows) (ncol rows) (List.replicate (ncol rows) (.slice none 0 0)) (trnP rows (ncol rows) 0 0) := MP.nils (by simpa using hown3) (trnP_len rows _ 0 0) (trnP_zero rows _); have hb3 : Below w1.heap.size w1 w3 := (Below.refl _ w1).grown hgrow3 (Nat.le_refl _) (fun k e => by cases e); clear hown3 hgrow3)
  go_loopw [6] (fun i wr => ∃ (k : Nat) (vs : List Value), k ≤ ncol rows ∧ i = .int .i64 k ∧ MP w1.heap.size wr (.slice (some ⟨w1.heap.size, 0, none⟩) (ncol rows) (ncol rows)) (ncol rows) (ncol rows) vs (trnP rows (ncol rows) k 0) ∧ Below w1.heap.size w1 wr) (fun i _ => ncol rows - (intOf i).toNat)
  case atStart => exact ⟨0, _, Nat.zero_le _, rfl, hM3, hb3⟩
  case round =>
    obtain ⟨k, vs, hk, rfl, hM, hBr⟩ := hrel
    by_cases hlt : k < ncol rows
    · have hkn : (k : Int) < ncol rows := by omega
      rename World => W0
      have hMH := Lib.hid hM
      clear hM
      go_wp2_with fail
      go_loopw [7] (fun i wr => ∃ (j : Nat) (us : List Value), j ≤ rows.length ∧ i = .int .i64 j ∧ MP w1.heap.size wr (.slice (some ⟨w1.heap.size, 0, none⟩) (ncol rows) (ncol rows)) (ncol rows) (ncol rows) us (trnP rows (ncol rows) k j) ∧ Below w1.heap.size w1 wr) (fun i _ => rows.length - (intOf i).toNat)
      case atStart => exact ⟨0, vs, Nat.zero_le _, rfl, hMH.out, hBr⟩
      case round =>
        obtain ⟨j, us, hj, rfl, hMj, hBj⟩ := hrel
        have hszj : w1.heap.size ≤ wr.heap.size := hBj.size
        by_cases hltj : j < rows.length
        · obtain ⟨b7, o7, A', c', hA, hb7, hc7, hs7⟩ := hs1.rowAt (i := j) (L := ncol rows) hltj (hrc j hltj)
          subst hA
          have hc7w := (hBj.cell (p := ⟨b7, o7 + j, none⟩) hb7).trans hc7
          obtain ⟨b8, o8, y, hA8, hb8, hy8, hcy8⟩ := hs7.at_ (k := k) (by rw [hrc j hltj]; exact hlt)
          subst hA8
          have hcy := (hBj.cell (p := ⟨b8, o8 + k, none⟩) hb8).trans hcy8
          obtain ⟨u, hu, huo⟩ := hMj.row k hlt
          rw [trnP_here rows j hlt, List.length_map, List.length_range] at huo
          obtain ⟨Au, cu, rfl⟩ := row_form huo
          have hcell := hMj.cell hlt hu
          have hfz := World.ownsRow.frozenAt hMj.head k
          have hgl := World.ownsRow.lt hMj.head _ rfl
          have hNX : Hid ((trnP rows (ncol rows) k j).set k ((List.range j).map (fun t => mx rows t k) ++ [y]) = trnP rows (ncol rows) k (j + 1)) := Lib.hid (by have := trnP_next rows j hlt; rw [mx_ro, co_at hy8] at this; exact this)
          have hMA := Lib.hid (hMj.next ((Below.refl _ wr).alloc (Nat.le_refl _) (.cells #[.int .u64 y] 22)).drew)
          have huA := Lib.hid (own_belowN huo ((Below.refl _ wr).alloc (Nat.le_refl _) (.cells #[.int .u64 y] 22)).drew)
          have hHa : Hid ((wr.alloc (.cells #[.int .u64 y] 22)).drew.heap.size = wr.heap.size + 1) := Lib.hid (by show (wr.alloc _).heap.size = _; rw [World.size_alloc])
          have hfar := Lib.hid (fun x (e : (Value.slice Au j cu).ownBlock = some x) => hMj.far hlt hu e)
          have HU := Lib.hid hu
          have hjn : (j : Int) < rows.length := by omega
          clear hMj hy8 hcy8 huo hu hs7
          go_wp2_with fail
          go_region_law (refine step_append_lies _ (by rfl) _ _ _ (by rfl) w1.heap.size 22 i0 (.int .u64 0) 1 8 Tryz.underlying23 hi0 hz0 hz1 hz2 rfl (by decide) _ _ _ (by rfl) huA.out ⟨wr.heap.size, 0, none⟩ 1 1 [.int .u64 y] (by rfl) (by rfl) (cell_one_new _ _ _) (by simp [Value.oneCell']) (by decide) (by simp only [maxLen]; omega) (by omega) (by rw [hHa.out]; omega) (wr.heap.size + 1) hHa.out ?_; intro g5 cap5 w5 hown5 hgrow5 hat5 hlt5; have hhd5 : w5.ownsRow w1.heap.size 23 1 (.slice (some ⟨w1.heap.size, 0, none⟩) (ncol rows) (ncol rows)) (ncol rows) us := World.ownsRow.kept hMA.out.head hgrow5 (.inr fun e => hfar.out w1.heap.size e.symm rfl); have hfz5 := World.ownsRow.frozenAt hhd5 k; have hcell5 := (World.ownsRow.cellAt hhd5 k (by omega)).trans HU.out; have hgl5 : w1.heap.size < w5.heap.size := (World.ownsRow.lt hhd5 _ rfl).2; have hown5H := Lib.hid hown5; clear hown5 hhd5)
          all_goals
            go_wp2_with fail
            go_roundw
            case rel => exact ⟨j + 1, us.set k (.slice (some ⟨g5, 0, none⟩) (j + 1) cap5), by omega, by simp, by
              rw [← hNX.out]
              exact hMA.out.lay (w' := w5) (i := k) (k' := ncol rows) (by omega) hlt (by omega) hgrow5 (fun x e => ⟨hlt, _, HU.out, e⟩) (by rw [List.length_append, List.length_map, List.length_range, List.map_append]; exact hown5H.out) (fun x e => by
                have e1 : g5 = x := by simpa [Value.ownBlock] using e
                subst e1
                rcases hat5 with e2 | e2
                · exact .inr e2
                · exact .inl (by rw [hHa.out]; omega)), ((hBj.alloc hszj _).drew.grown hgrow5 (by rw [hHa.out]; omega) (fun x e => (World.ownsRow.lt huA.out x e).1)).setCell (p := ⟨w1.heap.size, k, none⟩) (Nat.le_refl _) _⟩
            case measure => simp [intOf]; omega
        · obtain rfl : j = rows.length := by omega
          rw [trnP_row] at hMj
          have hMJ := Lib.hid hMj
          clear hMj
          go_wp2_with fail
          go_roundw
          case rel => exact ⟨k + 1, us, by omega, by simp, hMJ.out, hBj⟩
          case measure => simp [intOf]; omega
    · obtain rfl : k = ncol rows := by omega
      rw [trnP_done] at hM
      go_wp2_with fail
      go_ret
      exact ⟨_, vs, rfl, by rw [trn_len]; exact hM.wide hB1.size, hB1.trans (hBr.mono hB1.size)⟩
end Go.Proofs.YtkhiiiggmhncbaaGreat

/- The examples of the document for layer 6 hold: awake returns true. Nothing that lay is changed. No conditions. -/
namespace Go.Proofs.YtkhiiiggmhncbaaGreat
set_option maxRecDepth 100000
open Go.RowKit PolyMath FieldMath MatMath

theorem Sll.lit1 (w : World) {A1 : Option Addr} {c1 : Nat} {r1 : List Int} (h1 : Sl w A1 c1 r1) :
    Sll (w.alloc (.cells #[.slice A1 r1.length c1] 23)) (some ⟨w.heap.size, 0, none⟩) 1 [r1] := by
  refine ⟨Nat.le_refl _, (fun h => by cases h), fun ad e _ => ?_⟩
  injection e with e
  subst e
  refine ⟨w.heap.size, 0, rfl, by simp, fun j r hr => ?_⟩
  rw [cell_of_row _ w.heap.size (0 + j) _ 23 (0, 0) (World.alloc_heap_new w _), Nat.zero_add]
  match j, hr with
  | 0, hr => simp at hr; subst hr; exact ⟨A1, c1, rfl, h1.push _⟩
  | n + 1, hr => simp at hr

theorem el_dec6 {p : Int} {xs : List Int} (h : (xs.all fun x => decide (0 ≤ x) && decide (x < p)) = true) : El p xs := fun x hx => by
  have := List.all_eq_true.1 h x hx
  simpa using this
theorem els_dec {p : Int} {rows : List (List Int)} (h : (rows.all fun xs => xs.all fun x => decide (0 ≤ x) && decide (x < p)) = true) : ∀ r ∈ rows, El p r := fun r hr => el_dec6 (List.all_eq_true.1 h r hr)
theorem sized_dec {rows : List (List Int)} (h : (decide (rows.length ≤ 100) && rows.all fun r => decide (r.length ≤ 100)) = true) : Sized rows := by
  rw [Bool.and_eq_true, decide_eq_true_eq, List.all_eq_true] at h
  exact .of h.1 fun r hr => by simpa using h.2 r hr
abbrev exM : List (List Int) := [[1, 2], [3, 4]]
abbrev exS : List (List Int) := [[1, 2], [2, 4]]
end Go.Proofs.YtkhiiiggmhncbaaGreat

/- Arguments of layer 6's laws: a word, a slice of words, a slice of slices of words, the struct Operands; they read behind the call as before where only new memory was made. No conditions. -/
namespace Go.Proofs.YtkhiiiggmhncbaaGreat
set_option maxRecDepth 100000
open Go.ChangeShapes Go.WideShapes Go.ChangeAt Go.RowKit Go.Joins Go.Deep Go.WideElems PolyMath MatMath

theorem cells_row : Tryz.prog.cellsOf 23 = 1 := by kernel_rfl
section
variable {H : Type} {enc : TypeId × Value → H}
theorem open_ll {W : World} {v : Value} {fuel : Nat} {y : DataW H × List MemPlace} (hf : DataW.trod enc Tryz.prog W 0 (fun _ => true) true fuel 24 [v] = some y) (hlt : ∀ x ∈ y.2, x.block < W.heap.size) :
    ∃ A rows c, v = .slice A rows.length c ∧ Sll W A c rows ∧ (∀ r ∈ rows, Words r) ∧ rows.length ≤ 9223372036854775807 := by
  rcases Deep.open_int_rows Tryz.underlying24 Tryz.underlying23 Tryz.underlying22 cells_row cells_u64 hf with ⟨hcs, hx⟩ | ⟨a, len', cap', A, L, C, Z, hcs, _, hl, hm, hx, hall⟩
  · injection hcs with hcs _
    subst hcs
    exact ⟨none, [], 0, rfl, Sll.nothing W, fun l hl => (by cases hl), Nat.zero_le _⟩
  · injection hcs with hcs _
    subst hcs hx
    have hlen : ∀ r, r < len' → ((Z r).take (L r)).length = L r := fun r hr => by
      obtain ⟨_, h1, _, h3, _⟩ := hall r (by omega)
      rw [List.length_take]
      omega
    refine ⟨some a, (List.range len').map fun r => (Z r).take (L r), cap', by rw [List.length_map, List.length_range], ⟨by rw [List.length_map, List.length_range]; omega, (fun h => by cases h), fun ad e hn => ?_⟩, fun l hl x hx => ?_, by rw [List.length_map, List.length_range]; simp only [maxLen] at hm; omega⟩
    · injection e with e
      subst e
      have hpos : 0 < len' := by
        rcases Nat.eq_zero_or_pos len' with h0 | h0
        · rw [h0] at hn; exact absurd rfl hn
        · exact h0
      obtain ⟨b, off, spot⟩ := a
      have hspot : spot = none := by simpa [Addr.add] using World.cell?_spot (hall 0 (by omega)).1
      subst hspot
      refine ⟨b, off, rfl, hlt (.cell b off) (List.mem_append_left _ (MemPlace.mem_row.2 ⟨0, by omega, by simp⟩)), fun j l hl => ?_⟩
      rw [List.getElem?_map] at hl
      obtain ⟨r, hr, rfl⟩ := Option.map_eq_some_iff.1 hl
      obtain ⟨hjl, rfl⟩ := List.getElem?_eq_some_iff.1 hr
      rw [List.length_range] at hjl
      simp only [List.getElem_range]
      obtain ⟨h1, h2, h3, h4, h5, h6, h7⟩ := hall j (by omega)
      refine ⟨A j, C j, by rw [hlen j hjl, ← add_plain]; exact h1, by rw [hlen j hjl]; omega, h6, fun ar hA hne => ?_⟩
      have hLp : 0 < L j := by
        rcases Nat.eq_zero_or_pos (L j) with h0 | h0
        · rw [h0, List.take_zero] at hne; exact absurd rfl hne
        · exact h0
      obtain ⟨_, hc⟩ := h7 ar hA
      obtain ⟨b2, off2, spot2⟩ := ar
      have hspot2 : spot2 = none := by simpa [Addr.add] using World.cell?_spot (hc 0 (by omega))
      subst hspot2
      refine ⟨b2, off2, rfl, ?_, fun i x hx => ?_⟩
      · refine hlt (.cell b2 off2) (List.mem_append_right _ (List.mem_flatMap.2 ⟨j, List.mem_range.2 (by omega), ?_⟩))
        simp only [Deep.intRowPlaces, hA]
        exact MemPlace.mem_row.2 ⟨0, by omega, by simp⟩
      · have hi : i < L j := by have := (List.getElem?_eq_some_iff.1 hx).1; rw [hlen j hjl] at this; exact this
        rw [← add_plain, hc i (by omega)]
        rw [List.getElem?_take, if_pos hi] at hx
        rw [List.getD_eq_getElem?_getD, hx]; rfl
    · obtain ⟨r, hr, rfl⟩ := List.mem_map.1 hl
      rw [List.mem_range] at hr
      obtain ⟨_, _, _, _, h5, _⟩ := hall r (by omega)
      have h1 := h5 x (List.mem_of_mem_take hx)
      have e1 : IntKind.u64.min = 0 := rfl
      have e2 : IntKind.u64.max = 18446744073709551615 := rfl
      simp only [Lit.wf, Bool.and_eq_true, decide_eq_true_eq] at h1
      omega
theorem arg_ll {W : World} {base : Nat} {v : Value} {d : DataW H} {p : List MemPlace} (hval : Value.okWide Tryz.prog W .any base 24 v) (h : DataW.Trod enc Tryz.prog W 0 (fun _ => true) true 24 v d p) (hlt : ∀ x ∈ p, x.block < W.heap.size) :
    ∃ A rows c, v = .slice A rows.length c ∧ Sll W A c rows ∧ (∀ r ∈ rows, Words r) ∧ rows.length ≤ 9223372036854775807 := by
  obtain ⟨a0, len, cap, rfl⟩ := okWide_slice Tryz.underlying24 hval
  obtain ⟨fuel, hf⟩ := h
  simp only [Value.cells] at hf
  exact open_ll hf hlt
theorem stay_ll {W W' : World} {v : Value} {d : DataW H} {p : List MemPlace} (h : DataW.Trod enc Tryz.prog W 0 (fun _ => true) true 24 v d p) (hb : Below W.heap.size W W') (hlt : ∀ x ∈ p, x.block < W.heap.size) (sp : Nat → Bool) (hsp : ∀ x ∈ p, sp x.block = true) :
    DataW.Trod enc Tryz.prog W' 0 sp true 24 v d p :=
  WideElems.Trod_stays laidOut (by kernel_rfl) (of_decide_eq_true (by kernel_rfl)) h (fun x hx => hb.same (hlt x hx)) hsp
end

/-- What a fair matrix is. -/
theorem fair_is {p : Int} {rows : List (List Int)} {most : Nat} (hm : most ≤ 100) (hw : ∀ r ∈ rows, Words r) (h : fairB p rows most = true) : FieldMath.OkP p ∧ Sized rows ∧ (∀ r ∈ rows, El p r) ∧ rows.length ≤ most ∧ ∀ i, (ro rows i).length ≤ most := by
  unfold fairB at h
  rw [Bool.and_eq_true, decide_eq_true_eq] at h
  obtain ⟨h1, h2, h3⟩ := h
  have hr : ∀ r ∈ rows, r.length ≤ most ∧ ∀ x ∈ r, x < p := fun r hr => by
    obtain ⟨i, hi⟩ := List.mem_iff_getElem?.1 hr
    have h4 := h3 i (List.getElem?_eq_some_iff.1 hi).1
    rw [ro_at hi] at h4
    exact of_decide_eq_true h4
  have hl : ∀ i, (ro rows i).length ≤ most := fun i => by
    by_cases h : i < rows.length
    · exact (hr _ (List.mem_of_getElem? (ro_get h))).1
    · unfold ro; rw [List.getElem?_eq_none (by omega)]; exact Nat.zero_le _
  refine ⟨?_, ⟨by omega, fun i => Nat.le_trans (hl i) hm⟩, fun r hr' => el_of (hw r hr') (hr r hr').2, h2, hl⟩
  rcases sup_cases p with h4 | ⟨_, h4⟩
  · rw [h1] at h4; cases h4
  · exact h4
theorem bel_is {p : Int} {xs : List Int} {most : Nat} (hw : Words xs) (h : belB p xs most = true) : El p xs ∧ xs.length ≤ most := by
  have := of_decide_eq_true h
  exact ⟨el_of hw this.2, this.1⟩
end Go.Proofs.YtkhiiiggmhncbaaGreat

/- What the answers of package matrix mean, with no walk in sight: rank, determinant, product, transpose, solutions, inverse on lists of rows. Conditions: a supported prime, words of its field, rectangular matrices where said. -/
namespace Go.Proofs.YtkhiiiggmhncbaaGreat
set_option maxRecDepth 100000
open PolyMath FieldMath MatMath

section
variable {p : Int}
/-! ### Sizes -/
theorem _root_.MatMath.Mat.isRect {N L : Nat} {A : List (List Int)} (h : Mat p N L A) : rect A = true := rect_iff.2 fun i hi => by
  rw [h.rows] at hi
  unfold ncol
  rw [(h.ro hi).1, (h.ro (i := 0) (by omega)).1]
theorem _root_.MatMath.Mat.cols {N L : Nat} {A : List (List Int)} (h : Mat p N L A) (hN : 0 < N) : ncol A = L := (h.ro hN).1
theorem _root_.MatMath.Mat.els {N L : Nat} {A : List (List Int)} (h : Mat p N L A) : ∀ r ∈ A, El p r := fun r hr => (h.row r hr).2
theorem _root_.MatMath.Mat.sized {N L : Nat} {A : List (List Int)} (h : Mat p N L A) (h1 : N ≤ 100) (h2 : L ≤ 100) : Sized A := .of (by rw [h.rows]; exact h1) fun r hr => by rw [(h.row r hr).1]; exact h2
theorem _root_.MatMath.Mat.eqv {N L : Nat} {A B : List (List Int)} (hp : 0 < p) (hA : Mat p N L A) (hB : Mat p N L B) (h : ∀ r c, r < N → c < L → mx A r c % p = mx B r c % p) : A = B :=
  rows_ext (by rw [hA.rows, hB.rows]) fun i hi => by
    rw [hA.rows] at hi
    refine list_ext (by rw [(hA.ro hi).1, (hB.ro hi).1]) fun c => ?_
    by_cases hc : c < L
    · have h1 := h i c hi hc
      have b1 := hA.bd hp i c
      have b2 := hB.bd hp i c
      rw [small b1.1 b1.2, small b2.1 b2.2] at h1
      exact h1
    · rw [co_fin _ c (by rw [(hA.ro hi).1]; omega), co_fin _ c (by rw [(hB.ro hi).1]; omega)]

/-! ### Rank and determinant -/
theorem rnk_rr (hg : GoodI p) {A : List (List Int)} (hr : rect A = true) (hE : ∀ r ∈ A, El p r) : ∃ pv, RR p A.length (ncol A) (mx A) (rnk p A) pv := by
  have h := elim_ok hg (mat_of hr hE) (ncol A)
  obtain ⟨e, h1, _⟩ := h.re
  exact ⟨_, e, _, h1, h.ech⟩
theorem dtm_det (hg : GoodI p) {A : List (List Int)} (hr : squ A = true) (hE : ∀ r ∈ A, El p r) : dtm p A = det A.length (mx A) % p := by
  have hp := hg.two
  obtain ⟨q1, q2, q3⟩ := squ_iff.1 hr
  have h := elim_ok hg (mat_of q3 hE) A.length
  obtain ⟨e, h1, h2⟩ := h.re
  have hd := h.db
  unfold dtm
  rcases det_cases (by omega) h1 h.ech with ⟨hs, h0⟩ | ⟨hs, h0, _⟩
  · rw [if_pos hs, h0]
  · rw [if_neg (by omega)]
    have e1 : (elim p A A.length).d * (e * det A.length (mx A)) % p = det A.length (mx A) % p := by
      rw [← Int.mul_assoc, Int.mul_comm (elim p A A.length).d e, Int.mul_emod, h2, Int.one_mul, mdd]
    rw [← e1, Int.mul_emod, h0, Int.mul_one, mdd]
    exact (small hd.1 hd.2).symm
theorem dtm_bd (hg : GoodI p) {A : List (List Int)} (hr : squ A = true) (hE : ∀ r ∈ A, El p r) : 0 ≤ dtm p A ∧ dtm p A < p := by
  have := hg.two
  rw [dtm_det hg hr hE]; exact md _ _ (by omega)
theorem dtm_zero (hg : GoodI p) {A : List (List Int)} (hr : squ A = true) (hE : ∀ r ∈ A, El p r) : dtm p A = 0 ↔ rnk p A < A.length := by
  have hp := hg.two
  obtain ⟨q1, q2, q3⟩ := squ_iff.1 hr
  have h := elim_ok hg (mat_of q3 hE) A.length
  obtain ⟨e, h1, _⟩ := h.re
  rw [dtm_det hg hr hE]
  unfold rnk
  rw [← q2]
  rcases det_cases (by omega) h1 h.ech with ⟨hs, h0⟩ | ⟨hs, h0, _⟩
  · exact ⟨fun _ => hs, fun _ => h0⟩
  · refine ⟨fun h5 => ?_, fun h5 => by omega⟩
    rw [Int.mul_emod, h5, Int.mul_zero, Int.zero_emod] at h0
    cases h0

/-! ### Products -/
theorem mulM_mx {A : List (List Int)} (B : List (List Int)) {l r c : Nat} (hr : r < A.length) (hl : (ro A r).length = l) (hc : c < ncol B) : mx (mulM p A B) r c = mat l (mx A) (mx B) r c % p := by
  rw [mx_ro, mulM_ro p B hr]
  unfold mulR
  rw [co_map, if_pos hc, hl]; rfl
theorem mulM_sq (hp : 0 < p) {A B : List (List Int)} (ha : squ A = true) (hb : squ B = true) (hn : ncol A = B.length) : squ (mulM p A B) = true := by
  obtain ⟨a1, a2, a3⟩ := squ_iff.1 ha
  obtain ⟨b1, b2, b3⟩ := squ_iff.1 hb
  have hM := mulM_mat (p := p) hp A B
  exact squ_iff.2 ⟨by rw [mulM_len]; exact a1, by rw [mulM_len, hM.cols a1]; omega, hM.isRect⟩
theorem mul_assoc_rows (hp : 0 < p) {A B C : List (List Int)} (ha : rect A = true) (hb : rect B = true) (h1 : ncol A = B.length) (hB : 0 < B.length) : mulM p (mulM p A B) C = mulM p A (mulM p B C) := by
  have hA : 0 < A.length := ncol_pos (by omega)
  have hAB := mulM_mat (p := p) hp A B
  have hBC := mulM_mat (p := p) hp B C
  have hL := mulM_mat (p := p) hp (mulM p A B) C
  have hR := mulM_mat (p := p) hp A (mulM p B C)
  rw [mulM_len] at hL
  rw [hBC.cols hB] at hR
  refine Mat.eqv hp hL hR fun r c hr hc => ?_
  have ra := rect_iff.1 ha r hr
  rw [mulM_mx C (l := ncol B) (by rw [mulM_len]; exact hr) (hAB.ro hr).1 hc, mulM_mx (mulM p B C) (l := B.length) hr (by rw [ra, h1]) (by rw [hBC.cols hB]; exact hc)]
  rw [mdd, mdd]
  have e1 : mat (ncol B) (mx (mulM p A B)) (mx C) r c % p = mat (ncol B) (mat B.length (mx A) (mx B)) (mx C) r c % p := sg_mod _ fun j hj => mm (by rw [mulM_mx B (l := B.length) hr (by rw [ra, h1]) hj, mdd]) rfl
  have e2 : mat B.length (mx A) (mx (mulM p B C)) r c % p = mat B.length (mx A) (mat (ncol B) (mx B) (mx C)) r c % p := sg_mod _ fun j hj => mm rfl (by rw [mulM_mx C (l := ncol B) hj (rect_iff.1 hb j hj) hc, mdd])
  rw [e1, e2, mat_assoc]
theorem rank_mul (hg : GoodI p) {A B : List (List Int)} (ha : rect A = true) (hb : rect B = true) (eA : ∀ r ∈ A, El p r) (eB : ∀ r ∈ B, El p r) (h1 : ncol A = B.length) : rnk p (mulM p A B) ≤ rnk p A ∧ rnk p (mulM p A B) ≤ rnk p B := by
  have hp := hg.two
  have hM := mulM_mat (p := p) (by omega) A B
  obtain ⟨pM, rM⟩ := rnk_rr hg hM.isRect hM.els
  obtain ⟨pA, rA⟩ := rnk_rr hg ha eA
  obtain ⟨pB, rB⟩ := rnk_rr hg hb eB
  by_cases h0 : 0 < A.length
  · rw [mulM_len, hM.cols h0] at rM
    rw [h1] at rA
    have e : ∀ r c, r < A.length → c < ncol B → mx (mulM p A B) r c % p = mat B.length (mx A) (mx B) r c % p := fun r c hr hc => by
      rw [mulM_mx B (l := B.length) hr (by rw [rect_iff.1 ha r hr, h1]) hc, mdd]
    exact ⟨rank_left hg e rM rA, rank_right (by omega) e rM rB⟩
  · have := rM.rows
    rw [mulM_len] at this
    omega
theorem det_mulM (hg : GoodI p) {A B : List (List Int)} (ha : squ A = true) (hb : squ B = true) (eA : ∀ r ∈ A, El p r) (eB : ∀ r ∈ B, El p r) (h1 : ncol A = B.length) : dtm p (mulM p A B) = fmul p (dtm p A) (dtm p B) := by
  have hp := hg.two
  obtain ⟨a1, a2, a3⟩ := squ_iff.1 ha
  obtain ⟨b1, b2, b3⟩ := squ_iff.1 hb
  have hM := mulM_mat (p := p) (by omega) A B
  rw [dtm_det hg (mulM_sq (by omega) ha hb h1) hM.els, dtm_det hg ha eA, dtm_det hg hb eB, mulM_len]
  have hBA : B.length = A.length := by omega
  rw [hBA]
  have e : ∀ r c, r < A.length → c < A.length → mx (mulM p A B) r c % p = mat A.length (mx A) (mx B) r c % p := fun r c hr hc => by
    rw [mulM_mx B (l := A.length) hr (by rw [rect_iff.1 a3 r hr]; omega) (by omega), mdd]
  rw [det_mod _ e, MatMath.det_mul hg]
  unfold fmul
  rw [← Int.mul_emod]

/-! ### The transpose -/
theorem trn_mat {N L : Nat} {A : List (List Int)} (hp : 0 < p) (h : Mat p N L A) (hN : 0 < N) : Mat p L N (trn A) := .of (by rw [trn_len, h.cols hN]) fun i hi => by
  rw [trn_ro (by rw [h.cols hN]; exact hi)]
  refine ⟨by simp [h.rows], fun x hx => ?_⟩
  obtain ⟨j, _, rfl⟩ := List.mem_map.1 hx
  exact h.bd hp j i
theorem trn_mx {A : List (List Int)} {r c : Nat} (hr : r < ncol A) (hc : c < A.length) : mx (trn A) r c = mx A c r := by
  rw [mx_ro, trn_ro hr, co_map, if_pos hc]
theorem trn_rank (hg : GoodI p) {A : List (List Int)} (hr : rect A = true) (hE : ∀ r ∈ A, El p r) (h0 : 0 < A.length) (h1 : 0 < ncol A) : rnk p A = rnk p (trn A) ∧ rnk p A ≤ A.length ∧ rnk p A ≤ ncol A := by
  have hp := hg.two
  have hT := trn_mat (p := p) (by omega) (mat_of hr hE) h0
  obtain ⟨pA, rA⟩ := rnk_rr hg hr hE
  obtain ⟨pT, rT⟩ := rnk_rr hg hT.isRect hT.els
  rw [trn_len, hT.cols h1] at rT
  obtain ⟨d, B, t1, t2⟩ := rT
  obtain ⟨s, pv, hs⟩ := rr_ex hg (ncol A) A.length (tr (mx A))
  have e := rr_left (A := mx (trn A)) (M := tr (mx A)) (by omega) (fun r c hr hc => by rw [trn_mx hr hc]; rfl) t1 t2 hs
  have e2 := rank_tr hg rA hs
  exact ⟨by rw [e2, e.1], rA.rows, rA.cols⟩
theorem trn_squ {A : List (List Int)} (hr : rect A = true) (hE : ∀ r ∈ A, El p r) (hp : 0 < p) (h0 : 0 < A.length) (h1 : 0 < ncol A) : squ (trn A) = squ A := by
  have hT := trn_mat (p := p) hp (mat_of hr hE) h0
  rw [Bool.eq_iff_iff, squ_iff, squ_iff, trn_len, hT.cols h1]
  constructor
  · rintro ⟨_, e, _⟩; exact ⟨h0, e.symm, hr⟩
  · rintro ⟨_, e, _⟩; exact ⟨h1, e.symm, hT.isRect⟩
theorem trn_det (hg : GoodI p) {A : List (List Int)} (hr : squ A = true) (hE : ∀ r ∈ A, El p r) : dtm p (trn A) = dtm p A := by
  have hp := hg.two
  obtain ⟨q1, q2, q3⟩ := squ_iff.1 hr
  have hT := trn_mat (p := p) (by omega) (mat_of q3 hE) q1
  rw [dtm_det hg (by rw [trn_squ q3 hE (by omega) q1 (by omega)]; exact hr) hT.els, dtm_det hg hr hE, trn_len, ← q2]
  rw [det_mod (p := p) A.length (B := tr (mx A)) (fun r c hr hc => by rw [trn_mx (by omega) hc]; rfl)]
  exact det_tr hg _ _

/-! ### Solutions -/
theorem _root_.MatMath.RE.colsOf {m : Nat} {d : Int} {A B : Nat → Nat → Int} (h : RE p m d A B) (f : Nat → Nat) : RE p m d (fun r c => A r (f c)) (fun r c => B r (f c)) := by
  induction h with
  | same h => exact .same fun r c hr => h r (f c) hr
  | @swap A r s hr hs hne =>
    have := RE.swap (p := p) (A := fun r c => A r (f c)) hr hs hne
    refine cast ?_ this
    congr 1 <;> (funext i c; unfold upd; split <;> first | rfl | (split <;> rfl))
  | @scale A r k k' hr hk =>
    have := RE.scale (p := p) (A := fun r c => A r (f c)) hr hk
    refine cast ?_ this
    congr 1 <;> (funext i c; unfold upd; split <;> rfl)
  | @add A r s k hr hs hne =>
    have := RE.add (p := p) (A := fun r c => A r (f c)) (k := k) hr hs hne
    refine cast ?_ this
    congr 1 <;> (funext i c; unfold upd; split <;> rfl)
  | trans _ _ i1 i2 => exact i1.trans i2
theorem _root_.MatMath.Ech.congN {m n s : Nat} {B C : Nat → Nat → Int} {pv : Nat → Nat} (h : Ech p m n B s pv) (e : ∀ r c, r < m → c < n → C r c % p = B r c % p) : Ech p m n C s pv :=
  ⟨h.len, h.lt, h.inc, fun i r hi hr => by rw [e r _ hr (h.lt i hi)]; exact h.unit i r hi hr,
    fun i r c hi hir hr hc => by rw [e r c hr (Nat.lt_trans hc (h.lt i hi))]; exact h.low i r c hi hir hr hc, fun r c h1 h2 h3 => by rw [e r c h2 h3]; exact h.rest r c h1 h2 h3⟩
/-- The elimination of the rows with one word more, as a system. -/
theorem aug_re (hg : GoodI p) {A : List (List Int)} {b : List Int} (hr : rect A = true) (hE : ∀ r ∈ A, El p r) (hb : El p b) :
    ∃ e B, RE p A.length e (aug (ncol A) (mx A) (co b)) B ∧ Ech p A.length (ncol A) B (elim p (augL A b) (ncol A)).pv.length (fun i => (elim p (augL A b) (ncol A)).pv.getD i 0) ∧ (∀ r, B r (ncol A) = mx (elim p (augL A b) (ncol A)).R r (ncol A)) ∧ Mat p A.length (ncol A + 1) (elim p (augL A b) (ncol A)).R := by
  have hp := hg.two
  have hm := augL_mat (p := p) (by omega) (mat_of hr hE) hb
  have h := elim_ok hg hm (ncol A)
  obtain ⟨e, h1, _⟩ := h.re
  refine ⟨1 * e * 1, fun r c => mx (elim p (augL A b) (ncol A)).R r (min c (ncol A)), ?_, h.ech.congN fun r c _ hc => by rw [show min c (ncol A) = c by omega], fun r => by show mx _ r (min (ncol A) (ncol A)) = _; rw [Nat.min_self], h.mat⟩
  have h2 := (RE.same (A := aug (ncol A) (mx A) (co b)) (B := fun r c => mx (augL A b) r (min c (ncol A))) fun r c hr' => ?_).trans (h1.colsOf fun c => min c (ncol A))
  · rw [Int.one_mul]; exact h2
  · congr 1
    have hl : (ro A r).length = ncol A := rect_iff.1 hr r hr'
    unfold aug
    show _ = co (ro (augL A b) r) (min c (ncol A))
    unfold augL
    rw [augK_ro b _ hr', if_pos hr']
    by_cases hc : c < ncol A
    · rw [if_pos hc, show min c (ncol A) = c by omega, mx_ro]
      unfold co; rw [List.getElem?_append_left (by omega)]
    · rw [if_neg hc, show min c (ncol A) = ncol A by omega]
      show co b r = (ro A r ++ [co b r])[ncol A]?.getD 0
      rw [List.getElem?_append_right (by omega), show ncol A - (ro A r).length = 0 by omega]; rfl
theorem solF_co {S : ES} {n : Nat} : ∀ i, (∀ a b, a < b → b < i → S.pv.getD a 0 < S.pv.getD b 0) → (∀ a, a < i → S.pv.getD a 0 < n) → ∀ j, co (solF S n i) j = bsol i (fun a => S.pv.getD a 0) (fun a => mx S.R a n) j
  | 0, _, _, j => by
    show co (List.replicate n 0) j = 0
    unfold co
    rw [List.getElem?_replicate]
    split <;> rfl
  | i + 1, hi, hl, j => by
    have ih := solF_co i (fun a b h1 h2 => hi a b h1 (by omega)) (fun a h => hl a (by omega)) j
    show co ((solF S n i).set (S.pv.getD i 0) (mx S.R i n)) j = sg i (fun a => if S.pv.getD a 0 = j then mx S.R a n else 0) + (if S.pv.getD i 0 = j then mx S.R i n else 0)
    by_cases e : S.pv.getD i 0 = j
    · subst e
      have h0 : bsol i (fun a => S.pv.getD a 0) (fun a => mx S.R a n) (S.pv.getD i 0) = 0 := bsol_else _ fun a ha e => by have := hi a i ha (by omega); omega
      have h0' : sg i (fun a => if S.pv.getD a 0 = S.pv.getD i 0 then mx S.R a n else 0) = 0 := h0
      rw [h0', if_pos rfl, Int.zero_add]
      exact co_at (List.getElem?_set_self (by rw [solF_len]; exact hl i (by omega)))
    · rw [if_neg e, Int.add_zero]
      unfold co
      rw [List.getElem?_set_ne e]
      exact ih
theorem solF_el {S : ES} {n N L : Nat} (hp : 0 < p) (h : Mat p N L S.R) : ∀ i, El p (solF S n i)
  | 0 => fun x hx => by have := List.eq_of_mem_replicate hx; omega
  | i + 1 => fun x hx => by
    rcases List.mem_or_eq_of_mem_set hx with h1 | h1
    · exact solF_el hp h i x h1
    · subst h1; exact h.bd hp i n
/-- m applied to x is b. -/
theorem app_sol {A : List (List Int)} {b x : List Int} (hr : rect A = true) (hb : El p b) (hp : 0 < p) (hn : A.length = b.length) : app p A x = b ↔ Sol p A.length (ncol A) (mx A) (co b) (co x) := by
  constructor
  · intro h r hr'
    have h1 : co (app p A x) r = co b r := by rw [h]
    unfold app at h1
    rw [co_map, if_pos hr'] at h1
    unfold dot at h1
    rw [rect_iff.1 hr r hr'] at h1
    rw [← h1, mdd]; rfl
  · intro h
    refine list_ext (by rw [app_len, hn]) fun r => ?_
    unfold app
    rw [co_map]
    by_cases hr' : r < A.length
    · rw [if_pos hr']
      unfold dot
      rw [rect_iff.1 hr r hr']
      have h1 := h r hr'
      rw [hb.cm hp r] at h1
      exact h1
    · rw [if_neg hr', co_fin b r (by omega)]
theorem slv_some (hg : GoodI p) {A : List (List Int)} {b x : List Int} (hr : rect A = true) (hE : ∀ r ∈ A, El p r) (hb : El p b) (hn : A.length = b.length) (h : slv p A b = some x) : app p A x = b ∧ x.length = ncol A ∧ El p x := by
  have hp := hg.two
  obtain ⟨e, B, h1, h2, h3, h4⟩ := aug_re hg hr hE hb
  unfold slv at h
  split at h
  · cases h
  · rename_i hf
    injection h with h
    have hf' : fnd (elim p (augL A b) (ncol A)).R (elim p (augL A b) (ncol A)).pv.length (ncol A) = none := by
      cases hq : fnd (elim p (augL A b) (ncol A)).R (elim p (augL A b) (ncol A)).pv.length (ncol A) with
      | none => rfl
      | some q => rw [hq] at hf; exact absurd rfl hf
    subst h
    refine ⟨(app_sol hr hb (by omega) hn).2 ?_, solF_len _ _ _, solF_el (by omega) h4 _⟩
    have hs := solve_ok h1 h2 fun r hs hr' => by rw [h3, fnd_none.1 hf' r hs (by rw [h4.rows]; exact hr'), Int.zero_emod]
    intro r hr'
    have := hs r hr'
    rw [← this]
    congr 1
    exact sg_congr _ fun j _ => by
      rw [solF_co _ h2.inc h2.lt]
      congr 1
      exact sg_congr _ fun a _ => by dsimp only; rw [h3]
theorem slv_none (hg : GoodI p) {A : List (List Int)} {b : List Int} (hr : rect A = true) (hE : ∀ r ∈ A, El p r) (hb : El p b) (h : slv p A b = none) :
    (∀ x : Nat → Int, ¬ Sol p A.length (ncol A) (mx A) (co b) x) ∧ ∃ y : Nat → Int, (∀ c, c < ncol A → sg A.length (fun i => mx A i c * y i) % p = 0) ∧ sg A.length (fun i => co b i * y i) % p = 1 := by
  have hp := hg.two
  obtain ⟨e, B, h1, h2, h3, h4⟩ := aug_re hg hr hE hb
  unfold slv at h
  split at h
  · rename_i hf
    obtain ⟨q, hq⟩ := Option.isSome_iff_exists.1 hf
    obtain ⟨f1, f2, _⟩ := fnd_some.1 hq
    rw [h4.rows] at f1
    have hb2 := h4.bd (p := p) (by omega) ((elim p (augL A b) (ncol A)).pv.length + q) (ncol A)
    have h5 : B ((elim p (augL A b) (ncol A)).pv.length + q) (ncol A) % p ≠ 0 := by rw [h3, small hb2.1 hb2.2]; exact f2
    exact ⟨fun x => solve_no h1 h2 (by omega) f1 h5 x, solve_witness hg h1 h2 (by omega) f1 h5⟩
  · cases h
/-- Where there is a solution, Solve finds one. -/
theorem slv_ex (hg : GoodI p) {A : List (List Int)} {b : List Int} (hr : rect A = true) (hE : ∀ r ∈ A, El p r) (hb : El p b) (hn : A.length = b.length) {x : Nat → Int} (hx : Sol p A.length (ncol A) (mx A) (co b) x) : ∃ y, slv p A b = some y ∧ app p A y = b ∧ y.length = ncol A ∧ El p y := by
  cases h : slv p A b with
  | none => exact absurd hx ((slv_none hg hr hE hb h).1 x)
  | some y => exact ⟨y, rfl, slv_some hg hr hE hb hn h⟩
theorem dot_comm {a b : List Int} (h : a.length = b.length) : dot p a b = dot p b a := by
  unfold dot; rw [h]; congr 1
  exact sg_congr _ fun j _ => Int.mul_comm _ _

/-! ### The inverse -/
theorem unitL_co (n i c : Nat) (hc : c < n) : co (unitL n i) c = one i c := by
  unfold unitL one
  by_cases e : i = c
  · subst e; rw [if_pos rfl]; exact co_at (List.getElem?_set_self (by simpa using hc))
  · rw [if_neg e]; unfold co; rw [List.getElem?_set_ne e, List.getElem?_replicate, if_pos hc]; rfl
theorem unitL_fin (n i c : Nat) (hc : ¬ c < n) : co (unitL n i) c = 0 := co_fin _ c (by rw [unitL_len]; omega)
theorem oneL_mat (hp : 1 < p) (n : Nat) : Mat p n n (oneL n) := .of (oneL_len n) fun i hi => by
  have : ro (oneL n) i = unitL n i := ro_map _ hi
  rw [this]; exact ⟨unitL_len n i, unitL_el hp n i⟩
theorem oneL_mx {n r c : Nat} (hr : r < n) (hc : c < n) : mx (oneL n) r c = one r c := by
  have : ro (oneL n) r = unitL n r := ro_map _ hr
  rw [mx_ro, this, unitL_co n r c hc]
theorem agi_re (hg : GoodI p) {A : List (List Int)} (hr : squ A = true) (hE : ∀ r ∈ A, El p r) :
    ∃ e, RE p A.length e (augI A.length (mx A)) (mx (elim p (agiL A) A.length).R) ∧ Ech p A.length A.length (mx (elim p (agiL A) A.length).R) (elim p (agiL A) A.length).pv.length (fun i => (elim p (agiL A) A.length).pv.getD i 0) ∧ Mat p A.length (A.length + A.length) (elim p (agiL A) A.length).R := by
  have hp := hg.two
  obtain ⟨q1, q2, q3⟩ := squ_iff.1 hr
  have hm0 := mat_of q3 hE
  rw [← q2] at hm0
  have h := elim_ok hg (agiL_mat (p := p) (by omega) hm0) A.length
  obtain ⟨e, h1, _⟩ := h.re
  refine ⟨_, (RE.same (A := augI A.length (mx A)) (B := mx (agiL A)) fun r c hr' => ?_).trans h1, h.ech, h.mat⟩
  congr 1
  unfold augI
  rw [mx_ro (agiL A)]
  unfold agiL
  rw [agiK_ro _ hr', if_pos hr']
  have hl := (hm0.ro hr').1
  by_cases hc : c < A.length
  · rw [if_pos hc, mx_ro]
    unfold co; rw [List.getElem?_append_left (by omega)]
  · rw [if_neg hc]
    have e1 : co (ro A r ++ unitL A.length r) c = co (unitL A.length r) (c - A.length) := by
      unfold co; rw [List.getElem?_append_right (by omega), hl]
    rw [e1]
    by_cases h2 : c - A.length < A.length
    · rw [unitL_co _ _ _ h2]
    · rw [unitL_fin _ _ _ h2, one_ne (by omega)]
theorem invM_rank (hg : GoodI p) {A : List (List Int)} (hr : squ A = true) (hE : ∀ r ∈ A, El p r) : (elim p (agiL A) A.length).pv.length = rnk p A := by
  have hp := hg.two
  obtain ⟨q1, q2, q3⟩ := squ_iff.1 hr
  obtain ⟨e, h1, h2, _⟩ := agi_re hg hr hE
  obtain ⟨pA, rA⟩ := rnk_rr hg q3 hE
  rw [← q2] at rA
  exact (rr_left (M := mx A) (by omega) (fun r c _ hc => by unfold augI; rw [if_pos hc]) h1 h2 rA).1
theorem invM_none (hg : GoodI p) {A : List (List Int)} (hr : squ A = true) (hE : ∀ r ∈ A, El p r) (h : invM p A = none) : dtm p A = 0 := by
  unfold invM at h
  split at h
  · rename_i hs
    rw [invM_rank hg hr hE] at hs
    exact (dtm_zero hg hr hE).2 hs
  · cases h
theorem invM_some (hg : GoodI p) {A X : List (List Int)} (hr : squ A = true) (hE : ∀ r ∈ A, El p r) (h : invM p A = some X) : dtm p A ≠ 0 ∧ Mat p A.length A.length X ∧ mulM p X A = oneL A.length ∧ mulM p A X = oneL A.length := by
  have hp := hg.two
  obtain ⟨q1, q2, q3⟩ := squ_iff.1 hr
  obtain ⟨e, h1, h2, h4⟩ := agi_re hg hr hE
  have hrk := invM_rank hg hr hE
  have hm0 := mat_of q3 hE
  rw [← q2] at hm0
  unfold invM at h
  split at h
  · cases h
  · rename_i hs
    injection h with h
    have hX : Mat p A.length A.length X := by
      refine .of (by rw [← h, List.length_map]; exact h4.rows) fun i hi => ?_
      have : ro X i = (ro (elim p (agiL A) A.length).R i).drop A.length := by
        rw [← h]
        exact ro_at (by rw [List.getElem?_map, ro_get (by rw [h4.rows]; exact hi)]; rfl)
      rw [this]
      exact ⟨by rw [List.length_drop, (h4.ro hi).1]; omega, El_drop (h4.ro hi).2 _⟩
    have hmx : ∀ r c, r < A.length → mx X r c = mx (elim p (agiL A) A.length).R r (A.length + c) := fun r c hr' => by
      have : ro X r = (ro (elim p (agiL A) A.length).R r).drop A.length := by
        rw [← h]
        exact ro_at (by rw [List.getElem?_map, ro_get (by rw [h4.rows]; exact hr')]; rfl)
      rw [mx_ro, mx_ro, this, co_drop]
    have hfull : (elim p (agiL A) A.length).pv.length = A.length := by have := h2.len; omega
    rw [hfull] at h2
    have hI := inv_read h1 h2
    have hI2 := inv_comm hg hI
    refine ⟨fun h0 => ?_, hX, ?_, ?_⟩
    · have := (dtm_zero hg hr hE).1 h0; omega
    · have hM := mulM_mat (p := p) (by omega) X A
      rw [hX.rows, ← q2] at hM
      refine Mat.eqv (by omega) hM (oneL_mat (by omega) _) fun r c hr' hc => ?_
      rw [mulM_mx A (l := A.length) (by rw [hX.rows]; exact hr') (hX.ro hr').1 (by omega), mdd, oneL_mx hr' hc, ← hI r c hr' hc]
      exact sg_mod _ fun j _ => mm (by rw [hmx r j hr']) rfl
    · have hM := mulM_mat (p := p) (by omega) A X
      rw [hX.cols q1] at hM
      refine Mat.eqv (by omega) hM (oneL_mat (by omega) _) fun r c hr' hc => ?_
      rw [mulM_mx X (l := A.length) hr' (hm0.ro hr').1 (by rw [hX.cols q1]; exact hc), mdd, oneL_mx hr' hc, ← hI2 r c hr' hc]
      exact sg_mod _ fun j hj => mm rfl (by rw [hmx j c hj])
end
end Go.Proofs.YtkhiiiggmhncbaaGreat

/- For the laws of layer 6: headers of rows in a slice that grows; products and determinants whatever the arguments; a witness of a system without solution; a combination of rows. Conditions: a supported prime, words of its field, at most 100 rows and columns, where said. -/
namespace Go.Proofs.YtkhiiiggmhncbaaGreat
set_option maxRecDepth 100000
open Go.RowKit PolyMath FieldMath MatMath

theorem HeadsOf.next {w w' : World} {vs : List Value} {rows : List (List Int)} (h : HeadsOf w vs rows) (hb : Below w.heap.size w w') : HeadsOf w' vs rows := fun j hj => by
  obtain ⟨A, c, h1, h2⟩ := h j hj
  exact ⟨A, c, h1, h2.next hb⟩
theorem HeadsOf.snoc {w : World} {vs : List Value} {rows : List (List Int)} {A : Option Addr} {c : Nat} {r : List Int} (h : HeadsOf w vs rows) (hl : vs.length = rows.length) (s : Sl w A c r) : HeadsOf w (vs ++ [.slice A r.length c]) (rows ++ [r]) := fun j hj => by
  rw [List.length_append, List.length_singleton] at hj
  by_cases e : j < rows.length
  · obtain ⟨A', c', h1, h2⟩ := h j e
    have : ro (rows ++ [r]) j = ro rows j := by unfold ro; rw [List.getElem?_append_left e]
    rw [this]
    exact ⟨A', c', by rw [List.getElem?_append_left (by omega)]; exact h1, h2⟩
  · obtain rfl : j = rows.length := by omega
    have : ro (rows ++ [r]) rows.length = r := by unfold ro; rw [List.getElem?_append_right (by omega), Nat.sub_self]; rfl
    rw [this]
    exact ⟨A, c, by rw [List.getElem?_append_right (by omega), show rows.length - vs.length = 0 by omega]; rfl, s⟩
/-- Words stay where a row of headers grows. -/
theorem HeadsOf.grown {w w' : World} {base n : Nat} {v : Value} {vs us : List Value} {rows : List (List Int)} (h : ∀ j, j < rows.length → ∃ A' c', vs[j]? = some (.slice A' (ro rows j).length c') ∧ Sl w A' c' (ro rows j) ∧ (ro rows j ≠ [] → ∀ ad, A' = some ad → some ad.block ≠ v.ownBlock))
    (_ho : w.ownsRow base 23 1 v n us) (hg : w.grownBy w' v.ownBlock) : HeadsOf w' vs rows := fun j hj => by
  obtain ⟨A, c, h1, h2, h3⟩ := h j hj
  exact ⟨A, c, h1, h2.grownN hg h3⟩
theorem sll_heads {w : World} {base n : Nat} {v : Value} {vs : List Value} {rows : List (List Int)} (h : w.ownsRow base 23 1 v n vs) (hh : HeadsOf w vs rows) (hl : rows.length = n) : ∃ A c, v = .slice A n c ∧ Sll w A c rows := by
  rcases h.2 with ⟨rfl, h0⟩ | ⟨g, cap, cur, rfl, _, hg, hc, _, h3, h4⟩
  · have : rows = [] := List.eq_nil_of_length_eq_zero (by omega)
    subst this h0
    exact ⟨_, 0, rfl, Sll.nothing w⟩
  · refine ⟨some ⟨g, 0, .none⟩, cap, rfl, by omega, (fun h => by cases h), fun ad e _ => ?_⟩
    injection e with e
    subst e
    refine ⟨g, 0, rfl, heap_lt hg, fun j l hl' => ?_⟩
    have hj := (List.getElem?_eq_some_iff.1 hl').1
    obtain ⟨A, c, h5, h6⟩ := hh j hj
    rw [ro_at hl'] at h5 h6
    refine ⟨A, c, ?_, h6⟩
    rw [cell_of_row w g (0 + j) cur 23 (0, 0) hg, Nat.zero_add]
    rw [← h4, List.getElem?_take, if_pos (by omega), Array.getElem?_toList] at h5
    exact h5
/-- The headers of a matrix of one's own, and where their words lie. -/
theorem MP.heads {base N : Nat} {w : World} {v : Value} {vs : List Value} {rows : List (List Int)} (h : MP base w v N N vs rows) : ∀ j, j < rows.length → ∃ A' c', vs[j]? = some (.slice A' (ro rows j).length c') ∧ Sl w A' c' (ro rows j) ∧ (ro rows j ≠ [] → ∀ ad, A' = some ad → some ad.block ≠ v.ownBlock) := fun j hj => by
  have hj' : j < N := by rw [← h.len]; exact hj
  obtain ⟨u, h1, h2⟩ := h.row j hj'
  obtain ⟨A, c, rfl, h3⟩ := own_form h2
  refine ⟨A, c, h1, h3, fun _ ad e e' => ?_⟩
  subst e
  rcases h2.2 with ⟨h4, _⟩ | ⟨g, cap, cur, h4, _⟩
  · cases h4
  · injection h4 with h4
    injection h4 with h4
    subst h4
    exact h.far hj' h1 rfl e'.symm

/-! ### Whatever the arguments -/
def mulB (a b : List (List Int)) : Bool := rect a && rect b && (ncol a == b.length)
theorem mulB_iff {a b : List (List Int)} : mulB a b = true ↔ rect a = true ∧ rect b = true ∧ ncol a = b.length := by
  unfold mulB; rw [Bool.and_eq_true, Bool.and_eq_true, beq_iff_eq, and_assoc]
/-! ### Witness and combination -/
theorem mat_snoc {p : Int} {N L : Nat} {A : List (List Int)} {r : List Int} (h : Mat p N L A) (hr : r.length = L ∧ El p r) : Mat p (N + 1) L (A ++ [r]) :=
  ⟨by rw [List.length_append, h.rows]; rfl, fun x hx => by
    rcases List.mem_append.1 hx with h1 | h1
    · exact h.row x h1
    · rw [List.mem_singleton] at h1; subst h1; exact hr⟩
theorem mx_snoc_old {A : List (List Int)} {r : List Int} {i : Nat} (h : i < A.length) (c : Nat) : mx (A ++ [r]) i c = mx A i c := by
  unfold mx; rw [List.getElem?_append_left h]
theorem mx_snoc_new {A : List (List Int)} {r : List Int} (c : Nat) : mx (A ++ [r]) A.length c = co r c := by
  unfold mx; rw [List.getElem?_append_right (by omega), Nat.sub_self]; rfl
theorem unitL_last (n : Nat) : (List.replicate (n + 1) (0 : Int)).set n 1 = unitL (n + 1) n := rfl
theorem wit_math {p : Int} (hg : GoodI p) {m : List (List Int)} {b : List Int} (hr : rect m = true) (hE : ∀ r ∈ m, El p r) (hb : El p b) (hn : m.length = b.length) (h : slv p m b = none) :
    0 < m.length ∧ Mat p (ncol m + 1) m.length (trn m ++ [b]) ∧ ∃ y, slv p (trn m ++ [b]) (unitL (ncol m + 1) (ncol m)) = some y ∧ y.length = m.length ∧ El p y ∧ dot p y b = 1 := by
  have hp := hg.two
  obtain ⟨_, y0, h1, h2⟩ := slv_none hg hr hE hb h
  have h0 : 0 < m.length := by
    rcases Nat.eq_zero_or_pos m.length with e | e
    · rw [e] at h2
      have : (0 : Int) % p = 1 := h2
      rw [Int.zero_emod] at this
      cases this
    · exact e
  have hT := mat_snoc (trn_mat (p := p) (by omega) (mat_of hr hE) h0) ⟨hn.symm, hb⟩
  have htl := trn_len m
  have hcol : ncol (trn m ++ [b]) = m.length := hT.cols (by omega)
  have hU := unitL_el (p := p) (by omega) (ncol m + 1) (ncol m)
  have hlen : (trn m ++ [b]).length = (unitL (ncol m + 1) (ncol m)).length := by rw [hT.rows, unitL_len]
  have hsol : Sol p (trn m ++ [b]).length (ncol (trn m ++ [b])) (mx (trn m ++ [b])) (co (unitL (ncol m + 1) (ncol m))) y0 := by
    rw [hT.rows, hcol]
    intro r hr'
    rw [unitL_co _ _ _ hr']
    by_cases e : r < ncol m
    · rw [one_ne (by omega), Int.zero_emod, ← h1 r e]
      congr 1
      exact sg_congr _ fun j hj => by rw [mx_snoc_old (by omega), trn_mx e hj]
    · obtain rfl : r = ncol m := by omega
      rw [one_same, small (by omega) (show (1 : Int) < p by omega), ← h2]
      congr 1
      exact sg_congr _ fun j _ => by
        have := mx_snoc_new (A := trn m) (r := b) j
        rw [htl] at this
        rw [this]
  obtain ⟨y, h3, h4, h5, h6⟩ := slv_ex hg hT.isRect hT.els hU hlen hsol
  rw [hcol] at h5
  refine ⟨h0, hT, y, h3, h5, h6, ?_⟩
  have h7 : co (app p (trn m ++ [b]) y) (ncol m) = 1 := by rw [h4, unitL_co _ _ _ (by omega), one_same]
  unfold app at h7
  rw [co_map, if_pos (by rw [hT.rows]; omega)] at h7
  have h8 : ro (trn m ++ [b]) (ncol m) = b := by unfold ro; rw [List.getElem?_append_right (by omega), htl, Nat.sub_self]; rfl
  rw [h8] at h7
  rw [dot_comm (by omega)]; exact h7
theorem span_math {p : Int} (hg : GoodI p) {m : List (List Int)} {v : List Int} (hr : rect m = true) (hE : ∀ r ∈ m, El p r) (_hv : El p v) (_hn : v.length = m.length) (h0 : 0 < m.length) (hc0 : 0 < ncol m) :
    Mat p (m.length + 1) (ncol m) (m ++ [app p (trn m) v]) ∧ rnk p (m ++ [app p (trn m) v]) = rnk p m ∧ ∃ x, slv p (trn m) (app p (trn m) v) = some x ∧ app p (trn m) x = app p (trn m) v ∧ x.length = m.length ∧ El p x := by
  have hp := hg.two
  have hm := mat_of hr hE
  have hT := trn_mat (p := p) (by omega) hm h0
  have hte := app_el (p := p) (by omega) (trn m) v
  have htl : (app p (trn m) v).length = ncol m := by rw [app_len, trn_len]
  have hM := mat_snoc hm ⟨htl, hte⟩
  have hs := (app_sol (x := v) hT.isRect hte (by omega) (by rw [htl, trn_len])).1 rfl
  refine ⟨hM, ?_, ?_⟩
  · obtain ⟨p1, r1⟩ := rnk_rr hg hM.isRect hM.els
    obtain ⟨p2, r2⟩ := rnk_rr hg hr hE
    rw [hM.rows, hM.cols (by omega)] at r1
    have e1 : ∀ x, Nul p (m.length + 1) (ncol m) (mx (m ++ [app p (trn m) v])) x → Nul p m.length (ncol m) (mx m) x := fun x hx r hr' => by
      rw [← hx r (by omega)]
      congr 1
      exact sg_congr _ fun j _ => by rw [mx_snoc_old hr']
    have e2 : ∀ x, Nul p m.length (ncol m) (mx m) x → Nul p (m.length + 1) (ncol m) (mx (m ++ [app p (trn m) v])) x := fun x hx r hr' => by
      by_cases e : r < m.length
      · rw [← hx r e]
        congr 1
        exact sg_congr _ fun j _ => by rw [mx_snoc_old e]
      · obtain rfl : r = m.length := by omega
        have h2 : sg (ncol m) (fun j => mx (m ++ [app p (trn m) v]) m.length j * x j) % p = sg (ncol m) (fun j => mat m.length (fun _ i => co v i) (mx m) 0 j * x j) % p := sg_mod _ fun j hj => mm (by
          rw [mx_snoc_new]
          unfold app dot
          rw [co_map, if_pos (by rw [trn_len]; exact hj), mdd, (hT.ro hj).1]
          unfold mat
          congr 1
          exact sg_congr _ fun i hi => by rw [← mx_ro, trn_mx hj hi, Int.mul_comm]) rfl
        have h3 := nul_mat (p := p) (m := 1) (A := fun _ i => co v i) hx 0 (by omega)
        rw [h2]; exact h3
    have q1 := rank_le_of (by omega) r1 r2 e2
    have q2 := rank_le_of (by omega) r2 r1 e1
    omega
  · obtain ⟨x, h1, h2, h3, h4⟩ := slv_ex hg hT.isRect hT.els hte (by rw [trn_len, htl]) hs
    exact ⟨x, h1, h2, by rw [h3, hT.cols hc0], h4⟩
end Go.Proofs.YtkhiiiggmhncbaaGreat

/- Apply and Mul of the reference of layer 6. Nothing that lay is changed. Conditions: a supported prime, words of its field, at most 100 rows and columns. -/
namespace Go.Proofs.YtkhiiiggmhncbaaGreat
set_option maxRecDepth 100000
open Go.RowKit PolyMath FieldMath MatMath

theorem rDot_b (p : Int) (hp : OkP p) (A B : Option Addr) (ca cb n : Nat) (a b : List Int) (ha : El p a) (hb : El p b) (la : a.length = n) (lb : b.length = n) (hl : n ≤ 1000) (w : World) (sa : Sl w A ca a) (sb : Sl w B cb b) :
    Calls Tryz.prog 50 #[.int .u64 p, .slice A n ca, .slice B n cb] w fun e w' => e = .returned (.int .u64 (dot p a b)) ∧ Below w.heap.size w w' :=
  (rDot_any p hp A B ca cb n a b ha hb la lb hl w sa sb).mono fun _ _ ⟨he, m, hm⟩ => ⟨he, by rw [hm]; exact below_drewN (Below.refl _ w) m⟩

theorem rectN_of {rows : List (List Int)} (hr : rect rows = true) : rectN rows = ncol rows := by unfold rectN; rw [hr]; rfl
/-- An entry of the product by a column. -/
theorem mul_entry {p : Int} {a : List Int} {b : List (List Int)} {k l : Nat} (hr : rect b = true) (hE : ∀ r ∈ b, El p r) (hp : 0 < p) (hb : 0 < b.length) (hk : k < ncol b) (hl : a.length = l) (hlb : b.length = l) : dot p a (ro (trn b) k) = sg l (fun j => co a j * mx b j k) % p := by
  have _hT := trn_mat (p := p) hp (mat_of hr hE) hb
  unfold dot
  rw [hl]
  congr 1
  exact sg_congr _ fun j hj => by rw [← mx_ro, trn_mx hk (by omega)]

set_option maxRecDepth 100000 in
set_option maxHeartbeats 4000000 in
theorem rMul_ok (p : Int) (hp : OkP p) (A B : Option Addr) (ca cb : Nat) (a b : List (List Int)) (za : Sized a) (zb : Sized b) (ea : ∀ r ∈ a, El p r) (eb : ∀ r ∈ b, El p r) (ha : rect a = true) (hb : rect b = true) (hn : ncol a = b.length) (w : World) (sa : Sll w A ca a) (sb : Sll w B cb b) :
    Calls Tryz.prog 24 #[.int .u64 p, .slice A a.length ca, .slice B b.length cb] w fun e w' => MatE w e w' (mulM p a b) := by
  obtain ⟨i0, hi0, hz0, hz1, hz2⟩ := info_parts info_u64
  obtain ⟨j0, hj0, hy0, hy1, hy2⟩ := info_parts info_sl
  have hbd := hp.bd
  have hN := za.1
  have hNb := zb.1
  have hma := mat_of ha ea
  have g1 := fun W (h : Sll W A ca a) => rRect_b A ca a (by omega) W h
  rw [ha, rectN_of ha] at g1
  have g2 := fun W (h : Sll W B cb b) => rRect_b B cb b (by omega) W h
  rw [hb, rectN_of hb] at g2
  have hnb : ncol b ≤ 100 := zb.2 0
  have hn' : ((ncol a : Int) != b.length) = false := by rw [hn]; simp
  have hTl := trn_len b
  have HN := Lib.hid hn
  clear hn
  go_enter Tryz.func24, Tryz.ntmps24
  go_wp2_with fail
  refine (g1 _ sa).mono ?_; rintro e w1 ⟨rfl, hB⟩
  replace sa := sa.next hB
  replace sb := sb.next hB
  go_wp2_with fail
  refine (g2 _ sb).mono ?_; rintro e w2 ⟨rfl, hb2⟩
  replace sa := sa.next hb2
  replace sb := sb.next hb2
  replace hB := hB.trans (hb2.mono hB.size)
  clear hb2
  go_wp2_with fail
  refine (rTurn_any B cb b zb hb _ sb).mono ?_; rintro e w3 ⟨vt, vst, rfl, hMt, hb3⟩
  replace sa := sa.next hb3
  replace hB := hB.trans (hb3.mono hB.size)
  obtain ⟨At, ct, hvt, st⟩ := hMt.form
  rw [hTl] at hvt
  subst hvt
  clear hb3 hMt sb
  go_wp2_with fail
  go_loopw [13, 14] (fun o i wr => ∃ (k : Nat) (vs : List Value), k ≤ a.length ∧ i = .int .i64 k ∧ MP w3.heap.size wr o k k vs ((mulM p a b).take k) ∧ Below w3.heap.size w3 wr) (fun _ i _ => a.length - (intOf i).toNat)
  case atStart => exact ⟨0, [], Nat.zero_le _, rfl, MP.zero _ _, Below.refl _ _⟩
  case round =>
    obtain ⟨k, vs, hk, rfl, hM, hBr⟩ := hrel
    have hszr : w3.heap.size ≤ wr.heap.size := hBr.size
    by_cases hlt : k < a.length
    · obtain ⟨ba, oa, A', c', hA, hba, hca, hsa⟩ := sa.rowAt (i := k) (L := b.length) hlt (by rw [← HN.out]; exact (hma.ro hlt).1)
      subst hA
      have hela := (hma.ro hlt).2
      have hlena := (hma.ro hlt).1
      have hkn : (k : Int) < a.length := by omega
      have hMH := Lib.hid hM
      obtain ⟨Ao, co', ho⟩ := row_form hM.head
      subst ho
      clear hM
      rename World => W0
      go_wp2_with fail
      go_loopw [15, 16] (fun o i wr => ∃ j : Nat, j ≤ ncol b ∧ i = .int .i64 j ∧ wr.ownsRow W0.heap.size 22 1 o j (((List.range j).map fun c => sg (ro a k).length (fun t => co (ro a k) t * mx b t c) % p).map (Value.int .u64)) ∧ Below W0.heap.size W0 wr) (fun _ i _ => ncol b - (intOf i).toNat)
      case atStart => exact ⟨0, Nat.zero_le _, rfl, World.ownsRow_nil _ _ _ _, Below.refl _ _⟩
      case round =>
        obtain ⟨j, hj, rfl, hO, hBj⟩ := hrel
        have hszj : W0.heap.size ≤ wr.heap.size := hBj.size
        have hBB := hBr.trans (hBj.mono hszr)
        by_cases hltj : j < ncol b
        · have hb0 : 0 < b.length := ncol_pos (by omega)
          have hT := trn_mat (p := p) (by omega) (mat_of hb eb) hb0
          obtain ⟨bt, ot, T', cT, hAt, hbt, hct, hst⟩ := st.rowAt (i := j) (L := b.length) (by rw [hTl]; exact hltj) (hT.ro hltj).1
          subst hAt
          have hcaw := (hBB.cell (p := ⟨ba, oa + k, none⟩) hba).trans hca
          have hctw := (hBB.cell (p := ⟨bt, ot + j, none⟩) hbt).trans hct
          have hdot := rDot_b p hp A' T' c' cT b.length (ro a k) (ro (trn b) j) hela (hT.ro hltj).2 (by rw [hlena, HN.out]) (hT.ro hltj).1 (by omega) wr.drew (hsa.next hBB).drew (hst.next hBB).drew
          have hentry := mul_entry (a := ro a k) (l := b.length) hb eb (by omega) hb0 hltj (by rw [hlena, HN.out]) rfl
          have hNX : Hid ((((List.range j).map fun c => sg (ro a k).length (fun t => co (ro a k) t * mx b t c) % p).map (Value.int .u64)) ++ [.int .u64 (dot p (ro a k) (ro (trn b) j))] = ((List.range (j + 1)).map fun c => sg (ro a k).length (fun t => co (ro a k) t * mx b t c) % p).map (Value.int .u64)) := Lib.hid (by rw [map_next, List.map_append, hentry, hlena, HN.out]; rfl)
          have hjn : (j : Int) < ncol b := by omega
          obtain ⟨Ar, cr, hr'⟩ := row_form hO
          subst hr'
          have HO := Lib.hid hO
          have hbaw : ba < wr.heap.size := Nat.lt_of_lt_of_le hba (Nat.le_trans hszr hszj)
          have hbtw : bt < wr.heap.size := Nat.lt_of_lt_of_le hbt (Nat.le_trans hszr hszj)
          clear hO hentry hT
          generalize dot p (ro a k) (ro (trn b) j) = D at *
          go_wp2_with fail
          go_region_held3 (fun w' => w'.cell? ⟨ba, oa + k, none⟩ = some (.slice A' b.length c') ∧ w'.cell? ⟨bt, ot + j, none⟩ = some (.slice T' b.length cT))
            (first | (refine ⟨?_, ?_⟩ <;> assumption))
            (first
              | (go_at_call 50; (with_reducible refine hdot.mono ?_); rintro e w5 ⟨rfl, hb5⟩; have hBd : Below wr.heap.size wr w5 := (Below.refl _ wr).drew.trans (hb5.mono (Nat.le_refl _)); have c15 := (hBd.cell (p := ⟨ba, oa + k, none⟩) hbaw).trans hcaw; have c25 := (hBd.cell (p := ⟨bt, ot + j, none⟩) hbtw).trans hctw; have hsz5 := hBd.size; have HO5 := Lib.hid ((own_below HO.out hBd).alloc (.cells #[.int .u64 D] 22)); have c16 : (w5.alloc (.cells #[.int .u64 D] 22)).cell? ⟨ba, oa + k, none⟩ = some (.slice A' b.length c') := (World.cell?_alloc_some _ _ _ (by rw [c15]; rfl)).trans c15; have c26 : (w5.alloc (.cells #[.int .u64 D] 22)).cell? ⟨bt, ot + j, none⟩ = some (.slice T' b.length cT) := (World.cell?_alloc_some _ _ _ (by rw [c25]; rfl)).trans c25; clear hb5)
              | (refine step_append_own _ (by rfl) _ _ _ (by rfl) W0.heap.size 22 i0 (.int .u64 0) 1 8 Tryz.underlying23 hi0 hz0 hz1 hz2 rfl (by decide) _ _ _ (by rfl) HO5.out ⟨w5.heap.size, 0, none⟩ 1 1 [.int .u64 D] (by rfl) (by rfl) (cell_one_new _ _ _) (by simp [Value.oneCell']) (by simp only [maxLen]; omega) (by omega) (by first | omega | (simp; done) | (simp; omega)) ?_; intro v6 w6 hown6 hgrow6; have hB6 : Below W0.heap.size W0 w6 := ((hBj.trans (hBd.mono hszj)).alloc (by omega) _).grown hgrow6 (by first | omega | (simp; done) | (simp; omega)) (fun x e => (World.ownsRow.lt HO5.out x e).1); have c17 := ((hBr.trans (hB6.mono hszr)).cell (p := ⟨ba, oa + k, none⟩) hba).trans hca; have c27 := ((hBr.trans (hB6.mono hszr)).cell (p := ⟨bt, ot + j, none⟩) hbt).trans hct))
          all_goals
            rw [hNX.out] at hown6
            go_wp2_with fail
            go_roundw
            case rel => exact ⟨j + 1, by omega, by simp, hown6, hB6⟩
            case measure => simp [intOf]; omega
        · obtain rfl : j = ncol b := by omega
          have hRow : ((List.range (ncol b)).map fun c => sg (ro a k).length (fun t => co (ro a k) t * mx b t c) % p) = ro (mulM p a b) k := (mulM_ro p b hlt).symm
          rw [hRow] at hO
          have hrl : (ro (mulM p a b) k).length = ncol b := by rw [mulM_ro p b hlt, mulR_len]
          have hTK : Hid ((mulM p a b).take k ++ [ro (mulM p a b) k] = (mulM p a b).take (k + 1)) := Lib.hid (by rw [List.take_add_one, ro_get (by rw [mulM_len]; exact hlt)]; rfl)
          obtain ⟨Ar, cr, hr'⟩ := row_form hO
          subst hr'
          have hbA := hBj.alloc hszj (.cells #[.slice Ar (ncol b) cr] 23)
          have hOA := Lib.hid (hO.alloc (.cells #[.slice Ar (ncol b) cr] 23))
          have hhd := Lib.hid (hMH.out.next hbA).head
          clear hO hRow
          go_wp2_with (at_builtin; refine wpList_append_own _ rfl _ _ 24 rfl w3.heap.size 23 j0 (.slice none 0 0) 1 24 Tryz.underlying24 hj0 hy0 hy1 hy2 rfl (by decide) _ _ _ rfl hhd.out ⟨wr.heap.size, 0, none⟩ 1 1 [.slice Ar (ncol b) cr] rfl rfl (cell_one_new _ _ _) (by simp [Value.oneCell']) (by simp only [maxLen]; omega) (by omega) (by simp; omega) ?_; intro v6 w6 hown6 hgrow6 _)
          go_roundw
          case rel => exact ⟨k + 1, _, by omega, by simp, by rw [← hTK.out]; exact hMH.out.add hbA hszr (by rw [hrl]; exact hOA.out) hown6 hgrow6, (hBr.trans (hbA.mono hszr)).grown hgrow6 (by simp; omega) (fun x e => (World.ownsRow.lt hhd.out x e).1)⟩
          case measure => simp [intOf]; omega
    · obtain rfl : k = a.length := by omega
      rw [List.take_of_length_le (by rw [mulM_len]; exact Nat.le_refl _)] at hM
      obtain ⟨A2, c2, hv2, hs2⟩ := hM.form
      subst hv2
      go_wp2_with fail
      go_ret2
      exact ⟨A2, c2, by rw [mulM_len]; rfl, hs2, hB.trans (hBr.mono hB.size)⟩

theorem rMul_bad (p : Int) (A B : Option Addr) (ca cb : Nat) (a b : List (List Int)) (za : Sized a) (zb : Sized b) (h : mulB a b = false) (w : World) (sa : Sll w A ca a) (sb : Sll w B cb b) :
    Calls Tryz.prog 24 #[.int .u64 p, .slice A a.length ca, .slice B b.length cb] w fun e w' => e = .returned (.tuple #[.slice none 0 0, .int .i64 1]) ∧ Below w.heap.size w w' := by
  have g1 := fun W (h : Sll W A ca a) => rRect_b A ca a (by have := za.1; omega) W h
  have g2 := fun W (h : Sll W B cb b) => rRect_b B cb b (by have := zb.1; omega) W h
  cases ha : rect a with
  | false =>
    rw [ha] at g1
    go_enter Tryz.func24, Tryz.ntmps24
    go_wp2_with fail
    refine (g1 _ sa).mono ?_; rintro e w1 ⟨rfl, hB⟩
    go_wp2_with fail
    refine (g2 _ (sb.next hB)).mono ?_; rintro e w2 ⟨rfl, hb2⟩
    go_wp2_with fail
    go_ret2
    exact ⟨rfl, hB.trans (hb2.mono hB.size)⟩
  | true =>
    rw [ha, rectN_of ha] at g1
    cases hb : rect b with
    | false =>
      rw [hb] at g2
      go_enter Tryz.func24, Tryz.ntmps24
      go_wp2_with fail
      refine (g1 _ sa).mono ?_; rintro e w1 ⟨rfl, hB⟩
      go_wp2_with fail
      refine (g2 _ (sb.next hB)).mono ?_; rintro e w2 ⟨rfl, hb2⟩
      go_wp2_with fail
      go_ret2
      exact ⟨rfl, hB.trans (hb2.mono hB.size)⟩
    | true =>
      have hn : ncol a ≠ b.length := fun e => by rw [mulB_iff.2 ⟨ha, hb, e⟩] at h; cases h
      have hn' : ((ncol a : Int) != b.length) = true := bne_iff_ne.2 (by omega)
      rw [hb] at g2
      go_enter Tryz.func24, Tryz.ntmps24
      go_wp2_with fail
      refine (g1 _ sa).mono ?_; rintro e w1 ⟨rfl, hB⟩
      go_wp2_with fail
      refine (g2 _ (sb.next hB)).mono ?_; rintro e w2 ⟨rfl, hb2⟩
      go_wp2_with fail
      go_ret2
      exact ⟨rfl, hB.trans (hb2.mono hB.size)⟩
end Go.Proofs.YtkhiiiggmhncbaaGreat

/- Reduced of the reference of layer 6: elimination on a copy. Nothing that lay is changed. Conditions: a supported prime, rows of one length with words of its field; at most 200 rows and columns. -/
namespace Go.Proofs.YtkhiiiggmhncbaaGreat
set_option maxRecDepth 100000
open Go.RowKit PolyMath FieldMath MatMath

theorem fsub_zero (p d : Int) : fsub p 0 d = fneg p d := by unfold fsub fneg; rw [Int.zero_sub]
theorem subR_zero {p : Int} (hp : 0 < p) {r : List Int} (hr : El p r) (t : List Int) : subR p 0 r t = r := list_ext (subR_len _ _ _ _) fun c => by
  unfold subR
  rw [co_map]
  by_cases h : c < r.length
  · rw [if_pos h]; unfold fsub fmul; rw [Int.zero_mul, Int.zero_emod, Int.sub_zero]; exact hr.cm hp c
  · rw [if_neg h, co_fin r c (by omega)]
theorem clrK_none {p : Int} (hp : 0 < p) {R : List (List Int)} {N L q k j : Nat} (hR : Mat p N L R) (hj : j < N) (hne : j ≠ q) (h0 : mx R j k = 0) : clrK p R q k (j + 1) = clrK p R q k j := by
  rw [← clrK_next p k (by rw [hR.rows]; exact hj) hne, h0, subR_zero hp (hR.ro hj).2]
  have := clrK_at p (q := q) (k := k) (show j < R.length by rw [hR.rows]; exact hj) hne
  rw [← this, set_ro]
/-- What Reduced leaves. -/
def Redd (p : Int) (rows : List (List Int)) (k : Nat) (w : World) (e : Ending) (w' : World) : Prop :=
  ∃ v vs pvv, e = .returned (.tuple #[v, pvv, .int .u64 (elim p rows k).d]) ∧ MP w.heap.size w' v rows.length rows.length vs (elim p rows k).R ∧ w'.ownsRow w.heap.size 3 1 pvv (elim p rows k).pv.length (pvs (elim p rows k).pv) ∧ Below w.heap.size w w'

set_option maxRecDepth 100000 in
set_option maxHeartbeats 3000000 in
theorem red_any (p : Int) (hp : OkP p) (A : Option Addr) (c L cols : Nat) (rows : List (List Int)) (hN : rows.length ≤ 200) (hL : L ≤ 200) (hc : cols ≤ L) (hcN : 0 < cols → 0 < rows.length) (hA : Mat p rows.length L rows)
    (w : World) (h : Sll w A c rows) :
    Calls Tryz.prog 45 #[.int .u64 p, .slice A rows.length c, .int .i64 cols] w fun e w' => Redd p rows cols w e w' := by
  obtain ⟨i0, hi0, hz0, hz1, hz2⟩ := info_parts info_int
  obtain ⟨u0, hu0, hx0, hx1, hx2⟩ := info_parts info_u64
  obtain ⟨j0, hj0, hy0, hy1, hy2⟩ := info_parts info_sl
  have hbd := hp.bd
  have hok := elim_ok hp.good hA
  go_enter Tryz.func45, Tryz.ntmps45
  go_wp2
  go_loopw [9, 10] (fun v i wr => ∃ (k : Nat) (vs : List Value), k ≤ rows.length ∧ i = .int .i64 k ∧ MP w.heap.size wr v k k vs (rows.take k) ∧ Below w.heap.size w wr) (fun _ i _ => rows.length - (intOf i).toNat)
  case atStart => exact ⟨0, [], Nat.zero_le _, rfl, MP.zero _ _, Below.refl _ _⟩
  case round =>
    obtain ⟨k, vs, hk, rfl, hM, hB⟩ := hrel
    have hsz : w.heap.size ≤ wr.heap.size := hB.size
    by_cases hlt : k < rows.length
    · obtain ⟨ba, oa, A', c', hA', hba, hca, hsa⟩ := h.rowAt (i := k) (L := L) hlt (hA.ro hlt).1
      subst hA'
      have hcaw := (hB.cell (p := ⟨ba, oa + k, none⟩) hba).trans hca
      have hkn : (k : Int) < rows.length := by omega
      have hMH := Lib.hid hM
      obtain ⟨Ao, co', ho⟩ := row_form hM.head
      subst ho
      have hTK : Hid (rows.take k ++ [ro rows k] = rows.take (k + 1)) := Lib.hid (by rw [List.take_add_one, ro_get hlt]; rfl)
      have hlit := own_lit0 wr
      have hrl := Lib.hid (hA.ro hlt).1
      have hsw := hsa.next hB
      have hone := Lib.hid (one_cells (ro rows k))
      have hcaw2 : (wr.alloc (.cells #[] 22)).cell? ⟨ba, oa + k, none⟩ = some (.slice A' L c') := (World.cell?_alloc_some _ _ _ (by rw [hcaw]; rfl)).trans hcaw
      clear hM
      cases A' with
      | none =>
        obtain ⟨hr0, hc0⟩ := hsw.empty rfl
        have hL0 : L = 0 := by rw [← hrl.out, hr0]; rfl
        subst hL0 hc0
        have hu : Hid ((wr.alloc (.cells #[] 22)).ownsRow wr.heap.size 22 1 (.slice (some ⟨wr.heap.size, 0, none⟩) 0 0) 0 []) := hlit
        have hb1 := (Below.refl _ wr).alloc (Nat.le_refl _) (.cells #[] 22)
        have hb2 := hb1.alloc hb1.size (.cells #[.slice (some ⟨wr.heap.size, 0, none⟩) 0 0] 23)
        have hhd := Lib.hid (hMH.out.next hb2).head
        have huA := Lib.hid (hu.out.alloc (.cells #[.slice (some ⟨wr.heap.size, 0, none⟩) 0 0] 23))
        have hR0 := Lib.hid hr0
        clear hr0 hsw hsa
        go_wp2_with (first | (at_builtin; refine wpList_append_own_none rfl _ _ 23 rfl wr.heap.size 22 u0 1 Tryz.underlying23 hu0 _ _ _ rfl hlit.out rfl ?_) | (at_builtin; refine wpList_append_own _ rfl _ _ 24 rfl w.heap.size 23 j0 (.slice none 0 0) 1 24 Tryz.underlying24 hj0 hy0 hy1 hy2 rfl (by decide) _ _ _ rfl hhd.out ⟨wr.heap.size + 1, 0, none⟩ 1 1 [.slice (some ⟨wr.heap.size, 0, none⟩) 0 0] rfl rfl (by have := cell_one_new (wr.alloc (.cells #[] 22)) (.slice (some ⟨wr.heap.size, 0, none⟩) 0 0) 23; rwa [World.size_alloc] at this) (by simp [Value.oneCell']) (by simp only [maxLen]; omega) (by omega) (by simp; omega) ?_; intro v6 w6 hown6 hgrow6 _))
        go_roundw
        case rel => exact ⟨k + 1, _, by omega, by simp, by rw [← hTK.out, hR0.out]; exact hMH.out.add hb2 hsz huA.out hown6 hgrow6, (hB.trans (hb2.mono hsz)).grown hgrow6 (by simp; omega) (fun x e => (World.ownsRow.lt hhd.out x e).1)⟩
        case measure => simp [intOf]; omega
      | some ad =>
        have hnw := Lib.hid (hsw.news (.cells #[] 22) L)
        rw [List.take_of_length_le (by rw [hrl.out]; exact Nat.le_refl _)] at hnw
        have hln : Hid (((ro rows k).map (Value.int .u64)).length = L * 1) := Lib.hid (by rw [List.length_map, hrl.out, Nat.mul_one])
        clear hsw hsa
        go_wp2_with (first | (at_builtin; refine wpList_append_own _ rfl _ _ 24 rfl w.heap.size 23 j0 (.slice none 0 0) 1 24 Tryz.underlying24 hj0 hy0 hy1 hy2 rfl (by decide) _ _ _ rfl hhd.out ⟨w5.heap.size, 0, none⟩ 1 1 [.slice A5 L c5] rfl rfl (cell_one_new _ _ _) (by simp [Value.oneCell']) (by simp only [maxLen]; omega) (by omega) (by simp; omega) ?_; intro v6 w6 hown6 hgrow6 _) | (at_builtin; refine wpList_append_own _ rfl _ _ 23 rfl wr.heap.size 22 u0 (.int .u64 0) 1 8 Tryz.underlying23 hu0 hx0 hx1 hx2 rfl (by decide) _ _ _ rfl hlit.out ad L c' ((ro rows k).map (Value.int .u64)) rfl hln.out hnw.out hone.out (by simp only [maxLen]; omega) (by omega) (by simp) ?_; intro v5 w5 hown5 hgrow5 _; rw [Nat.zero_add, List.nil_append] at hown5; have hb5 : Below wr.heap.size wr w5 := ((Below.refl _ wr).alloc (Nat.le_refl _) _).grown hgrow5 (by simp) (fun x e => (hlit.out.lt x e).1); obtain ⟨A5, c5, hv5⟩ := row_form hown5; subst hv5; have hsz5 := hb5.size; have hb6 := hb5.alloc hsz5 (.cells #[.slice A5 L c5] 23); have hhd := Lib.hid (hMH.out.next hb6).head; have hu6 := Lib.hid (hown5.alloc (.cells #[.slice A5 L c5] 23)); clear hown5 hgrow5))
        go_roundw
        case rel => exact ⟨k + 1, _, by omega, by simp, by rw [← hTK.out]; exact hMH.out.add hb6 hsz (by rw [hrl.out]; exact hu6.out) hown6 hgrow6, (hB.trans (hb6.mono hsz)).grown hgrow6 (by simp; omega) (fun x e => (World.ownsRow.lt hhd.out x e).1)⟩
        case measure => simp [intOf]; omega
    · obtain rfl : k = rows.length := by omega
      rw [List.take_length] at hM
      by_cases hN0 : rows.length = 0
      · have hc0 : cols = 0 := by
          rcases Nat.eq_zero_or_pos cols with e | e
          · exact e
          · have := hcN e; omega
        subst hc0
        obtain ⟨Ao, co', ho⟩ := row_form hM.head
        subst ho
        have hMH := Lib.hid hM
        clear hM
        go_wp2_with fail
        go_loopw [11, 12, 13] (fun a d i wr2 => a = .slice none 0 0 ∧ d = .int .u64 1 ∧ i = .int .i64 0 ∧ wr2 = wr) (fun _ _ i _ => (intOf i).toNat)
        case atStart => exact ⟨rfl, rfl, rfl, rfl⟩
        case round =>
          obtain ⟨rfl, rfl, rfl, rfl⟩ := hrel
          go_wp2_with fail
          go_ret3
          exact ⟨_, vs, _, rfl, hMH.out, World.ownsRow_nil _ _ _ _, hB⟩
      · obtain ⟨g, cap, hv, _, _⟩ := World.ownsRow.form hM.head (by omega)
        subst hv
        have hcapN : rows.length ≤ cap := by have h5 := hM.sll.cap; exact h5
        have hMH := Lib.hid hM
        clear hM
        rename World => w1
        go_wp2_with fail
        go_loopw [11, 12, 13] (fun pvv dv i wr => ∃ (k : Nat) (S : ES) (vs : List Value), k ≤ cols ∧ i = .int .i64 k ∧ dv = .int .u64 S.d ∧ Hid (elim p rows k = S) ∧ MP w.heap.size wr (.slice (some ⟨g, 0, none⟩) rows.length cap) rows.length rows.length vs S.R ∧ wr.ownsRow w.heap.size 3 1 pvv S.pv.length (pvs S.pv) ∧ Below w.heap.size w wr) (fun _ _ i _ => cols - (intOf i).toNat)
        case atStart => exact ⟨0, _, vs, Nat.zero_le _, rfl, rfl, Lib.hid rfl, hMH.out, (show w1.ownsRow w.heap.size 3 1 (.slice none 0 0) 0 [] from World.ownsRow_nil _ _ _ _), hB⟩
        case round =>
          clear hMH
          obtain ⟨k, S, vs1, hk, rfl, rfl, hE, hM1, hP1, hB1⟩ := hrel
          have hELF := hok k
          rw [hE.out] at hELF
          have hb1 : w.heap.size ≤ wr.heap.size := hB1.size
          by_cases hlt : k < cols
          · obtain ⟨R, pv, d⟩ := S
            obtain ⟨A3, c3, rfl⟩ := row_form hP1
            have hqle := hELF.ech.len
            have hstep : fnd R pv.length k = none → Hid (elim p rows (k + 1) = ⟨R, pv, d⟩) := fun h => Lib.hid (by rw [elim_skip (by rw [hE.out]; exact h), hE.out])
            have hstep2 : ∀ b, fnd R pv.length k = some b → Hid (elim p rows (k + 1) = ⟨clr p (plc R pv.length b) pv.length k, pv ++ [k], fmul p (if b = 0 then d else fneg p d) (mx (plc R pv.length b) pv.length k)⟩) := fun b h => Lib.hid (by rw [elim_step (b := b) (by rw [hE.out]; exact h), hE.out])
            have hmat := hELF.mat
            have hdb := hELF.db
            dsimp only at hM1 hP1 hqle hmat hdb ⊢
            have HP1 := Lib.hid hP1
            generalize hq : pv.length = q at *
            have HQ := Lib.hid hq
            clear hq hE hELF hP1
            have HM1 := Lib.hid hM1
            have hkc : (k : Int) < cols := by omega
            clear hM1
            go_wp2_with fail
            go_loop [14] (fun i => ∃ j : Nat, q ≤ j ∧ j ≤ rows.length ∧ i = .int .i64 j ∧ Hid (∀ t, q ≤ t → t < j → mx R t k = 0)) (fun i => rows.length - (intOf i).toNat)
            case atStart => exact ⟨q, Nat.le_refl _, hqle, rfl, Lib.hid (fun t h1 h2 => by omega)⟩
            case round =>
              obtain ⟨j, hqj, hjN, rfl, hZ⟩ := hrel
              have hkL00 : k < L := by omega
              by_cases hlj : j < rows.length
              · obtain ⟨b2, cb2, hv2, hc2, hO2, _, _⟩ := HM1.out.hd hlj (hmat.ro hlj).1 (by omega)
                have hcx2 := hO2.cell (i := k) (x := mx R j k) (by rw [mx_ro]; exact co_get (by rw [(hmat.ro hlj).1]; exact hkL00) ▸ List.getElem?_eq_getElem _)
                have hjn : (j : Int) < rows.length := by omega
                have hkLI0 : (k : Int) < L := by omega
                clear hO2
                by_cases hx0' : mx R j k = 0
                · have hN2 := Lib.hid (show ∀ t, q ≤ t → t < j + 1 → mx R t k = 0 from fun t h1 h2 => by
                    by_cases e : t = j
                    · subst e; exact hx0'
                    · exact hZ.out t h1 (by omega))
                  rw [hx0'] at hcx2
                  clear hx0' hZ
                  go_wp2_with fail
                  go_round
                  case rel => exact ⟨j + 1, by omega, by omega, by simp, hN2⟩
                  case measure => simp [intOf]; omega
                · have hfn : fnd R q k = some (j - q) := fnd_some.2 ⟨by rw [show q + (j - q) = j by omega, hmat.rows]; exact hlj, by rw [show q + (j - q) = j by omega]; exact hx0', fun t ht => hZ.out (q + t) (by omega) (by omega)⟩
                  have hnx := hstep2 _ hfn
                  have hx0'' : (mx R j k == 0) = false := beq_eq_false_iff_ne.2 hx0'
                  have hjne : ((j : Int) == rows.length) = false := beq_eq_false_iff_ne.2 (by omega)
                  have hqN : q < rows.length := by omega
                  clear hstep hstep2 hfn
                  by_cases hjq : j = q
                  · have hjq2 := hjq.symm
                    subst hjq2
                    rename World => W3
                    have hnx3 : Hid (elim p rows (k + 1) = ⟨clr p R q k, pv ++ [k], fmul p d (mx R q k)⟩) := Lib.hid (by have := hnx.out; rw [Nat.sub_self, show plc R q 0 = R from if_pos rfl, if_pos rfl] at this; exact this)
                    have hM3 := HM1.out
                    have hmat3 := hmat
                    have hD3 := hdb
                    have hb3 := hb1
                    have hP3 := HP1.out
                    have hB3 := hB1
                    have hjj : ((q : Int) != q) = false := by simp
                    have hne3 := hx0'
                    clear hnx hc2 hcx2 hx0''
                    have hkL : k < L := by omega
                    have hmxb := hmat3.bd (p := p) (by omega) q k
                    obtain ⟨b3, cb3, hv3, hc3, hO3, _, _⟩ := hM3.hd hqN (hmat3.ro hqN).1 (by omega)
                    have hcx3 := hO3.cell (i := k) (x := mx R q k) (by rw [mx_ro]; exact co_get (by rw [(hmat3.ro hqN).1]; exact hkL) ▸ List.getElem?_eq_getElem _)
                    have hXp : 0 < mx R q k := by have := hmxb.1; omega
                    have hmul := fun W => rMul_any p d (mx R q k) hp hD3.1 hD3.2 hmxb.1 hmxb.2 W
                    have hdb3 := fmul_bd p d (mx R q k) (by omega)
                    have hinv := fun W => rInv_any p (mx R q k) hp hXp hmxb.2 W
                    rw [show fpow p (mx R q k) (p - 2) = vinv p (mx R q k) from rfl] at hinv
                    have hvb : 0 ≤ vinv p (mx R q k) ∧ vinv p (mx R q k) < p := fpow_bd p (mx R q k) (p - 2) (by omega)
                    have hTOP : Hid (mixO (fun c => fmul p (co (ro R q) c) (vinv p (mx R q k))) 0 L (ro R q) = top p R q k) := Lib.hid (mixO_scl (by rw [(hmat3.ro hqN).1, Nat.zero_add]) (fun c hc => absurd hc (Nat.not_lt_zero _)))
                    have hkLI : (k : Int) < L := by omega
                    have hqNI : (q : Int) < rows.length := by omega
                    have hMM := Lib.hid hM3
                    have hmatH := hmat3
                    generalize hDD : fmul p d (mx R q k) = DD at *
                    generalize hVV : vinv p (mx R q k) = V at *
                    generalize hXX : mx R q k = X3 at *
                    clear hM3 hO3 hDD hVV hXX
                    go_wp2_with (first | (go_at_call 43; refine (hmul _).mono ?_; rintro e w' ⟨rfl, rfl⟩) | (go_at_call 72; refine (hinv _).mono ?_; rintro e w' ⟨rfl, rfl⟩))
                    go_loopw [18] (fun i wr => ∃ j : Nat, j ≤ L ∧ i = .int .i64 j ∧ MP w.heap.size wr (.slice (some ⟨g, 0, none⟩) rows.length cap) rows.length rows.length vs1 (R.set q (mixO (fun c => fmul p (co (ro R q) c) V) 0 j (ro R q))) ∧ Kp w.heap.size W3 wr) (fun i _ => L - (intOf i).toNat)
                    case atStart => exact ⟨0, Nat.zero_le _, rfl, by rw [mixO_zero, set_ro]; exact hMM.out, Kp.refl _ _⟩
                    case round =>
                      obtain ⟨j, hj, rfl, hMj, hKj⟩ := hrel
                      have hbj : w.heap.size ≤ wr.heap.size := Nat.le_trans hb3 hKj.below.size
                      have hrq : ro (R.set q (mixO (fun c => fmul p (co (ro R q) c) V) 0 j (ro R q))) q = mixO (fun c => fmul p (co (ro R q) c) V) 0 j (ro R q) := by rw [ro_set (by rw [hmatH.rows]; exact hqN), if_pos rfl]
                      obtain ⟨b4, cb4, hv4, hc4, hO4, hbg4, hcb4⟩ := hMj.hd (L := L) hqN (by rw [hrq, mixO_len]; exact (hmatH.ro hqN).1) (by omega)
                      rw [hrq] at hO4
                      by_cases hltj : j < L
                      · have hcj := hO4.cell (mixO_get (fun c => fmul p (co (ro R q) c) V) 0 j (ro R q) (c := j) (by rw [(hmatH.ro hqN).1]; exact hltj))
                        rw [if_neg (by omega)] at hcj
                        have hxb := (hmatH.ro hqN).2.co (p := p) (by omega) j
                        have hfz := hO4.frozen j
                        have hST := Lib.hid (show OwnAt (wr.drew.setCell ⟨b4, j, none⟩ (.int .u64 (fmul p (co (ro R q) j) V))) w.heap.size b4 L cb4 (mixO (fun c => fmul p (co (ro R q) c) V) 0 (j + 1) (ro R q)) by rw [← mixO_set0]; exact hO4.drew.put _ _)
                        have hGR := Lib.hid (hO4.drew.grow j (fmul p (co (ro R q) j) V))
                        have hKG := Lib.hid (Kp.grown hO4.drew hGR.out hbj)
                        have hlt4 := hO4.lt
                        have hMJ := Lib.hid hMj
                        have hjL : (j : Int) < L := by omega
                        clear hMj hO4 hrq
                        generalize co (ro R q) j = x at *
                        go_wp2_with fail
                        refine wp_region_still_tail 16 (by kernel_rfl) (by kernel_rfl) ?_
                        simp only [List.take_succ_cons, List.take_zero, List.drop_succ_cons, List.drop_zero]
                        change wpStill _ _ (World.drew _) (fun a' => wpList _ _ _ _ a' (World.drew _)) _ _
                        repeat still_step
                        still_call (still_of (rMul_any _ _ _ hp hxb.1 hxb.2 hvb.1 hvb.2 _))
                        repeat still_step
                        refine wpStill_nil ?_
                        go_wp2_with fail
                        go_roundw
                        case rel => exact ⟨j + 1, by omega, by simp, by have := (hMJ.out.next (Below.refl _ wr).drew).change hqN hv4 hST.out hGR.out; rw [List.set_set] at this; exact this, hKj.trans ((Kp.of (Below.refl _ wr).drew hbj).trans hKG.out)⟩
                        case measure => simp [intOf]; omega
                      · obtain rfl : L = j := by omega
                        rw [hTOP.out] at hMj
                        have hM5 : MP w.heap.size wr (.slice (some ⟨g, 0, none⟩) rows.length cap) rows.length rows.length vs1 (clrK p R q k 0) := by rw [clrK_start p k (by rw [hmatH.rows]; exact hqN)]; exact hMj
                        have hM5H := Lib.hid hM5
                        have hK5 := hKj
                        clear hM5 hMj hO4 hrq hKj
                        rename World => w5
                        go_wp2_with fail
                        go_loopw [19] (fun i wr => ∃ t : Nat, t ≤ rows.length ∧ i = .int .i64 t ∧ MP w.heap.size wr (.slice (some ⟨g, 0, none⟩) rows.length cap) rows.length rows.length vs1 (clrK p R q k t) ∧ Kp w.heap.size W3 wr) (fun i _ => rows.length - (intOf i).toNat)
                        case atStart => exact ⟨0, Nat.zero_le _, rfl, hM5H.out, hK5⟩
                        case round =>
                          obtain ⟨t, ht, rfl, hMt, hKt⟩ := hrel
                          have hbt : w.heap.size ≤ wr.heap.size := Nat.le_trans hb3 hKt.below.size
                          by_cases hltt : t < rows.length
                          · have hmatt := hmatH.clrK (p := p) (by omega) hqN k t
                            have htn : (t : Int) < rows.length := by omega
                            obtain ⟨b6, cb6, hv6, hc6, hO6, hbg6, hcb6⟩ := hMt.hd (L := L) hltt (hmatt.ro hltt).1 (by omega)
                            by_cases htq : t = q
                            · subst htq
                              rw [clrK_top p k t (by rw [hmatH.rows]; exact hqN)] at hO6
                              have hcx6 := hO6.cell (i := k) (x := co (top p R t k) k) (co_get (show k < (top p R t k).length by rw [(hmatH.top (p := p) (by omega) hqN k).1]; exact hkL) ▸ List.getElem?_eq_getElem _)
                              have hEq := Lib.hid (clrK_here p R t k)
                              have htq' : ((t : Int) != t) = false := by simp
                              have hMT := Lib.hid hMt
                              clear hMt hO6
                              generalize co (top p R t k) k = y at *
                              go_wp2_with fail
                              go_roundw
                              case rel => exact ⟨t + 1, by omega, by simp, by rw [hEq.out]; exact hMT.out, hKt⟩
                              case measure => simp [intOf]; omega
                            · rw [clrK_at p (by rw [hmatH.rows]; exact hltt) htq] at hO6
                              have hcx6 := hO6.cell (i := k) (x := mx R t k) (by rw [mx_ro]; exact co_get (by rw [(hmatH.ro hltt).1]; exact hkL) ▸ List.getElem?_eq_getElem _)
                              have htq' : ((t : Int) != q) = true := bne_iff_ne.2 (by omega)
                              have hfb := hmatH.bd (p := p) (by omega) t k
                              by_cases hf0 : mx R t k = 0
                              · have hEq := Lib.hid (clrK_none (p := p) (by omega) hmatH hltt htq hf0)
                                rw [hf0] at hcx6
                                have hMT := Lib.hid hMt
                                clear hMt hO6
                                go_wp2_with fail
                                go_roundw
                                case rel => exact ⟨t + 1, by omega, by simp, by rw [hEq.out]; exact hMT.out, hKt⟩
                                case measure => simp [intOf]; omega
                              · have hf0' : (mx R t k != 0) = true := bne_iff_ne.2 hf0
                                have hNX := Lib.hid (clrK_next p (R := R) (q := q) k (show t < R.length by rw [hmatH.rows]; exact hltt) htq)
                                have hSUB : Hid (mixO (fun c => fsub p (co (ro R t) c) (fmul p (mx R t k) (co (top p R q k) c))) 0 L (ro R t) = subR p (mx R t k) (ro R t) (top p R q k)) := Lib.hid (by have := mixO_all (fun c => fsub p (co (ro R t) c) (fmul p (mx R t k) (co (top p R q k) c))) (ro R t); rw [(hmatH.ro hltt).1] at this; rw [this]; unfold subR; rw [(hmatH.ro hltt).1])
                                have hMT := Lib.hid hMt
                                have htopl := hmatH.top (p := p) (by omega) hqN k
                                have hstart : (clrK p R q k t).set t (mixO (fun c => fsub p (co (ro R t) c) (fmul p (mx R t k) (co (top p R q k) c))) 0 0 (ro R t)) = clrK p R q k t := by
                                  have e1 := clrK_at p (q := q) (k := k) (show t < R.length by rw [hmatH.rows]; exact hltt) htq
                                  rw [mixO_zero]
                                  conv => lhs; rw [← e1]
                                  exact set_ro _ _
                                have hSTART := Lib.hid hstart
                                have hlenc := clrK_len p R q k t
                                have hroq := clrK_top p k t (show q < R.length by rw [hmatH.rows]; exact hqN)
                                clear hMt hO6 hstart hf0
                                generalize hFF : mx R t k = F at *
                                generalize hTT : top p R q k = TT at *
                                generalize hCC : clrK p R q k t = CC at *
                                have hCm : Mat p rows.length L CC := hmatt
                                clear hmatt hFF hTT hCC
                                rename World => w7
                                go_wp2_with fail
                                go_loopw [21] (fun i wr => ∃ j : Nat, j ≤ L ∧ i = .int .i64 j ∧ MP w.heap.size wr (.slice (some ⟨g, 0, none⟩) rows.length cap) rows.length rows.length vs1 (CC.set t (mixO (fun c => fsub p (co (ro R t) c) (fmul p F (co TT c))) 0 j (ro R t))) ∧ Kp w.heap.size W3 wr) (fun i _ => L - (intOf i).toNat)
                                case atStart => exact ⟨0, Nat.zero_le _, rfl, by rw [hSTART.out]; exact hMT.out, hKt⟩
                                case round =>
                                  obtain ⟨j, hj, rfl, hMj, hKj⟩ := hrel
                                  have hbj : w.heap.size ≤ wr.heap.size := Nat.le_trans hb3 hKj.below.size
                                  have hrt : ro (CC.set t (mixO (fun c => fsub p (co (ro R t) c) (fmul p F (co TT c))) 0 j (ro R t))) t = mixO (fun c => fsub p (co (ro R t) c) (fmul p F (co TT c))) 0 j (ro R t) := by rw [ro_set (by rw [hCm.rows]; exact hltt), if_pos rfl]
                                  have hrq : ro (CC.set t (mixO (fun c => fsub p (co (ro R t) c) (fmul p F (co TT c))) 0 j (ro R t))) q = TT := by rw [ro_set (by rw [hCm.rows]; exact hltt), if_neg (fun e => htq e.symm)]; exact hroq
                                  obtain ⟨b8, cb8, hv8, hc8, hO8, hbg8, hcb8⟩ := hMj.hd (L := L) hltt (by rw [hrt, mixO_len]; exact (hmatH.ro hltt).1) (by omega)
                                  obtain ⟨b9, cb9, hv9, hc9, hO9, hbg9, hcb9⟩ := hMj.hd (L := L) hqN (by rw [hrq]; exact htopl.1) (by omega)
                                  rw [hrt] at hO8
                                  rw [hrq] at hO9
                                  by_cases hltj : j < L
                                  · have hcj := hO8.cell (mixO_get (fun c => fsub p (co (ro R t) c) (fmul p F (co TT c))) 0 j (ro R t) (c := j) (by rw [(hmatH.ro hltt).1]; exact hltj))
                                    rw [if_neg (by omega)] at hcj
                                    have hcy := hO9.cell (i := j) (x := co TT j) (co_get (show j < TT.length by rw [htopl.1]; exact hltj) ▸ List.getElem?_eq_getElem _)
                                    have hxb := (hmatH.ro hltt).2.co (p := p) (by omega) j
                                    have hyb := htopl.2.co (p := p) (by omega) j
                                    have hm9 := fmul_bd p F (co TT j) (by omega)
                                    have hfz := hO8.frozen j
                                    have hST := Lib.hid (show OwnAt (wr.drew.setCell ⟨b8, j, none⟩ (.int .u64 (fsub p (co (ro R t) j) (fmul p F (co TT j))))) w.heap.size b8 L cb8 (mixO (fun c => fsub p (co (ro R t) c) (fmul p F (co TT c))) 0 (j + 1) (ro R t)) by rw [← mixO_set0]; exact hO8.drew.put _ _)
                                    have hGR := Lib.hid (hO8.drew.grow j (fsub p (co (ro R t) j) (fmul p F (co TT j))))
                                    have hKG := Lib.hid (Kp.grown hO8.drew hGR.out hbj)
                                    have hlt8 := hO8.lt
                                    have hMJ := Lib.hid hMj
                                    have hjL : (j : Int) < L := by omega
                                    clear hMj hO8 hO9 hrt hrq
                                    generalize co (ro R t) j = x at *
                                    generalize co TT j = y at *
                                    go_wp2_with fail
                                    refine wp_region_still_tail 25 (by kernel_rfl) (by kernel_rfl) ?_
                                    simp only [List.take_succ_cons, List.take_zero, List.drop_succ_cons, List.drop_zero]
                                    change wpStill _ _ (World.drew _) (fun a' => wpList _ _ _ _ a' (World.drew _)) _ _
                                    repeat still_step
                                    still_call (still_of (rMul_any _ _ _ hp hfb.1 hfb.2 hyb.1 hyb.2 _))
                                    repeat still_step
                                    still_call (still_of (rSub_any _ _ _ hp hxb.1 hxb.2 hm9.1 hm9.2 _))
                                    repeat still_step
                                    refine wpStill_nil ?_
                                    go_wp2_with fail
                                    go_roundw
                                    case rel => exact ⟨j + 1, by omega, by simp, by have := (hMJ.out.next (Below.refl _ wr).drew).change hltt hv8 hST.out hGR.out; rw [List.set_set] at this; exact this, hKj.trans ((Kp.of (Below.refl _ wr).drew hbj).trans hKG.out)⟩
                                    case measure => simp [intOf]; omega
                                  · obtain rfl : L = j := by omega
                                    rw [hSUB.out, hNX.out] at hMj
                                    have hMJ := Lib.hid hMj
                                    clear hMj hO8 hO9 hrt hrq
                                    go_wp2_with fail
                                    go_roundw
                                    case rel => exact ⟨t + 1, by omega, by simp, hMJ.out, hKj⟩
                                    case measure => simp [intOf]; omega
                          · obtain rfl : t = rows.length := by omega
                            have hM9 : MP w.heap.size wr (.slice (some ⟨g, 0, none⟩) rows.length cap) rows.length rows.length vs1 (clr p R q k) := by unfold clr; rw [hmatH.rows]; exact hMt
                            have hM9H := Lib.hid hM9
                            have hP9 := Lib.hid (hKt.own hP3)
                            have hB9 := hB3.trans hKt.below
                            clear hM9 hMt
                            go_wp2_with (at_builtin; refine wpList_append_own _ rfl _ _ 66 rfl w.heap.size 3 i0 (.int .i64 0) 1 8 Tryz.underlying66 hi0 hz0 hz1 hz2 rfl (by decide) _ _ _ rfl (hP9.out.alloc _) ⟨wr.heap.size, 0, none⟩ 1 1 [.int .i64 (k : Int)] rfl rfl (cell_one_new _ _ _) (by simp [Value.oneCell']) (by simp only [maxLen]; omega) (by omega) (by simp; omega) ?_; intro v10 w10 hown10 hgrow10 _)
                            go_roundw
                            case rel => exact ⟨k + 1, _, vs1, by omega, by simp, rfl, hnx3, (hM9H.out.next ((Below.refl _ wr).alloc (Nat.le_refl _) _)).other (hP9.out.alloc _) hgrow10, by rw [List.length_append, List.length_singleton, HQ.out, pvs_snoc]; exact hown10, (hB9.alloc hbt _).grown hgrow10 (by simp; omega) (fun x e => (World.ownsRow.lt hP9.out x e).1)⟩
                            case measure => simp [intOf]; omega
                  · have hjq' : ((j : Int) != q) = true := bne_iff_ne.2 (by omega)
                    obtain ⟨b5, cb5, hv5, hc5, hO5, _, _⟩ := HM1.out.hd hqN (hmat.ro hqN).1 (by omega)
                    have hf1 := World.ownsRow.frozenAt HM1.out.head q
                    have hf2 := World.ownsRow.frozenAt HM1.out.head j
                    have hgl := World.ownsRow.lt HM1.out.head g rfl
                    have hqNI0 : (q : Int) < rows.length := by omega
                    have hsubz := fun W => rSub_any p 0 d hp (by omega) (by omega) hdb.1 hdb.2 W
                    rw [fsub_zero] at hsubz
                    clear hO5
                    go_wp2_with fail
                    go_region
                    obtain ⟨W3, hw4⟩ : ∃ W3, W3 = ((wr.setCell ⟨g, j, none⟩ (.slice (some ⟨b5, 0, none⟩) L cb5)).setCell ⟨g, q, none⟩ (.slice (some ⟨b2, 0, none⟩) L cb2)).drew := ⟨_, rfl⟩
                    rw [← hw4]
                    obtain ⟨vs3, hvs4⟩ : ∃ vs3, vs3 = (vs1.set j (.slice (some ⟨b5, 0, none⟩) L cb5)).set q (.slice (some ⟨b2, 0, none⟩) L cb2) := ⟨_, rfl⟩
                    have hst1 := World.ownsRow.stored HM1.out.head j (.slice (some ⟨b5, 0, none⟩) L cb5)
                    have hst2 := World.ownsRow.stored hst1.1 q (.slice (some ⟨b2, 0, none⟩) L cb2)
                    have hG4 : wr.grownBy W3 (some g) := by rw [hw4]; exact grown_drew (grown_trans hst1.2 hst2.2)
                    have hsc : swR R j q = swR R q j := by unfold swR; exact List.set_comm _ _ hjq
                    have hnx3 : Hid (elim p rows (k + 1) = ⟨clr p (swR R q j) q k, pv ++ [k], fmul p (fneg p d) (mx (swR R q j) q k)⟩) := Lib.hid (by have := hnx.out; rw [show plc R q (j - q) = swR R q j from by unfold plc; rw [if_neg (by omega), show q + (j - q) = j by omega], if_neg (by omega)] at this; exact this)
                    have hM3 : MP w.heap.size W3 (.slice (some ⟨g, 0, none⟩) rows.length cap) rows.length rows.length vs3 (swR R q j) := by rw [hw4, hvs4, ← hsc]; exact (HM1.out.swap hlj hqN hjq hv2 hv5).next (Below.refl _ _).drew
                    have hmat3 := hmat.sw hqN hlj
                    have hqe : mx (swR R q j) q k = mx R j k := mx_swR (R := R) (i := q) (j := j) (by rw [hmat.rows]; exact hqN) (by rw [hmat.rows]; exact hlj) (fun e => hjq e.symm) k
                    have hne3 : mx (swR R q j) q k ≠ 0 := by rw [hqe]; exact hx0'
                    have hD3 := fneg_bd p d (by omega)
                    have hb3 : w.heap.size ≤ W3.heap.size := Nat.le_trans hb1 hG4.size
                    have hPW := HP1.out
                    have hP3 : World.ownsRow W3 w.heap.size 3 1 (.slice A3 q c3) q (pvs pv) := World.ownsRow.kept hPW hG4 (by
                      cases hq9 : (Value.slice A3 q c3).ownBlock with
                      | none => exact .inl rfl
                      | some x =>
                        refine .inr fun e => ?_
                        injection e with e
                        subst e
                        obtain ⟨c1, f1, t1⟩ := own_tag hPW x hq9
                        obtain ⟨c2', f2, t2⟩ := own_tag HM1.out.head x rfl
                        rw [t1] at t2
                        cases t2)
                    have hB3 : Below w.heap.size w W3 := hB1.grown hG4 hb1 (fun x e => by injection e with e; subst e; exact (World.ownsRow.lt HM1.out.head _ rfl).1)
                    clear hnx hst1 hst2 hPW hw4 hvs4 hqe hG4 hsc hc2 hcx2 hc5 hf1 hf2 hx0'' hx0'
                    generalize swR R q j = R2 at *
                    generalize fneg p d = D2 at *
                    have hkL : k < L := by omega
                    have hmxb := hmat3.bd (p := p) (by omega) q k
                    obtain ⟨b3, cb3, hv3, hc3, hO3, _, _⟩ := hM3.hd hqN (hmat3.ro hqN).1 (by omega)
                    have hcx3 := hO3.cell (i := k) (x := mx R2 q k) (by rw [mx_ro]; exact co_get (by rw [(hmat3.ro hqN).1]; exact hkL) ▸ List.getElem?_eq_getElem _)
                    have hXp : 0 < mx R2 q k := by have := hmxb.1; omega
                    have hmul := fun W => rMul_any p D2 (mx R2 q k) hp hD3.1 hD3.2 hmxb.1 hmxb.2 W
                    have hdb3 := fmul_bd p D2 (mx R2 q k) (by omega)
                    have hinv := fun W => rInv_any p (mx R2 q k) hp hXp hmxb.2 W
                    rw [show fpow p (mx R2 q k) (p - 2) = vinv p (mx R2 q k) from rfl] at hinv
                    have hvb : 0 ≤ vinv p (mx R2 q k) ∧ vinv p (mx R2 q k) < p := fpow_bd p (mx R2 q k) (p - 2) (by omega)
                    have hTOP : Hid (mixO (fun c => fmul p (co (ro R2 q) c) (vinv p (mx R2 q k))) 0 L (ro R2 q) = top p R2 q k) := Lib.hid (mixO_scl (by rw [(hmat3.ro hqN).1, Nat.zero_add]) (fun c hc => absurd hc (Nat.not_lt_zero _)))
                    have hkLI : (k : Int) < L := by omega
                    have hqNI : (q : Int) < rows.length := by omega
                    have hMM := Lib.hid hM3
                    have hmatH := hmat3
                    generalize hDD : fmul p D2 (mx R2 q k) = DD at *
                    generalize hVV : vinv p (mx R2 q k) = V at *
                    generalize hXX : mx R2 q k = X3 at *
                    clear hM3 hO3 hDD hVV hXX
                    go_wp2_with (first | (go_at_call 71; refine (hsubz _).mono ?_; rintro e w' ⟨rfl, rfl⟩) | (go_at_call 43; refine (hmul _).mono ?_; rintro e w' ⟨rfl, rfl⟩) | (go_at_call 72; refine (hinv _).mono ?_; rintro e w' ⟨rfl, rfl⟩))
                    go_loopw [18] (fun i wr => ∃ j : Nat, j ≤ L ∧ i = .int .i64 j ∧ MP w.heap.size wr (.slice (some ⟨g, 0, none⟩) rows.length cap) rows.length rows.length vs3 (R2.set q (mixO (fun c => fmul p (co (ro R2 q) c) V) 0 j (ro R2 q))) ∧ Kp w.heap.size W3 wr) (fun i _ => L - (intOf i).toNat)
                    case atStart => exact ⟨0, Nat.zero_le _, rfl, by rw [mixO_zero, set_ro]; exact hMM.out, Kp.refl _ _⟩
                    case round =>
                      obtain ⟨j, hj, rfl, hMj, hKj⟩ := hrel
                      have hbj : w.heap.size ≤ wr.heap.size := Nat.le_trans hb3 hKj.below.size
                      have hrq : ro (R2.set q (mixO (fun c => fmul p (co (ro R2 q) c) V) 0 j (ro R2 q))) q = mixO (fun c => fmul p (co (ro R2 q) c) V) 0 j (ro R2 q) := by rw [ro_set (by rw [hmatH.rows]; exact hqN), if_pos rfl]
                      obtain ⟨b4, cb4, hv4, hc4, hO4, hbg4, hcb4⟩ := hMj.hd (L := L) hqN (by rw [hrq, mixO_len]; exact (hmatH.ro hqN).1) (by omega)
                      rw [hrq] at hO4
                      by_cases hltj : j < L
                      · have hcj := hO4.cell (mixO_get (fun c => fmul p (co (ro R2 q) c) V) 0 j (ro R2 q) (c := j) (by rw [(hmatH.ro hqN).1]; exact hltj))
                        rw [if_neg (by omega)] at hcj
                        have hxb := (hmatH.ro hqN).2.co (p := p) (by omega) j
                        have hfz := hO4.frozen j
                        have hST := Lib.hid (show OwnAt (wr.drew.setCell ⟨b4, j, none⟩ (.int .u64 (fmul p (co (ro R2 q) j) V))) w.heap.size b4 L cb4 (mixO (fun c => fmul p (co (ro R2 q) c) V) 0 (j + 1) (ro R2 q)) by rw [← mixO_set0]; exact hO4.drew.put _ _)
                        have hGR := Lib.hid (hO4.drew.grow j (fmul p (co (ro R2 q) j) V))
                        have hKG := Lib.hid (Kp.grown hO4.drew hGR.out hbj)
                        have hlt4 := hO4.lt
                        have hMJ := Lib.hid hMj
                        have hjL : (j : Int) < L := by omega
                        clear hMj hO4 hrq
                        generalize co (ro R2 q) j = x at *
                        go_wp2_with fail
                        refine wp_region_still_tail 16 (by kernel_rfl) (by kernel_rfl) ?_
                        simp only [List.take_succ_cons, List.take_zero, List.drop_succ_cons, List.drop_zero]
                        change wpStill _ _ (World.drew _) (fun a' => wpList _ _ _ _ a' (World.drew _)) _ _
                        repeat still_step
                        still_call (still_of (rMul_any _ _ _ hp hxb.1 hxb.2 hvb.1 hvb.2 _))
                        repeat still_step
                        refine wpStill_nil ?_
                        go_wp2_with fail
                        go_roundw
                        case rel => exact ⟨j + 1, by omega, by simp, by have := (hMJ.out.next (Below.refl _ wr).drew).change hqN hv4 hST.out hGR.out; rw [List.set_set] at this; exact this, hKj.trans ((Kp.of (Below.refl _ wr).drew hbj).trans hKG.out)⟩
                        case measure => simp [intOf]; omega
                      · obtain rfl : L = j := by omega
                        rw [hTOP.out] at hMj
                        have hM5 : MP w.heap.size wr (.slice (some ⟨g, 0, none⟩) rows.length cap) rows.length rows.length vs3 (clrK p R2 q k 0) := by rw [clrK_start p k (by rw [hmatH.rows]; exact hqN)]; exact hMj
                        have hM5H := Lib.hid hM5
                        have hK5 := hKj
                        clear hM5 hMj hO4 hrq hKj
                        rename World => w5
                        go_wp2_with fail
                        go_loopw [19] (fun i wr => ∃ t : Nat, t ≤ rows.length ∧ i = .int .i64 t ∧ MP w.heap.size wr (.slice (some ⟨g, 0, none⟩) rows.length cap) rows.length rows.length vs3 (clrK p R2 q k t) ∧ Kp w.heap.size W3 wr) (fun i _ => rows.length - (intOf i).toNat)
                        case atStart => exact ⟨0, Nat.zero_le _, rfl, hM5H.out, hK5⟩
                        case round =>
                          obtain ⟨t, ht, rfl, hMt, hKt⟩ := hrel
                          have hbt : w.heap.size ≤ wr.heap.size := Nat.le_trans hb3 hKt.below.size
                          by_cases hltt : t < rows.length
                          · have hmatt := hmatH.clrK (p := p) (by omega) hqN k t
                            have htn : (t : Int) < rows.length := by omega
                            obtain ⟨b6, cb6, hv6, hc6, hO6, hbg6, hcb6⟩ := hMt.hd (L := L) hltt (hmatt.ro hltt).1 (by omega)
                            by_cases htq : t = q
                            · subst htq
                              rw [clrK_top p k t (by rw [hmatH.rows]; exact hqN)] at hO6
                              have hcx6 := hO6.cell (i := k) (x := co (top p R2 t k) k) (co_get (show k < (top p R2 t k).length by rw [(hmatH.top (p := p) (by omega) hqN k).1]; exact hkL) ▸ List.getElem?_eq_getElem _)
                              have hEq := Lib.hid (clrK_here p R2 t k)
                              have htq' : ((t : Int) != t) = false := by simp
                              have hMT := Lib.hid hMt
                              clear hMt hO6
                              generalize co (top p R2 t k) k = y at *
                              go_wp2_with fail
                              go_roundw
                              case rel => exact ⟨t + 1, by omega, by simp, by rw [hEq.out]; exact hMT.out, hKt⟩
                              case measure => simp [intOf]; omega
                            · rw [clrK_at p (by rw [hmatH.rows]; exact hltt) htq] at hO6
                              have hcx6 := hO6.cell (i := k) (x := mx R2 t k) (by rw [mx_ro]; exact co_get (by rw [(hmatH.ro hltt).1]; exact hkL) ▸ List.getElem?_eq_getElem _)
                              have htq' : ((t : Int) != q) = true := bne_iff_ne.2 (by omega)
                              have hfb := hmatH.bd (p := p) (by omega) t k
                              by_cases hf0 : mx R2 t k = 0
                              · have hEq := Lib.hid (clrK_none (p := p) (by omega) hmatH hltt htq hf0)
                                rw [hf0] at hcx6
                                have hMT := Lib.hid hMt
                                clear hMt hO6
                                go_wp2_with fail
                                go_roundw
                                case rel => exact ⟨t + 1, by omega, by simp, by rw [hEq.out]; exact hMT.out, hKt⟩
                                case measure => simp [intOf]; omega
                              · have hf0' : (mx R2 t k != 0) = true := bne_iff_ne.2 hf0
                                have hNX := Lib.hid (clrK_next p (R := R2) (q := q) k (show t < R2.length by rw [hmatH.rows]; exact hltt) htq)
                                have hSUB : Hid (mixO (fun c => fsub p (co (ro R2 t) c) (fmul p (mx R2 t k) (co (top p R2 q k) c))) 0 L (ro R2 t) = subR p (mx R2 t k) (ro R2 t) (top p R2 q k)) := Lib.hid (by have := mixO_all (fun c => fsub p (co (ro R2 t) c) (fmul p (mx R2 t k) (co (top p R2 q k) c))) (ro R2 t); rw [(hmatH.ro hltt).1] at this; rw [this]; unfold subR; rw [(hmatH.ro hltt).1])
                                have hMT := Lib.hid hMt
                                have htopl := hmatH.top (p := p) (by omega) hqN k
                                have hstart : (clrK p R2 q k t).set t (mixO (fun c => fsub p (co (ro R2 t) c) (fmul p (mx R2 t k) (co (top p R2 q k) c))) 0 0 (ro R2 t)) = clrK p R2 q k t := by
                                  have e1 := clrK_at p (q := q) (k := k) (show t < R2.length by rw [hmatH.rows]; exact hltt) htq
                                  rw [mixO_zero]
                                  conv => lhs; rw [← e1]
                                  exact set_ro _ _
                                have hSTART := Lib.hid hstart
                                have hlenc := clrK_len p R2 q k t
                                have hroq := clrK_top p k t (show q < R2.length by rw [hmatH.rows]; exact hqN)
                                clear hMt hO6 hstart hf0
                                generalize hFF : mx R2 t k = F at *
                                generalize hTT : top p R2 q k = TT at *
                                generalize hCC : clrK p R2 q k t = CC at *
                                have hCm : Mat p rows.length L CC := hmatt
                                clear hmatt hFF hTT hCC
                                rename World => w7
                                go_wp2_with fail
                                go_loopw [21] (fun i wr => ∃ j : Nat, j ≤ L ∧ i = .int .i64 j ∧ MP w.heap.size wr (.slice (some ⟨g, 0, none⟩) rows.length cap) rows.length rows.length vs3 (CC.set t (mixO (fun c => fsub p (co (ro R2 t) c) (fmul p F (co TT c))) 0 j (ro R2 t))) ∧ Kp w.heap.size W3 wr) (fun i _ => L - (intOf i).toNat)
                                case atStart => exact ⟨0, Nat.zero_le _, rfl, by rw [hSTART.out]; exact hMT.out, hKt⟩
                                case round =>
                                  obtain ⟨j, hj, rfl, hMj, hKj⟩ := hrel
                                  have hbj : w.heap.size ≤ wr.heap.size := Nat.le_trans hb3 hKj.below.size
                                  have hrt : ro (CC.set t (mixO (fun c => fsub p (co (ro R2 t) c) (fmul p F (co TT c))) 0 j (ro R2 t))) t = mixO (fun c => fsub p (co (ro R2 t) c) (fmul p F (co TT c))) 0 j (ro R2 t) := by rw [ro_set (by rw [hCm.rows]; exact hltt), if_pos rfl]
                                  have hrq : ro (CC.set t (mixO (fun c => fsub p (co (ro R2 t) c) (fmul p F (co TT c))) 0 j (ro R2 t))) q = TT := by rw [ro_set (by rw [hCm.rows]; exact hltt), if_neg (fun e => htq e.symm)]; exact hroq
                                  obtain ⟨b8, cb8, hv8, hc8, hO8, hbg8, hcb8⟩ := hMj.hd (L := L) hltt (by rw [hrt, mixO_len]; exact (hmatH.ro hltt).1) (by omega)
                                  obtain ⟨b9, cb9, hv9, hc9, hO9, hbg9, hcb9⟩ := hMj.hd (L := L) hqN (by rw [hrq]; exact htopl.1) (by omega)
                                  rw [hrt] at hO8
                                  rw [hrq] at hO9
                                  by_cases hltj : j < L
                                  · have hcj := hO8.cell (mixO_get (fun c => fsub p (co (ro R2 t) c) (fmul p F (co TT c))) 0 j (ro R2 t) (c := j) (by rw [(hmatH.ro hltt).1]; exact hltj))
                                    rw [if_neg (by omega)] at hcj
                                    have hcy := hO9.cell (i := j) (x := co TT j) (co_get (show j < TT.length by rw [htopl.1]; exact hltj) ▸ List.getElem?_eq_getElem _)
                                    have hxb := (hmatH.ro hltt).2.co (p := p) (by omega) j
                                    have hyb := htopl.2.co (p := p) (by omega) j
                                    have hm9 := fmul_bd p F (co TT j) (by omega)
                                    have hfz := hO8.frozen j
                                    have hST := Lib.hid (show OwnAt (wr.drew.setCell ⟨b8, j, none⟩ (.int .u64 (fsub p (co (ro R2 t) j) (fmul p F (co TT j))))) w.heap.size b8 L cb8 (mixO (fun c => fsub p (co (ro R2 t) c) (fmul p F (co TT c))) 0 (j + 1) (ro R2 t)) by rw [← mixO_set0]; exact hO8.drew.put _ _)
                                    have hGR := Lib.hid (hO8.drew.grow j (fsub p (co (ro R2 t) j) (fmul p F (co TT j))))
                                    have hKG := Lib.hid (Kp.grown hO8.drew hGR.out hbj)
                                    have hlt8 := hO8.lt
                                    have hMJ := Lib.hid hMj
                                    have hjL : (j : Int) < L := by omega
                                    clear hMj hO8 hO9 hrt hrq
                                    generalize co (ro R2 t) j = x at *
                                    generalize co TT j = y at *
                                    go_wp2_with fail
                                    refine wp_region_still_tail 25 (by kernel_rfl) (by kernel_rfl) ?_
                                    simp only [List.take_succ_cons, List.take_zero, List.drop_succ_cons, List.drop_zero]
                                    change wpStill _ _ (World.drew _) (fun a' => wpList _ _ _ _ a' (World.drew _)) _ _
                                    repeat still_step
                                    still_call (still_of (rMul_any _ _ _ hp hfb.1 hfb.2 hyb.1 hyb.2 _))
                                    repeat still_step
                                    still_call (still_of (rSub_any _ _ _ hp hxb.1 hxb.2 hm9.1 hm9.2 _))
                                    repeat still_step
                                    refine wpStill_nil ?_
                                    go_wp2_with fail
                                    go_roundw
                                    case rel => exact ⟨j + 1, by omega, by simp, by have := (hMJ.out.next (Below.refl _ wr).drew).change hltt hv8 hST.out hGR.out; rw [List.set_set] at this; exact this, hKj.trans ((Kp.of (Below.refl _ wr).drew hbj).trans hKG.out)⟩
                                    case measure => simp [intOf]; omega
                                  · obtain rfl : L = j := by omega
                                    rw [hSUB.out, hNX.out] at hMj
                                    have hMJ := Lib.hid hMj
                                    clear hMj hO8 hO9 hrt hrq
                                    go_wp2_with fail
                                    go_roundw
                                    case rel => exact ⟨t + 1, by omega, by simp, hMJ.out, hKj⟩
                                    case measure => simp [intOf]; omega
                          · obtain rfl : t = rows.length := by omega
                            have hM9 : MP w.heap.size wr (.slice (some ⟨g, 0, none⟩) rows.length cap) rows.length rows.length vs3 (clr p R2 q k) := by unfold clr; rw [hmatH.rows]; exact hMt
                            have hM9H := Lib.hid hM9
                            have hP9 := Lib.hid (hKt.own hP3)
                            have hB9 := hB3.trans hKt.below
                            clear hM9 hMt
                            go_wp2_with (at_builtin; refine wpList_append_own _ rfl _ _ 66 rfl w.heap.size 3 i0 (.int .i64 0) 1 8 Tryz.underlying66 hi0 hz0 hz1 hz2 rfl (by decide) _ _ _ rfl (hP9.out.alloc _) ⟨wr.heap.size, 0, none⟩ 1 1 [.int .i64 (k : Int)] rfl rfl (cell_one_new _ _ _) (by simp [Value.oneCell']) (by simp only [maxLen]; omega) (by omega) (by simp; omega) ?_; intro v10 w10 hown10 hgrow10 _)
                            go_roundw
                            case rel => exact ⟨k + 1, _, vs3, by omega, by simp, rfl, hnx3, (hM9H.out.next ((Below.refl _ wr).alloc (Nat.le_refl _) _)).other (hP9.out.alloc _) hgrow10, by rw [List.length_append, List.length_singleton, HQ.out, pvs_snoc]; exact hown10, (hB9.alloc hbt _).grown hgrow10 (by simp; omega) (fun x e => (World.ownsRow.lt hP9.out x e).1)⟩
                            case measure => simp [intOf]; omega
              · obtain rfl : j = rows.length := by omega
                have hfn : fnd R q k = none := fnd_none.2 fun i h1 h2 => by rw [hmat.rows] at h2; exact hZ.out i h1 h2
                have hnx := hstep hfn
                clear hstep hstep2 hfn hZ
                go_wp2_with fail
                go_roundw
                case rel => exact ⟨k + 1, _, vs1, by omega, by simp, rfl, hnx, HM1.out, by show World.ownsRow _ _ _ _ _ pv.length _; rw [HQ.out]; exact HP1.out, hB1⟩
                case measure => simp [intOf]; omega
          · obtain rfl : k = cols := by omega
            go_wp2_with fail
            go_ret3
            exact ⟨_, vs1, _, by rw [hE.out]; rfl, by rw [hE.out]; exact hM1, by rw [hE.out]; exact hP1, hB1⟩
end Go.Proofs.YtkhiiiggmhncbaaGreat

/- square, Rank and Det of the reference of layer 6. Nothing that lay is changed. Conditions: a supported prime, words of its field, at most 100 rows and columns. -/
namespace Go.Proofs.YtkhiiiggmhncbaaGreat
set_option maxRecDepth 100000
open Go.RowKit PolyMath FieldMath MatMath

theorem rSquare_any (A : Option Addr) (c : Nat) (rows : List (List Int)) (hl : rows.length ≤ 1000) (w : World) (h : Sll w A c rows) :
    Calls Tryz.prog 44 #[.slice A rows.length c] w fun e w' => e = .returned (.bool (squ rows)) ∧ Below w.heap.size w w' := by
  have h1 := rRect_b A c rows (by omega) w h
  cases hr : rect rows with
  | false =>
    have hF : Hid (squ rows = false) := Lib.hid (by unfold squ; rw [hr, Bool.and_false])
    rw [hr] at h1
    go_enter Tryz.func44, Tryz.ntmps44
    go_wp2_with fail
    refine h1.mono ?_; rintro e w1 ⟨rfl, hB⟩
    go_wp2_with fail
    go_ret
    rw [hF.out]
    exact ⟨rfl, hB⟩
  | true =>
    rw [hr, rectN_of hr] at h1
    by_cases h0 : 0 < rows.length
    · have h0' : (0 : Int) < rows.length := by omega
      by_cases hn : rows.length = ncol rows
      · have hF : Hid (squ rows = true) := Lib.hid (squ_iff.2 ⟨h0, hn, hr⟩)
        have hn' : ((ncol rows : Int) == rows.length) = true := beq_iff_eq.2 (by omega)
        have HN := Lib.hid hn
        clear hn
        go_enter Tryz.func44, Tryz.ntmps44
        go_wp2_with fail
        refine h1.mono ?_; rintro e w1 ⟨rfl, hB⟩
        go_wp2_with fail
        go_ret
        rw [hF.out]
        exact ⟨rfl, hB⟩
      · have hF : Hid (squ rows = false) := Lib.hid (by
          cases hs : squ rows with
          | false => rfl
          | true => exact absurd (squ_iff.1 hs).2.1 hn)
        have hn' : ((ncol rows : Int) == rows.length) = false := beq_eq_false_iff_ne.2 (by omega)
        go_enter Tryz.func44, Tryz.ntmps44
        go_wp2_with fail
        refine h1.mono ?_; rintro e w1 ⟨rfl, hB⟩
        go_wp2_with fail
        go_ret
        rw [hF.out]
        exact ⟨rfl, hB⟩
    · have h0' : ¬ (0 : Int) < rows.length := by omega
      have hF : Hid (squ rows = false) := Lib.hid (by
        cases hs : squ rows with
        | false => rfl
        | true => exact absurd (squ_iff.1 hs).1 h0)
      go_enter Tryz.func44, Tryz.ntmps44
      go_wp2_with fail
      refine h1.mono ?_; rintro e w1 ⟨rfl, hB⟩
      go_wp2_with fail
      go_ret
      rw [hF.out]
      exact ⟨rfl, hB⟩

end Go.Proofs.YtkhiiiggmhncbaaGreat

/- beside and Solve of the reference of layer 6. Nothing that lay is changed. Conditions: a supported prime, words of its field, at most 100 rows and columns. -/
namespace Go.Proofs.YtkhiiiggmhncbaaGreat
set_option maxRecDepth 100000
open Go.RowKit PolyMath FieldMath MatMath

/-- A column as rows of one word. -/
def colK (b : List Int) (k : Nat) : List (List Int) := (List.range k).map fun i => [co b i]
theorem colK_len (b : List Int) (k : Nat) : (colK b k).length = k := by unfold colK; simp
theorem colK_ro (b : List Int) {k i : Nat} (h : i < k) : ro (colK b k) i = [co b i] := ro_map _ h
theorem colK_next (b : List Int) (k : Nat) : colK b (k + 1) = colK b k ++ [[co b k]] := by unfold colK; rw [List.range_succ, List.map_append]; rfl

set_option maxRecDepth 100000 in
set_option maxHeartbeats 4000000 in
theorem beside_any (p : Int) (A B : Option Addr) (ca cb L : Nat) (a : List (List Int)) (b : List Int) (hN : a.length ≤ 100) (hL : L ≤ 100) (ha : Mat p a.length L a) (w : World) (sa : Sll w A ca a) (sb : Sll w B cb (colK b a.length)) :
    Calls Tryz.prog 46 #[.slice A a.length ca, .slice B a.length cb] w fun e w' => MFresh w e w' (augL a b) := by
  obtain ⟨u0, hu0, hx0, hx1, hx2⟩ := info_parts info_u64
  obtain ⟨j0, hj0, hy0, hy1, hy2⟩ := info_parts info_sl
  have hgl : (augL a b).length = a.length := augK_len a b _
  go_enter Tryz.func46, Tryz.ntmps46
  go_wp2
  go_loopw [5, 6] (fun v i wr => ∃ (k : Nat) (vs : List Value), k ≤ a.length ∧ i = .int .i64 k ∧ MP w.heap.size wr v k k vs ((augL a b).take k) ∧ Below w.heap.size w wr) (fun _ i _ => a.length - (intOf i).toNat)
  case atStart => exact ⟨0, [], Nat.zero_le _, rfl, MP.zero _ _, Below.refl _ _⟩
  case round =>
    obtain ⟨k, vs, hk, rfl, hM, hB⟩ := hrel
    have hsz : w.heap.size ≤ wr.heap.size := hB.size
    by_cases hlt : k < a.length
    · obtain ⟨ba, oa, A', c', hA', hba, hca, hsa⟩ := sa.rowAt (i := k) (L := L) hlt (ha.ro hlt).1
      obtain ⟨bb, ob, B', c8, hB', hbb, hcb, hsb⟩ := sb.rowAt (i := k) (L := 1) (by rw [colK_len]; exact hlt) (by rw [colK_ro b hlt]; rfl)
      subst hA' hB'
      rw [colK_ro b hlt] at hsb
      obtain ⟨b8, o8, y, hB8, hb8, hy8, hcy8⟩ := hsb.at_ (k := 0) (by simp)
      subst hB8
      have hyy : y = co b k := by simpa using hy8.symm
      subst hyy
      rw [Nat.add_zero] at hcy8
      have hcaw := (hB.cell (p := ⟨ba, oa + k, none⟩) hba).trans hca
      have hcbw := (hB.cell (p := ⟨bb, ob + k, none⟩) hbb).trans hcb
      have hcyw := (hB.cell (p := ⟨b8, o8, none⟩) hb8).trans hcy8
      have hbaw : ba < wr.heap.size := Nat.lt_of_lt_of_le hba hsz
      have hbbw : bb < wr.heap.size := Nat.lt_of_lt_of_le hbb hsz
      have hb8w : b8 < wr.heap.size := Nat.lt_of_lt_of_le hb8 hsz
      have hkn : (k : Int) < a.length := by omega
      have hMH := Lib.hid hM
      obtain ⟨Ao, co', ho⟩ := row_form hM.head
      subst ho
      have hTK : Hid ((augL a b).take k ++ [ro (augL a b) k] = (augL a b).take (k + 1)) := Lib.hid (by rw [List.take_add_one, ro_get (by rw [hgl]; exact hlt)]; rfl)
      have hrow : Hid (ro (augL a b) k = ro a k ++ [co b k]) := Lib.hid (by unfold augL; rw [augK_ro b _ hlt, if_pos hlt])
      have hlit := own_lit0 wr
      have hrl := Lib.hid (ha.ro hlt).1
      have hsw := hsa.next hB
      have hone := Lib.hid (one_cells (ro a k))
      have ca1 : (wr.alloc (.cells #[] 22)).cell? ⟨ba, oa + k, none⟩ = some (.slice A' L c') := (World.cell?_alloc_some _ _ _ (by rw [hcaw]; rfl)).trans hcaw
      have cb1 : (wr.alloc (.cells #[] 22)).cell? ⟨bb, ob + k, none⟩ = some (.slice (some ⟨b8, o8, none⟩) 1 c8) := (World.cell?_alloc_some _ _ _ (by rw [hcbw]; rfl)).trans hcbw
      clear hM hsb hy8 hcy8
      generalize co b k = y at *
      cases A' with
      | none =>
        obtain ⟨hr0, hc0⟩ := hsw.empty rfl
        have hL0 : L = 0 := by rw [← hrl.out, hr0]; rfl
        subst hL0 hc0
        have hR0 := Lib.hid hr0
        clear hr0 hsw hsa
        go_wp2_with fail
        go_region_held3 (fun w' => w'.cell? ⟨ba, oa + k, none⟩ = some (.slice none 0 0) ∧ w'.cell? ⟨bb, ob + k, none⟩ = some (.slice (some ⟨b8, o8, none⟩) 1 c8))
          (first | (refine ⟨?_, ?_⟩ <;> assumption) | exact ⟨ca1, cb1⟩)
          (first | (refine step_append_own _ (by rfl) _ _ _ (by rfl) w.heap.size 23 j0 (.slice none 0 0) 1 24 Tryz.underlying24 hj0 hy0 hy1 hy2 rfl (by decide) _ _ _ (by rfl) hhd.out ⟨w6.heap.size, 0, none⟩ 1 1 [.slice A6 (0 + 1) c6] (by rfl) (by rfl) (cell_one_new _ _ _) (by simp [Value.oneCell']) (by simp only [maxLen]; omega) (by omega) (by first | omega | (simp; done) | (simp; omega)) ?_; intro v8 w8 hown8 hgrow8; have hB8 : Below w.heap.size w w8 := (hB.trans (hb7.mono hsz)).grown hgrow8 (by first | omega | (simp; done) | (simp; omega)) (fun x e => (World.ownsRow.lt hhd.out x e).1); have c18 := (hB8.cell (p := ⟨ba, oa + k, none⟩) hba).trans hca; have c28 := (hB8.cell (p := ⟨bb, ob + k, none⟩) hbb).trans hcb) | (refine step_append_own _ (by rfl) _ _ _ (by rfl) wr.heap.size 22 u0 (.int .u64 0) 1 8 Tryz.underlying23 hu0 hx0 hx1 hx2 rfl (by decide) _ _ _ (by rfl) hown5H.out ⟨b8, o8, none⟩ 1 c8 [.int .u64 y] (by rfl) (by rfl) (fun j u hj => by match j, hj with | 0, hj => (simp at hj; subst hj; exact hy5) | j + 1, hj => simp at hj) (by simp [Value.oneCell']) (by simp only [maxLen]; omega) (by omega) (by first | omega | (simp; done) | (simp; omega)) ?_; intro v6 w6 hown6 hgrow6; obtain ⟨A6, c6, hv6⟩ := row_form hown6; subst hv6; have hb6 : Below wr.heap.size wr w6 := hb5.grown hgrow6 hsz5 (fun x e => (World.ownsRow.lt hown5H.out x e).1); have hsz6 := hb6.size; have c16 := (hb6.cell (p := ⟨ba, oa + k, none⟩) hbaw).trans hcaw; have c26 := (hb6.cell (p := ⟨bb, ob + k, none⟩) hbbw).trans hcbw; have hb7 := hb6.alloc hsz6 (.cells #[.slice A6 (0 + 1) c6] 23); have c17 := (hb7.cell (p := ⟨ba, oa + k, none⟩) hbaw).trans hcaw; have c27 := (hb7.cell (p := ⟨bb, ob + k, none⟩) hbbw).trans hcbw; have hhd := Lib.hid (hMH.out.next hb7).head; have hu7 := Lib.hid (hown6.alloc (.cells #[.slice A6 (0 + 1) c6] 23)); clear hown6 hgrow6) | (refine step_append_nothing _ (by rfl) _ _ _ (by rfl) 22 u0 Tryz.underlying23 hu0 _ _ _ (by rfl) (by rfl) rfl ?_; have hb5 : Below wr.heap.size wr ((wr.alloc (.cells #[] 22)).drew) := ((Below.refl _ wr).alloc (Nat.le_refl _) _).drew; have hsz5 := hb5.size; have c15 := (hb5.cell (p := ⟨ba, oa + k, none⟩) hbaw).trans hcaw; have c25 := (hb5.cell (p := ⟨bb, ob + k, none⟩) hbbw).trans hcbw; have hy5 := (hb5.cell (p := ⟨b8, o8, none⟩) hb8w).trans hcyw; have hown5H : Hid (((wr.alloc (.cells #[] 22)).drew).ownsRow wr.heap.size 22 1 (.slice (some ⟨wr.heap.size, 0, none⟩) 0 0) 0 ((ro a k).map (Value.int .u64))) := Lib.hid (by rw [hR0.out]; exact hlit.out)))
        all_goals
          go_wp2_with fail
          go_roundw
          case rel => exact ⟨k + 1, _, by omega, by simp, by rw [← hTK.out]; exact hMH.out.add hb7 hsz (by rw [hrow.out, List.length_append, List.map_append, hrl.out]; exact hu7.out) hown8 hgrow8, hB8⟩
          case measure => simp [intOf]; omega
      | some ad =>
        have hnw := Lib.hid (hsw.news (.cells #[] 22) L)
        rw [List.take_of_length_le (by rw [hrl.out]; exact Nat.le_refl _)] at hnw
        have hnwD : Hid (∀ j u, ((ro a k).map (Value.int .u64))[j]? = some u → ((wr.alloc (.cells #[] 22)).drew).cell? (ad.add j) = some u) := Lib.hid fun j u hu => hnw.out j u hu
        have hlitD : Hid (((wr.alloc (.cells #[] 22)).drew).ownsRow wr.heap.size 22 1 (.slice (some ⟨wr.heap.size, 0, none⟩) 0 0) 0 []) := Lib.hid hlit.out
        have hln : Hid (((ro a k).map (Value.int .u64)).length = L * 1) := Lib.hid (by rw [List.length_map, hrl.out, Nat.mul_one])
        clear hsw hsa hnw
        go_wp2_with fail
        go_region_held3 (fun w' => w'.cell? ⟨ba, oa + k, none⟩ = some (.slice (some ad) L c') ∧ w'.cell? ⟨bb, ob + k, none⟩ = some (.slice (some ⟨b8, o8, none⟩) 1 c8))
          (first | (refine ⟨?_, ?_⟩ <;> assumption) | exact ⟨ca1, cb1⟩)
          (first | (refine step_append_own _ (by rfl) _ _ _ (by rfl) w.heap.size 23 j0 (.slice none 0 0) 1 24 Tryz.underlying24 hj0 hy0 hy1 hy2 rfl (by decide) _ _ _ (by rfl) hhd.out ⟨w6.heap.size, 0, none⟩ 1 1 [.slice A6 (L + 1) c6] (by rfl) (by rfl) (cell_one_new _ _ _) (by simp [Value.oneCell']) (by simp only [maxLen]; omega) (by omega) (by first | omega | (simp; done) | (simp; omega)) ?_; intro v8 w8 hown8 hgrow8; have hB8 : Below w.heap.size w w8 := (hB.trans (hb7.mono hsz)).grown hgrow8 (by first | omega | (simp; done) | (simp; omega)) (fun x e => (World.ownsRow.lt hhd.out x e).1); have c18 := (hB8.cell (p := ⟨ba, oa + k, none⟩) hba).trans hca; have c28 := (hB8.cell (p := ⟨bb, ob + k, none⟩) hbb).trans hcb) | (refine step_append_own _ (by rfl) _ _ _ (by rfl) wr.heap.size 22 u0 (.int .u64 0) 1 8 Tryz.underlying23 hu0 hx0 hx1 hx2 rfl (by decide) _ _ _ (by rfl) hown5H.out ⟨b8, o8, none⟩ 1 c8 [.int .u64 y] (by rfl) (by rfl) (fun j u hj => by match j, hj with | 0, hj => (simp at hj; subst hj; exact hy5) | j + 1, hj => simp at hj) (by simp [Value.oneCell']) (by simp only [maxLen]; omega) (by omega) (by first | omega | (simp; done) | (simp; omega)) ?_; intro v6 w6 hown6 hgrow6; obtain ⟨A6, c6, hv6⟩ := row_form hown6; subst hv6; have hb6 : Below wr.heap.size wr w6 := hb5.grown hgrow6 hsz5 (fun x e => (World.ownsRow.lt hown5H.out x e).1); have hsz6 := hb6.size; have c16 := (hb6.cell (p := ⟨ba, oa + k, none⟩) hbaw).trans hcaw; have c26 := (hb6.cell (p := ⟨bb, ob + k, none⟩) hbbw).trans hcbw; have hb7 := hb6.alloc hsz6 (.cells #[.slice A6 (L + 1) c6] 23); have c17 := (hb7.cell (p := ⟨ba, oa + k, none⟩) hbaw).trans hcaw; have c27 := (hb7.cell (p := ⟨bb, ob + k, none⟩) hbbw).trans hcbw; have hhd := Lib.hid (hMH.out.next hb7).head; have hu7 := Lib.hid (hown6.alloc (.cells #[.slice A6 (L + 1) c6] 23)); clear hown6 hgrow6) | (refine step_append_own _ (by rfl) _ _ _ (by rfl) wr.heap.size 22 u0 (.int .u64 0) 1 8 Tryz.underlying23 hu0 hx0 hx1 hx2 rfl (by decide) _ _ _ (by rfl) hlitD.out ad L c' ((ro a k).map (Value.int .u64)) (by rfl) hln.out hnwD.out hone.out (by simp only [maxLen]; omega) (by omega) (by first | omega | (simp; done) | (simp; omega)) ?_; intro v5 w5 hown5 hgrow5; rw [Nat.zero_add, List.nil_append] at hown5; obtain ⟨A5, c5, hv5⟩ := row_form hown5; subst hv5; have hb5 : Below wr.heap.size wr w5 := ((Below.refl _ wr).alloc (Nat.le_refl _) _).drew.grown hgrow5 (by first | omega | (simp; done) | (simp; omega)) (fun x e => (World.ownsRow.lt hlitD.out x e).1); have hsz5 := hb5.size; have c15 := (hb5.cell (p := ⟨ba, oa + k, none⟩) hbaw).trans hcaw; have c25 := (hb5.cell (p := ⟨bb, ob + k, none⟩) hbbw).trans hcbw; have hy5 := (hb5.cell (p := ⟨b8, o8, none⟩) hb8w).trans hcyw; have hown5H := Lib.hid hown5; clear hown5 hgrow5))
        all_goals
          go_wp2_with fail
          go_roundw
          case rel => exact ⟨k + 1, _, by omega, by simp, by rw [← hTK.out]; exact hMH.out.add hb7 hsz (by rw [hrow.out, List.length_append, List.map_append, hrl.out]; exact hu7.out) hown8 hgrow8, hB8⟩
          case measure => simp [intOf]; omega
    · obtain rfl : k = a.length := by omega
      rw [List.take_of_length_le (by rw [hgl]; exact Nat.le_refl _)] at hM
      obtain ⟨Ao, co', ho⟩ := row_form hM.head
      subst ho
      go_wp2_with fail
      go_ret
      exact ⟨_, vs, rfl, by rw [hgl]; exact hM, hB⟩
theorem beside_at (p : Int) (A B : Option Addr) (ca cb L nb : Nat) (a : List (List Int)) (b : List Int) (hN : a.length ≤ 100) (hL : L ≤ 100) (ha : Mat p a.length L a) (hn : nb = a.length) (w : World) (sa : Sll w A ca a) (sb : Sll w B cb (colK b nb)) :
    Calls Tryz.prog 46 #[.slice A a.length ca, .slice B nb cb] w fun e w' => MFresh w e w' (augL a b) := by
  subst hn
  exact beside_any p A B ca cb L a b hN hL ha w sa sb
end Go.Proofs.YtkhiiiggmhncbaaGreat

/- Plain facts about the matrices of layer 7, with no Go in sight: the values of a polynomial at 1, .., cols carried on to the points behind them; any cols zeros among all the points make the values zero; square parts have a determinant that is not zero; two vectors lie far apart. Conditions: p one of the primes, cols + rows < p. -/
namespace MatMath
open PolyMath FieldMath

/-! ### Lists of places -/
theorem sub_len {α : Type} [DecidableEq α] : ∀ {A B : List α}, A.Nodup → (∀ x ∈ A, x ∈ B) → A.length ≤ B.length
  | [], _, _, _ => Nat.zero_le _
  | a :: A, B, hn, h => by
    have ha : a ∈ B := h a (List.mem_cons_self ..)
    have hn' := List.nodup_cons.1 hn
    have h1 := sub_len (A := A) (B := B.erase a) hn'.2 fun x hx => (List.mem_erase_of_ne (a := x) (b := a) (fun e => by rw [e] at hx; exact hn'.1 hx)).2 (h x (List.mem_cons_of_mem _ hx))
    rw [List.length_erase_of_mem ha] at h1
    have h2 := List.length_pos_of_mem ha
    rw [List.length_cons]
    omega
theorem nodup_range_map {f : Nat → Nat} : ∀ n, (∀ i j, i < n → j < n → f i = f j → i = j) → ((List.range n).map f).Nodup
  | 0, _ => List.nodup_nil
  | n + 1, h => by
    rw [List.range_succ, List.map_append, List.nodup_append]
    refine ⟨nodup_range_map n fun i j hi hj => h i j (by omega) (by omega), List.nodup_cons.2 ⟨List.not_mem_nil, List.nodup_nil⟩, fun a ha b hb e => ?_⟩
    obtain ⟨i, hi, rfl⟩ := List.mem_map.1 ha
    have hb' : b = f n := by simpa using hb
    have h1 := List.mem_range.1 hi
    have := h i n (by omega) (by omega) (e.trans hb')
    omega
/-- The places below n that are not among those named. -/
def rest (n : Nat) (C : List Nat) : List Nat := (List.range n).filter fun i => !C.contains i
theorem mem_rest {n : Nat} {C : List Nat} {i : Nat} : i ∈ rest n C ↔ i < n ∧ i ∉ C := by
  unfold rest
  rw [List.mem_filter, List.mem_range]
  simp
theorem rest_nodup (n : Nat) (C : List Nat) : (rest n C).Nodup := List.Nodup.sublist List.filter_sublist List.nodup_range
theorem rest_len (n : Nat) (C : List Nat) : n ≤ (rest n C).length + C.length := by
  have h := sub_len (A := List.range n) (B := rest n C ++ C) List.nodup_range fun x hx => by
    rw [List.mem_append]
    by_cases e : x ∈ C
    · exact .inr e
    · exact .inl (mem_rest.2 ⟨List.mem_range.1 hx, e⟩)
  rw [List.length_range, List.length_append] at h
  exact h

/-! ### The points 1, 2, .. -/
def pt (i : Nat) : Int := (i : Int) + 1
def upts (n : Nat) : List Int := (List.range n).map pt
theorem upts_len (n : Nat) : (upts n).length = n := by unfold upts; simp
theorem upts_co {n i : Nat} (h : i < n) : co (upts n) i = pt i := by unfold upts co; simp [h]
theorem pt_inj {i j : Nat} (h : pt i = pt j) : i = j := by unfold pt at h; omega
theorem map_nodup : ∀ {L : List Nat}, L.Nodup → (L.map pt).Nodup
  | [], _ => List.nodup_nil
  | a :: L, h => by
    have h' := List.nodup_cons.1 h
    rw [List.map_cons, List.nodup_cons]
    refine ⟨fun hm => ?_, map_nodup h'.2⟩
    obtain ⟨b, hb, e⟩ := List.mem_map.1 hm
    exact h'.1 (pt_inj e ▸ hb)
theorem map_el {p : Int} {L : List Nat} {n : Nat} (h : ∀ i ∈ L, i < n) (hn : (n : Int) < p) : El p (L.map pt) := by
  intro x hx
  obtain ⟨i, hi, rfl⟩ := List.mem_map.1 hx
  have := h i hi
  unfold pt
  omega
theorem upts_nodup (n : Nat) : (upts n).Nodup := map_nodup List.nodup_range
theorem upts_el {p : Int} {n : Nat} (hn : (n : Int) < p) : El p (upts n) := map_el (n := n) (fun _ hi => List.mem_range.1 hi) hn

/-! ### Sums -/
theorem fsum_sg (p : Int) (f : Nat → Int) : ∀ n, fsum p f n = sg n f % p
  | 0 => (Int.zero_emod p).symm
  | n + 1 => by
    show fadd p (fsum p f n) (f n) = _
    rw [fsum_sg p f n, sg_succ]
    show (sg n f % p + f n) % p = _
    rw [Int.emod_add_emod]
theorem fsum_fmul (p : Int) (f g : Nat → Int) (n : Nat) : fsum p (fun i => fmul p (f i) (g i)) n = sg n (fun i => f i * g i) % p := by
  rw [fsum_sg]
  exact sg_mod n fun i _ => Int.emod_emod_of_dvd _ (Int.dvd_refl p)

/-! ### The vector and what it is carried on to -/
/-- The component at place i of the vector ys, extended: its own below cols, the value of the polynomial behind. -/
def ext (p : Int) (cols : Nat) (ys : List Int) (i : Nat) : Int := fsum p (fun j => fmul p (co (wts p (upts cols) (pt i)) j) (co ys j)) cols

section
variable {p : Int} {cols : Nat} {ys : List Int}
theorem ext_poly (h : GoodI p) (hc : (cols : Int) < p) (hy : El p ys) (i : Nat) : ext p cols ys i = pev p (lag p (upts cols) ys (upts cols).length) (pt i) := by
  have hI := lag_itp h (upts_nodup cols) (upts_el hc) hy
  rw [← wts_value h (upts_nodup cols) (upts_el hc) hI.fe hI.fl (pt i)]
  unfold ext
  rw [upts_len]
  refine fsum_ext cols fun j hj => ?_
  rw [← hI.at_ j (by rw [upts_len]; exact hj), upts_len]
theorem ext_in (h : GoodI p) (hc : (cols : Int) < p) (hy : El p ys) {i : Nat} (hi : i < cols) : ext p cols ys i = co ys i := by
  have hI := lag_itp h (upts_nodup cols) (upts_el hc) hy
  rw [ext_poly h hc hy, ← hI.at_ i (by rw [upts_len]; exact hi), upts_co hi]
/-- Zero at as many places as there are columns: zero. -/
theorem ext_core (h : GoodI p) {N : Nat} (hN : (N : Int) < p) (hcN : cols ≤ N) (hy : El p ys) {I : List Nat} (hn : I.Nodup) (hI : ∀ i ∈ I, i < N) (hz : ∀ i ∈ I, ext p cols ys i = 0) (hl : cols ≤ I.length) : ∀ i, i < cols → co ys i = 0 := by
  have hc : (cols : Int) < p := by omega
  have hT := lag_itp h (upts_nodup cols) (upts_el hc) hy
  intro i hi
  by_cases h0 : 0 < tn (lag p (upts cols) ys (upts cols).length)
  · have h1 := zeros_list h hT.fe h0 (map_nodup hn) (map_el hI hN) fun x hx => by
      obtain ⟨j, hj, rfl⟩ := List.mem_map.1 hx
      rw [← ext_poly h hc hy]
      exact hz j hj
    rw [List.length_map] at h1
    have h2 := tn_le (lag p (upts cols) ys (upts cols).length)
    have h3 := hT.fl
    rw [upts_len] at h3 h2 h0 h1
    omega
  · have h1 : trim (lag p (upts cols) ys (upts cols).length) = [] := (trim_nil_iff _).2 (by omega)
    rw [← ext_in h hc hy hi, ext_poly h hc hy, ← hT.ft, h1, pev_nil]
end

/-! ### Square parts -/
theorem bsol_inj {s : Nat} {pv : Nat → Nat} (hi : ∀ i j, i < s → j < s → pv i = pv j → i = j) (y : Nat → Int) {i : Nat} (h : i < s) : bsol s pv y (pv i) = y i := by
  unfold bsol
  rw [sg_one (j := i) s h fun k hk hne => if_neg fun e => hne (hi k i hk h e), if_pos rfl]
theorem square_det {p : Int} (h : GoodI p) {cols rows r : Nat} (hN : ((cols + rows : Nat) : Int) < p) {R C : Nat → Nat} (hR : ∀ i, i < r → R i < rows) (hC : ∀ i, i < r → C i < cols)
    (iR : ∀ i j, i < r → j < r → R i = R j → i = j) (iC : ∀ i j, i < r → j < r → C i = C j → i = j) :
    det r (fun a b => co (wts p (upts cols) (pt (cols + R a))) (C b)) % p ≠ 0 := by
  have hp := h.two
  obtain ⟨d, B, s, pv, hre, he⟩ := ech_ex h r (fun a b => co (wts p (upts cols) (pt (cols + R a))) (C b)) r
  rcases det_cases (by omega) hre he with ⟨hs, _⟩ | ⟨_, hd, _⟩
  · exfalso
    have hk : ∃ k, k < r ∧ ∀ i, i < s → pv i ≠ k := by
      by_cases hx : ∃ k, k < r ∧ ∀ i, i < s → pv i ≠ k
      · exact hx
      · exfalso
        have h1 := sub_len (A := List.range r) (B := (List.range s).map pv) List.nodup_range fun k hk => by
          by_cases hm : k ∈ (List.range s).map pv
          · exact hm
          · exact absurd ⟨k, List.mem_range.1 hk, fun i hi e => hm (List.mem_map.2 ⟨i, List.mem_range.2 hi, e⟩)⟩ hx
        rw [List.length_range, List.length_map, List.length_range] at h1
        omega
    obtain ⟨k, hk, hno⟩ := hk
    have hnp : ¬ ¬ Dep p r r (fun a b => co (wts p (upts cols) (pt (cols + R a))) (C b)) k := fun hd => by
      obtain ⟨i, hi, e⟩ := (he.pivot_iff (by omega) hre hk).2 hd
      exact hno i hi e
    obtain ⟨x, hx1, _, hx⟩ := Classical.not_not.1 hnp
    let ys : List Int := (List.range cols).map fun i => bsol r C x i % p
    have hy : El p ys := fun v hv => by
      obtain ⟨i, _, rfl⟩ := List.mem_map.1 hv
      exact ⟨Int.emod_nonneg _ (by omega), Int.emod_lt_of_pos _ (by omega)⟩
    have hco : ∀ i, i < cols → co ys i = bsol r C x i % p := fun i hi => by show ((List.map _ _)[i]?).getD 0 = _; simp [hi]
    have hz := ext_core (p := p) (cols := cols) (ys := ys) h hN (by omega) hy (I := (List.range r).map (fun a => cols + R a) ++ rest cols ((List.range r).map C))
      (by
        rw [List.nodup_append]
        refine ⟨?_, rest_nodup _ _, ?_⟩
        · exact nodup_range_map r fun i j hi hj e => iR i j hi hj (by omega)
        · intro a ha b hb e
          obtain ⟨i, _, rfl⟩ := List.mem_map.1 ha
          have := (mem_rest.1 hb).1
          omega)
      (by
        intro i hi
        rcases List.mem_append.1 hi with hi | hi
        · obtain ⟨a, ha, rfl⟩ := List.mem_map.1 hi
          have := hR a (List.mem_range.1 ha)
          omega
        · have := (mem_rest.1 hi).1
          omega)
      (by
        intro i hi
        rcases List.mem_append.1 hi with hi | hi
        · obtain ⟨a, ha, rfl⟩ := List.mem_map.1 hi
          unfold ext
          rw [fsum_fmul]
          have e1 : sg cols (fun j => co (wts p (upts cols) (pt (cols + R a))) j * co ys j) % p = sg cols (fun j => co (wts p (upts cols) (pt (cols + R a))) j * bsol r C x j) % p :=
            sg_mod cols fun j hj => by rw [hco j hj, Int.mul_emod, Int.emod_emod_of_dvd _ (Int.dvd_refl p), ← Int.mul_emod]
          rw [e1, bsol_sum hC]
          exact hx a (List.mem_range.1 ha)
        · obtain ⟨h1, h2⟩ := mem_rest.1 hi
          rw [ext_in h (by omega) hy h1, hco i h1, bsol_else x fun j hj e => h2 (List.mem_map.2 ⟨j, List.mem_range.2 hj, e⟩), Int.zero_emod])
      (by
        have := rest_len cols ((List.range r).map C)
        rw [List.length_append, List.length_map, List.length_range]
        rw [List.length_map, List.length_range] at this
        omega)
    have h1 := hz (C k) (hC k hk)
    rw [hco _ (hC k hk), bsol_inj iC x hk, hx1, Int.emod_eq_of_lt (by omega) (by omega)] at h1
    omega
  · intro h0
    rw [Int.mul_emod, h0, Int.mul_zero, Int.zero_emod] at hd
    omega

/-! ### Distance -/
/-- How many of the first n places are marked. -/
def mrk (f : Nat → Bool) : Nat → Nat
  | 0 => 0
  | n + 1 => mrk f n + if f n then 1 else 0
theorem mrk_len (f : Nat → Bool) : ∀ n, mrk f n + ((List.range n).filter fun i => !f i).length = n
  | 0 => rfl
  | n + 1 => by
    have := mrk_len f n
    show (mrk f n + if f n then 1 else 0) + _ = _
    rw [List.range_succ, List.filter_append, List.length_append]
    cases e : f n <;> simp [e] <;> omega
theorem mrk_add (f : Nat → Bool) (m : Nat) : ∀ n, mrk f (m + n) = mrk f m + mrk (fun i => f (m + i)) n
  | 0 => rfl
  | n + 1 => by
    show mrk f (m + n) + _ = mrk f m + (mrk (fun i => f (m + i)) n + _)
    rw [mrk_add f m n, Nat.add_assoc]
    rfl
theorem mrk_ext {f g : Nat → Bool} : ∀ n, (∀ i, i < n → f i = g i) → mrk f n = mrk g n
  | 0, _ => rfl
  | n + 1, h => by
    show mrk f n + _ = mrk g n + _
    rw [mrk_ext n (fun i hi => h i (by omega)), h n (by omega)]
/-- A vector that is not zero, with what it is carried on to, has more places that are not zero than there are rows. -/
theorem far_apart {p : Int} (h : GoodI p) {cols rows : Nat} (hN : ((cols + rows : Nat) : Int) < p) {ys : List Int} (hy : El p ys) {k : Nat} (hk : k < cols) (h0 : co ys k ≠ 0) :
    rows < mrk (fun i => decide (co ys i ≠ 0)) cols + mrk (fun i => decide (ext p cols ys (cols + i) ≠ 0)) rows := by
  have e1 : mrk (fun i => decide (co ys i ≠ 0)) cols = mrk (fun i => decide (ext p cols ys i ≠ 0)) cols := mrk_ext cols fun i hi => by
    show decide (co ys i ≠ 0) = decide (ext p cols ys i ≠ 0)
    rw [ext_in h (by omega) hy hi]
  have e2 := mrk_add (fun i => decide (ext p cols ys i ≠ 0)) cols rows
  have e3 := mrk_len (fun i => decide (ext p cols ys i ≠ 0)) (cols + rows)
  by_cases hl : cols ≤ ((List.range (cols + rows)).filter fun i => !decide (ext p cols ys i ≠ 0)).length
  · exfalso
    refine h0 (ext_core h hN (by omega) hy (I := (List.range (cols + rows)).filter fun i => !decide (ext p cols ys i ≠ 0)) (List.Nodup.sublist List.filter_sublist List.nodup_range) (fun i hi => List.mem_range.1 (List.mem_filter.1 hi).1) (fun i hi => ?_) hl k hk)
    have := (List.mem_filter.1 hi).2
    simpa using this
  · rw [e1]
    omega
end MatMath

/- Layer 7 without Go: the matrix of New as a list of rows, submatrices, a vector completed from some of its components. No conditions beyond those said. -/
namespace Go.Proofs.YtkhiiiggmhncbaaGreat
set_option maxRecDepth 100000
open PolyMath FieldMath MatMath

/-! ### The matrix of New -/
def nw (p : Int) (rows cols : Nat) : List (List Int) := (List.range rows).map fun i => wts p (upts cols) (pt (cols + i))
theorem nw_len (p : Int) (rows cols : Nat) : (nw p rows cols).length = rows := by unfold nw; simp
theorem nw_ro (p : Int) {rows : Nat} (cols : Nat) {i : Nat} (h : i < rows) : ro (nw p rows cols) i = wts p (upts cols) (pt (cols + i)) := ro_map _ h
theorem nw_mat {p : Int} (hp : 0 < p) (rows cols : Nat) : Mat p rows cols (nw p rows cols) := .of (nw_len p rows cols) fun i hi => by
  rw [nw_ro p cols hi]
  exact ⟨by rw [wts_len, upts_len], wts_el hp _ _⟩
theorem nw_next (p : Int) (k cols : Nat) : nw p (k + 1) cols = nw p k cols ++ [wts p (upts cols) (pt (cols + k))] := by
  unfold nw; rw [List.range_succ, List.map_append]; rfl
theorem nw_app {p : Int} {rows cols : Nat} {ys : List Int} {i : Nat} (hi : i < rows) : co (app p (nw p rows cols) ys) i = ext p cols ys (cols + i) := by
  unfold app
  rw [co_map, nw_len, if_pos hi, nw_ro p cols hi]
  unfold dot ext
  rw [fsum_fmul, wts_len, upts_len]
theorem nw_value {p : Int} (h : GoodI p) {cols : Nat} (hc : (cols : Int) < p) {f : List Int} (hf : El p f) (hl : f.length = cols) (i : Nat) :
    fsum p (fun k => fmul p (co (wts p (upts cols) (pt i)) k) (pev p f (pt k))) cols = pev p f (pt i) := by
  have := wts_value h (upts_nodup cols) (upts_el hc) hf (by rw [upts_len]; omega) (pt i)
  rw [upts_len] at this
  rw [← this]
  exact fsum_ext cols fun k hk => by rw [upts_co hk]

/-! ### Submatrices -/
def subM (m : List (List Int)) (R C : List Int) : List (List Int) := R.map fun i => C.map fun j => co (ro m i.toNat) j.toNat
theorem subM_len (m : List (List Int)) (R C : List Int) : (subM m R C).length = R.length := by unfold subM; simp
theorem subM_ro (m : List (List Int)) {R : List Int} (C : List Int) {i : Nat} (h : i < R.length) : ro (subM m R C) i = C.map fun j => co (ro m (co R i).toNat) j.toNat := by
  unfold subM
  refine ro_at ?_
  rw [List.getElem?_map, List.getElem?_eq_getElem h, co_get h]; rfl
theorem subM_at (m : List (List Int)) {R : List Int} (C : List Int) {i : Nat} {r : Int} (h : R[i]? = some r) : ro (subM m R C) i = C.map fun j => co (ro m r.toNat) j.toNat := by
  rw [subM_ro m C (List.getElem?_eq_some_iff.1 h).1, co_at h]
theorem subM_mx (m : List (List Int)) {R C : List Int} {i j : Nat} (hi : i < R.length) (hj : j < C.length) : mx (subM m R C) i j = mx m (co R i).toNat (co C j).toNat := by
  rw [mx_ro, subM_ro m C hi, mx_ro]
  exact co_at (by rw [List.getElem?_map, List.getElem?_eq_getElem hj, co_get hj]; rfl)
theorem subM_mat {p : Int} (hp : 0 < p) {N L : Nat} {m : List (List Int)} (hm : Mat p N L m) (R C : List Int) (hR : ∀ i ∈ R, 0 ≤ i ∧ i < N) : Mat p R.length C.length (subM m R C) := .of (subM_len m R C) fun i hi => by
  rw [subM_ro m C hi]
  refine ⟨by simp, fun x hx => ?_⟩
  obtain ⟨j, _, rfl⟩ := List.mem_map.1 hx
  have h1 := hR _ (co_mem hi)
  exact (hm.ro (show (co R i).toNat < N by omega)).2.co hp _
/-- All indices are in range. -/
def subB (m : List (List Int)) (R C : List Int) : Bool := decide ((∀ i ∈ R, 0 ≤ i ∧ i < (m.length : Int)) ∧ ∀ i ∈ R, ∀ j ∈ C, 0 ≤ j ∧ j < ((ro m i.toNat).length : Int))
theorem squ_mat {p : Int} {N : Nat} {A : List (List Int)} (h : Mat p N N A) (h0 : 0 < N) : squ A = true := squ_iff.2 ⟨by rw [h.rows]; exact h0, by rw [h.rows, h.cols h0], h.isRect⟩
theorem sub_det {p : Int} (hg : GoodI p) {rows cols : Nat} (hN : ((cols + rows : Nat) : Int) < p) {R C : List Int} (hR : ∀ i ∈ R, 0 ≤ i ∧ i < (rows : Int)) (hC : ∀ i ∈ C, 0 ≤ i ∧ i < (cols : Int)) (nR : R.Nodup) (nC : C.Nodup) (hl : R.length = C.length) (h0 : 0 < R.length) :
    squ (subM (nw p rows cols) R C) = true ∧ dtm p (subM (nw p rows cols) R C) ≠ 0 := by
  have hp := hg.two
  have hM := subM_mat (by omega) (nw_mat (p := p) (by omega) rows cols) R C hR
  rw [← hl] at hM
  have hs := squ_mat hM h0
  refine ⟨hs, ?_⟩
  rw [dtm_det hg hs hM.els, subM_len]
  have hb : ∀ {X : List Int} {n : Nat}, (∀ i ∈ X, 0 ≤ i ∧ i < (n : Int)) → ∀ i, i < X.length → (co X i).toNat < n := fun hX i hi => by have := hX _ (co_mem hi); omega
  have hj : ∀ {X : List Int} {n : Nat}, (∀ i ∈ X, 0 ≤ i ∧ i < (n : Int)) → X.Nodup → ∀ i j, i < X.length → j < X.length → (co X i).toNat = (co X j).toNat → i = j := fun hX hn i j hi hj e => by
    have h1 := hX _ (co_mem hi)
    have h2 := hX _ (co_mem hj)
    exact co_inj hn hi hj (by omega)
  have key := square_det hg hN (r := R.length) (R := fun i => (co R i).toNat) (C := fun i => (co C i).toNat) (hb hR) (fun i hi => hb hC i (by omega)) (hj hR nR) (fun i j hi hj' => hj hC nC i j (by omega) (by omega))
  rwa [det_congr R.length (B := fun a b => co (wts p (upts cols) (pt (cols + (co R a).toNat))) (co C b).toNat) fun r c hr hc => by
    rw [subM_mx _ hr (by omega), mx_ro, nw_ro p cols (hb hR r hr)]]

/-! ### Products with vectors -/
theorem app_co {p : Int} {A : List (List Int)} (v : List Int) {i : Nat} (h : i < A.length) : co (app p A v) i = dot p (ro A i) v := by unfold app; rw [co_map, if_pos h]
theorem app_mul {p : Int} {N l L : Nat} {B C : List (List Int)} (hB : Mat p N l B) (hC : Mat p l L C) (hl : 0 < l) (v : List Int) : app p (mulM p B C) v = app p B (app p C v) := by
  refine list_ext (by rw [app_len, app_len, mulM_len]) fun i => ?_
  by_cases hi : i < N
  · have hiB : i < B.length := by rw [hB.rows]; exact hi
    rw [app_co v (by rw [mulM_len]; exact hiB), app_co _ hiB]
    unfold dot
    rw [mulM_ro p C hiB, mulR_len, hC.cols hl, (hB.ro hi).1]
    have e1 : sg L (fun j => co (mulR p (ro B i) C L l) j * co v j) % p = sg L (fun j => mat l (mx B) (mx C) i j * co v j) % p := sg_mod L fun j hj => by
      unfold mulR
      rw [co_map, if_pos hj]
      exact mm (mdd p _) rfl
    have e2 : sg l (fun j => co (ro B i) j * co (app p C v) j) % p = sg l (fun j => mx B i j * sg L (fun k => mx C j k * co v k)) % p := sg_mod l fun j hj => by
      rw [app_co v (by rw [hC.rows]; exact hj)]
      unfold dot
      rw [(hC.ro hj).1]
      exact mm rfl (mdd p _)
    rw [e1, e2]
    exact congrArg (· % p) (mat_assoc l L (mx B) (mx C) (fun k _ => co v k) i 0)
  · rw [co_fin _ i (by rw [app_len, mulM_len, hB.rows]; omega), co_fin _ i (by rw [app_len, hB.rows]; omega)]
theorem app_one {p : Int} (hp : 1 < p) {n : Nat} {v : List Int} (hv : El p v) (hl : v.length = n) : app p (oneL n) v = v := by
  refine list_ext (by rw [app_len, oneL_len, hl]) fun i => ?_
  by_cases hi : i < n
  · rw [app_co v (by rw [oneL_len]; exact hi)]
    unfold dot
    rw [((oneL_mat hp n).ro hi).1, sg_one (j := i) n hi fun j hj hne => by rw [← mx_ro, oneL_mx hi hj, one_ne (fun e => hne e.symm), Int.zero_mul], ← mx_ro, oneL_mx hi hi, one_same, Int.one_mul]
    exact hv.cm (by omega) i
  · rw [co_fin _ i (by rw [app_len, oneL_len]; omega), co_fin v i (by omega)]
theorem slv_inv {p : Int} (hg : GoodI p) {A X : List (List Int)} {b : List Int} (hs : squ A = true) (hE : ∀ r ∈ A, El p r) (hb : El p b) (hn : A.length = b.length) (h : invM p A = some X) : slv p A b = some (app p X b) := by
  have hp := hg.two
  obtain ⟨_, hX, h1, h2⟩ := invM_some hg hs hE h
  obtain ⟨q1, q2, q3⟩ := squ_iff.1 hs
  have hA := mat_of q3 hE
  rw [← q2] at hA
  have e1 : app p A (app p X b) = b := by rw [← app_mul hA hX q1, h2, app_one (by omega) hb hn.symm]
  obtain ⟨y, hy, h3, h4, h5⟩ := slv_ex hg q3 hE hb hn ((app_sol q3 hb (by omega) hn).1 e1)
  rw [hy]
  congr 1
  rw [← app_one (by omega) h5 (h4.trans q2.symm), ← h1, app_mul hX hA q1, h3]
theorem inv_none_iff {p : Int} (hg : GoodI p) {A : List (List Int)} (hs : squ A = true) (hE : ∀ r ∈ A, El p r) : invM p A = none ↔ rnk p A < A.length := by
  rw [← invM_rank hg hs hE]
  unfold invM
  constructor
  · intro h
    split at h
    · assumption
    · cases h
  · intro h
    rw [if_pos h]

/-! ### Completing a vector -/
def idx (ps : List (Int × Int)) : List Nat := ps.map fun q => q.1.toNat
def putL (x : List Int) (ps : List (Int × Int)) : List Int := ps.foldl (fun l q => l.set q.1.toNat q.2) x
theorem putL_len : ∀ (ps : List (Int × Int)) (x : List Int), (putL x ps).length = x.length
  | [], _ => rfl
  | q :: ps, x => by show (putL (x.set _ _) ps).length = _; rw [putL_len ps, List.length_set]
theorem putL_next (x : List Int) {ps : List (Int × Int)} {k : Nat} {a b : Int} (h : ps[k]? = some (a, b)) : putL x (ps.take (k + 1)) = (putL x (ps.take k)).set a.toNat b := by
  unfold putL
  rw [List.take_add_one, h, List.foldl_append]; rfl
theorem co_set {x : List Int} {i : Nat} (v : Int) (hi : i < x.length) (j : Nat) : co (x.set i v) j = if j = i then v else co x j := by
  unfold co
  by_cases e : j = i
  · subst e; rw [if_pos rfl, List.getElem?_set_self hi]; rfl
  · rw [if_neg e, List.getElem?_set_ne (fun q => e q.symm)]
theorem putL_off : ∀ (ps : List (Int × Int)) (x : List Int) {j : Nat}, j ∉ idx ps → co (putL x ps) j = co x j
  | [], _, _, _ => rfl
  | q :: ps, x, j, h => by
    show co (putL (x.set _ _) ps) j = _
    have h' : j ≠ q.1.toNat ∧ j ∉ idx ps := by
      constructor
      · exact fun e => h (by rw [e]; exact List.mem_cons_self ..)
      · exact fun e => h (List.mem_cons_of_mem _ e)
    rw [putL_off ps _ h'.2]
    unfold co
    rw [List.getElem?_set_ne (fun q => h'.1 q.symm)]
theorem putL_in : ∀ (ps : List (Int × Int)) (x : List Int), (idx ps).Nodup → (∀ j ∈ idx ps, j < x.length) → ∀ q ∈ ps, co (putL x ps) q.1.toNat = q.2
  | [], _, _, _, _, h => by cases h
  | q :: ps, x, hn, hl, r, hr => by
    show co (putL (x.set _ _) ps) _ = _
    have hn' := List.nodup_cons.1 (show (q.1.toNat :: idx ps).Nodup from hn)
    rcases List.mem_cons.1 hr with rfl | h
    · rw [putL_off ps _ hn'.1, co_set _ (hl _ (List.mem_cons_self ..)), if_pos rfl]
    · exact putL_in ps _ hn'.2 (fun j hj => by rw [List.length_set]; exact hl j (List.mem_cons_of_mem _ hj)) r h
theorem putL_el {p : Int} : ∀ (ps : List (Int × Int)) (x : List Int), El p x → (∀ q ∈ ps, 0 ≤ q.2 ∧ q.2 < p) → El p (putL x ps)
  | [], _, h, _ => h
  | q :: ps, x, h, hq => putL_el ps _ (fun y hy => by
      rcases List.mem_or_eq_of_mem_set hy with h1 | h1
      · exact h y h1
      · subst h1; exact hq q (List.mem_cons_self ..)) fun r hr => hq r (List.mem_cons_of_mem _ hr)
def oI (L : List Nat) : List Int := L.map fun n : Nat => (n : Int)
theorem oI_len (L : List Nat) : (oI L).length = L.length := by unfold oI; simp
theorem oI_co {L : List Nat} {i : Nat} (h : i < L.length) : co (oI L) i = (L.getD i 0 : Nat) := by
  unfold oI
  rw [List.getD_eq_getElem?_getD, List.getElem?_eq_getElem h]
  exact co_at (by rw [List.getElem?_map, List.getElem?_eq_getElem h]; rfl)
theorem oI_at {L : List Nat} {i : Nat} (h : i < L.length) : (oI L)[i]? = some ((L.getD i 0 : Nat) : Int) := by
  unfold oI
  rw [List.getElem?_map, List.getD_eq_getElem?_getD, List.getElem?_eq_getElem h]; rfl
/-- Words put at the places of L, one by one. -/
def fil (x : List Int) (L : List Nat) (s : List Int) : Nat → List Int
  | 0 => x
  | k + 1 => (fil x L s k).set (L.getD k 0) (co s k)
theorem fil_len (x : List Int) (L : List Nat) (s : List Int) : ∀ k, (fil x L s k).length = x.length
  | 0 => rfl
  | k + 1 => by show ((fil x L s k).set _ _).length = _; rw [List.length_set, fil_len x L s k]
theorem fil_el {p : Int} (hp : 0 < p) {x : List Int} (L : List Nat) {s : List Int} (hx : El p x) (hs : El p s) : ∀ k, El p (fil x L s k)
  | 0 => hx
  | k + 1 => fun y hy => by
    rcases List.mem_or_eq_of_mem_set hy with h1 | h1
    · exact fil_el hp L hx hs k y h1
    · subst h1; exact hs.co hp k
theorem getD_inj {L : List Nat} (hn : L.Nodup) {i j : Nat} (hi : i < L.length) (hj : j < L.length) (e : L.getD i 0 = L.getD j 0) : i = j := by
  rw [List.getD_eq_getElem?_getD, List.getD_eq_getElem?_getD, List.getElem?_eq_getElem hi, List.getElem?_eq_getElem hj] at e
  have e' : L[i] = L[j] := e
  rcases Nat.lt_trichotomy i j with h | h | h
  · exact absurd e' (List.pairwise_iff_getElem.1 hn i j hi hj h)
  · exact h
  · exact absurd e'.symm (List.pairwise_iff_getElem.1 hn j i hj hi h)
theorem getD_mem {L : List Nat} {i : Nat} (hi : i < L.length) : L.getD i 0 ∈ L := by
  rw [List.getD_eq_getElem?_getD, List.getElem?_eq_getElem hi]
  exact List.getElem_mem hi
theorem fil_co {x : List Int} {L : List Nat} (s : List Int) (hn : L.Nodup) (hl : ∀ j ∈ L, j < x.length) (h0 : ∀ j ∈ L, co x j = 0) : ∀ k, k ≤ L.length → ∀ j, co (fil x L s k) j = co x j + bsol k (fun i => L.getD i 0) (co s) j
  | 0, _, j => by show co x j = co x j + 0; omega
  | k + 1, hk, j => by
    show co ((fil x L s k).set _ _) j = co x j + (bsol k (fun i => L.getD i 0) (co s) j + if L.getD k 0 = j then co s k else 0)
    rw [co_set _ (by rw [fil_len]; exact hl _ (getD_mem (by omega)))]
    by_cases e : j = L.getD k 0
    · subst e
      rw [if_pos rfl, if_pos rfl, h0 _ (getD_mem (by omega)), bsol_else (co s) fun i hi e => by have := getD_inj hn (by omega) (by omega) e; omega]
      omega
    · rw [if_neg e, if_neg (fun q => e q.symm), fil_co s hn hl h0 k (by omega) j]
      omega
theorem fil_dot {p : Int} {x a : List Int} {L : List Nat} (s : List Int) (hn : L.Nodup) (hl : ∀ j ∈ L, j < x.length) (h0 : ∀ j ∈ L, co x j = 0) (ha : a.length = x.length) :
    dot p a (fil x L s L.length) = (sg a.length (fun j => co a j * co x j) + sg L.length (fun i => co a (L.getD i 0) * co s i)) % p := by
  unfold dot
  rw [← bsol_sum (n := a.length) (pv := fun i => L.getD i 0) (fun i hi => by rw [ha]; exact hl _ (getD_mem hi)) (co s) (co a), ← sg_add]
  exact congrArg (· % p) (sg_congr _ fun j _ => by rw [fil_co s hn hl h0 _ (Nat.le_refl _), Int.mul_add])
/-- What the given inputs leave of the fixed outputs. -/
def rgt (p : Int) (m : List (List Int)) (x : List Int) (outs : List (Int × Int)) : List Int := outs.map fun q => fsub p q.2 (dot p (ro m q.1.toNat) x)
theorem rgt_len (p : Int) (m : List (List Int)) (x : List Int) (outs : List (Int × Int)) : (rgt p m x outs).length = outs.length := by unfold rgt; simp
theorem rgt_el {p : Int} (hp : 0 < p) (m : List (List Int)) (x : List Int) (outs : List (Int × Int)) : El p (rgt p m x outs) := fun y hy => by
  obtain ⟨q, _, rfl⟩ := List.mem_map.1 hy
  exact md _ _ hp
theorem rest_is {n : Nat} {C : List Nat} (hn : C.Nodup) (hl : ∀ j ∈ C, j < n) : (rest n C).length + C.length = n := by
  have h1 := rest_len n C
  have h2 := sub_len (A := rest n C ++ C) (B := List.range n) (List.nodup_append.2 ⟨rest_nodup n C, hn, fun a ha b hb e => (mem_rest.1 ha).2 (e ▸ hb)⟩) fun x hx => by
    rw [List.mem_range]
    rcases List.mem_append.1 hx with h | h
    · exact (mem_rest.1 h).1
    · exact hl x h
  rw [List.length_append, List.length_range] at h2
  omega
def sqm (m : List (List Int)) (ins outs : List (Int × Int)) : List (List Int) := subM m (outs.map Prod.fst) (oI (rest (ncol m) (idx ins)))
def xin (m : List (List Int)) (ins : List (Int × Int)) : List Int := putL (List.replicate (ncol m) 0) ins
theorem xin_len (m : List (List Int)) (ins : List (Int × Int)) : (xin m ins).length = ncol m := by unfold xin; rw [putL_len, List.length_replicate]
/-- The completed inputs. -/
def cmp (p : Int) (m : List (List Int)) (ins outs : List (Int × Int)) : Option (List Int) :=
  if rnk p (sqm m ins outs) < outs.length then none
  else some (fil (xin m ins) (rest (ncol m) (idx ins)) ((slv p (sqm m ins outs) (rgt p m (xin m ins) outs)).getD []) (rest (ncol m) (idx ins)).length)
/-- Points with distinct indices in range. -/
def plcB (ps : List (Int × Int)) (n : Nat) : Bool := decide ((∀ q ∈ ps, q.1 < (n : Int)) ∧ (ps.map Prod.fst).Nodup)
def evenB (m : List (List Int)) : Bool := decide (0 < m.length) && decide (0 < ncol m) && rect m
/-- The arguments give so many components as there are columns. -/
def argB (m : List (List Int)) (ins outs : List (Int × Int)) : Bool := evenB m && plcB ins (ncol m) && plcB outs m.length && (ins.length + outs.length == ncol m)
structure Arg (m : List (List Int)) (ins outs : List (Int × Int)) : Prop where
  rows : 0 < m.length
  cols : 0 < ncol m
  rect : rect m = true
  inl : ∀ j ∈ idx ins, j < ncol m
  inn : (idx ins).Nodup
  outl : ∀ q ∈ outs, 0 ≤ q.1 ∧ q.1 < (m.length : Int)
  outn : (outs.map Prod.fst).Nodup
  sum : ins.length + outs.length = ncol m
theorem idx_nodup {ps : List (Int × Int)} (h : (ps.map Prod.fst).Nodup) (h0 : ∀ q ∈ ps, 0 ≤ q.1) : (idx ps).Nodup := by
  induction ps with
  | nil => exact List.nodup_nil
  | cons q ps ih =>
    have h' := List.nodup_cons.1 (show (q.1 :: ps.map Prod.fst).Nodup from h)
    refine List.nodup_cons.2 ⟨fun hm => ?_, ih h'.2 fun r hr => h0 r (List.mem_cons_of_mem _ hr)⟩
    obtain ⟨r, hr, e⟩ := List.mem_map.1 hm
    have h1 := h0 q (List.mem_cons_self ..)
    have h2 := h0 r (List.mem_cons_of_mem _ hr)
    exact h'.1 (List.mem_map.2 ⟨r, hr, by have e' : r.1.toNat = q.1.toNat := e; omega⟩)
theorem Arg.of {m : List (List Int)} {ins outs : List (Int × Int)} (hi : ∀ q ∈ ins, 0 ≤ q.1) (ho : ∀ q ∈ outs, 0 ≤ q.1) (h : argB m ins outs = true) : Arg m ins outs := by
  unfold argB evenB plcB at h
  simp only [Bool.and_eq_true, decide_eq_true_eq, beq_iff_eq] at h
  obtain ⟨⟨⟨⟨⟨h1, h2⟩, h3⟩, h4, h5⟩, h6, h7⟩, h8⟩ := h
  exact ⟨h1, h2, h3, fun j hj => by obtain ⟨q, hq, rfl⟩ := List.mem_map.1 hj; have := h4 q hq; have := hi q hq; show q.1.toNat < _; omega, idx_nodup h5 hi, fun q hq => ⟨ho q hq, h6 q hq⟩, h7, h8⟩
section
variable {p : Int} {m : List (List Int)} {ins outs : List (Int × Int)}
theorem idx_len (ps : List (Int × Int)) : (idx ps).length = ps.length := by unfold idx; simp
theorem Arg.rest (h : Arg m ins outs) : (rest (ncol m) (idx ins)).length = outs.length := by
  have := rest_is h.inn h.inl
  have h2 := h.sum
  rw [idx_len] at this
  omega
theorem Arg.sq (h : Arg m ins outs) (hp : 0 < p) (hE : ∀ r ∈ m, El p r) : Mat p outs.length outs.length (sqm m ins outs) := by
  have := subM_mat hp (mat_of h.rect hE) (outs.map Prod.fst) (oI (MatMath.rest (ncol m) (idx ins))) fun i hi => by
    obtain ⟨q, hq, rfl⟩ := List.mem_map.1 hi
    exact h.outl q hq
  rw [oI_len, h.rest, List.length_map] at this
  exact this
theorem Arg.xin_el (_h : Arg m ins outs) (hp : 0 < p) (hi : ∀ q ∈ ins, 0 ≤ q.2 ∧ q.2 < p) : El p (xin m ins) := putL_el ins _ (fun x hx => by
  have := List.eq_of_mem_replicate hx
  omega) hi
theorem Arg.off (_h : Arg m ins outs) : ∀ j ∈ MatMath.rest (ncol m) (idx ins), co (xin m ins) j = 0 := fun j hj => by
  unfold xin
  rw [putL_off ins _ (mem_rest.1 hj).2]
  unfold co
  rw [List.getElem?_replicate]
  split <;> rfl
theorem Arg.lt (_h : Arg m ins outs) : ∀ j ∈ MatMath.rest (ncol m) (idx ins), j < (xin m ins).length := fun j hj => by
  rw [xin_len]; exact (mem_rest.1 hj).1
theorem slv_empty (p : Int) : slv p [] [] = some [] := rfl
/-- A completed vector bears the fixed outputs and the given inputs. -/
theorem cmp_some (hg : GoodI p) (h : Arg m ins outs) (hE : ∀ r ∈ m, El p r) (hi : ∀ q ∈ ins, 0 ≤ q.2 ∧ q.2 < p) (ho : ∀ q ∈ outs, 0 ≤ q.2 ∧ q.2 < p) {s : List Int}
    (hs : slv p (sqm m ins outs) (rgt p m (xin m ins) outs) = some s) :
    let x := fil (xin m ins) (rest (ncol m) (idx ins)) s (rest (ncol m) (idx ins)).length
    El p x ∧ x.length = ncol m ∧ (∀ q ∈ ins, co x q.1.toNat = q.2) ∧ ∀ q ∈ outs, co (app p m x) q.1.toNat = q.2 := by
  have hp := hg.two
  have hM := h.sq (p := p) (by omega) hE
  have hre := rgt_el (p := p) (by omega) m (xin m ins) outs
  obtain ⟨s1, s2, s3⟩ := slv_some hg hM.isRect hM.els hre (by rw [hM.rows, rgt_len]) hs
  have hnd := rest_nodup (ncol m) (idx ins)
  refine ⟨fil_el (by omega) _ (h.xin_el (by omega) hi) s3 _, by rw [fil_len, xin_len], fun q hq => ?_, fun q hq => ?_⟩
  · rw [fil_co s hnd h.lt h.off _ (Nat.le_refl _), bsol_else (co s) fun i hi e => ?_, Int.add_zero]
    · unfold xin
      exact putL_in ins _ h.inn (fun j hj => by rw [List.length_replicate]; exact h.inl j hj) q hq
    · have := mem_rest.1 (getD_mem hi)
      rw [e] at this
      exact this.2 (List.mem_map.2 ⟨q, hq, rfl⟩)
  · obtain ⟨k, hk, e⟩ := List.mem_iff_getElem.1 hq
    have hlt := h.outl q hq
    have hr : q.1.toNat < m.length := by omega
    have hrl : (ro m q.1.toNat).length = (xin m ins).length := by rw [xin_len]; exact rect_iff.1 h.rect _ hr
    rw [app_co _ hr, fil_dot s hnd h.lt h.off hrl]
    have hk2 : co (app p (sqm m ins outs) s) k = co (rgt p m (xin m ins) outs) k := by rw [s1]
    rw [app_co s (by rw [hM.rows]; exact hk)] at hk2
    have hrk : co (rgt p m (xin m ins) outs) k = fsub p q.2 (dot p (ro m q.1.toNat) (xin m ins)) := co_at (by unfold rgt; rw [List.getElem?_map, List.getElem?_eq_getElem hk, e]; rfl)
    rw [hrk] at hk2
    have hfst : co (outs.map Prod.fst) k = q.1 := co_at (by rw [List.getElem?_map, List.getElem?_eq_getElem hk, e]; rfl)
    have hdot : dot p (ro (sqm m ins outs) k) s = sg (rest (ncol m) (idx ins)).length (fun i => co (ro m q.1.toNat) ((rest (ncol m) (idx ins)).getD i 0) * co s i) % p := by
      unfold dot
      rw [(hM.ro hk).1, ← h.rest]
      refine congrArg (· % p) (sg_congr _ fun i hi => ?_)
      rw [← mx_ro]
      unfold sqm
      rw [subM_mx m (by rw [List.length_map]; exact hk) (by rw [oI_len]; exact hi), mx_ro, hfst, oI_co hi, Int.toNat_natCast]
    rw [hdot] at hk2
    have hb := ho q hq
    generalize sg (rest (ncol m) (idx ins)).length _ = S at *
    unfold dot at hk2
    generalize sg (ro m q.1.toNat).length _ = T at *
    unfold fsub at hk2
    have : (T + S) % p = q.2 % p := by
      have h1 : (T + S) % p = (T + (q.2 - T % p)) % p := ma rfl hk2
      rw [h1]
      have h2 : (T + (q.2 - T % p)) % p = (T + (q.2 - T)) % p := ma rfl (ms rfl (mdd p T))
      rw [h2]
      congr 1
      omega
    rw [this, small hb.1 hb.2]
theorem cmp_ex (hg : GoodI p) (h : Arg m ins outs) (hE : ∀ r ∈ m, El p r) (hr : ¬ rnk p (sqm m ins outs) < outs.length) : ∃ s, slv p (sqm m ins outs) (rgt p m (xin m ins) outs) = some s := by
  have hp := hg.two
  have hM := h.sq (p := p) (by omega) hE
  by_cases h0 : outs.length = 0
  · have e1 : outs = [] := List.eq_nil_of_length_eq_zero h0
    subst e1
    exact ⟨[], slv_empty p⟩
  · have hs := squ_mat hM (by omega)
    cases hi : invM p (sqm m ins outs) with
    | none => exact absurd ((inv_none_iff hg hs hM.els).1 hi) (by rw [hM.rows]; exact hr)
    | some X => exact ⟨_, slv_inv hg hs hM.els (rgt_el (by omega) _ _ _) (by rw [hM.rows, rgt_len]) hi⟩
end
end Go.Proofs.YtkhiiiggmhncbaaGreat

/- beside (with the identity) and Inverse of the reference of layer 6. Nothing that lay is changed. Conditions: a supported prime, words of its field, at most 50 rows and columns. -/
namespace Go.Proofs.YtkhiiiggmhncbaaGreat
set_option maxRecDepth 100000
open Go.RowKit PolyMath FieldMath MatMath

set_option maxHeartbeats 4000000 in
theorem besideI_any (p : Int) (A B : Option Addr) (ca cb : Nat) (a : List (List Int)) (hN : a.length ≤ 100) (h0 : 0 < a.length) (ha : Mat p a.length a.length a) (w : World) (sa : Sll w A ca a) (sb : Sll w B cb (oneL a.length)) :
    Calls Tryz.prog 46 #[.slice A a.length ca, .slice B a.length cb] w fun e w' => MFresh w e w' (agiL a) := by
  obtain ⟨u0, hu0, hx0, hx1, hx2⟩ := info_parts info_u64
  obtain ⟨j0, hj0, hy0, hy1, hy2⟩ := info_parts info_sl
  have hgl : (agiL a).length = a.length := agiK_len a _
  obtain ⟨L, hL⟩ : ∃ L, L = a.length := ⟨_, rfl⟩
  have hL0 : 0 < L := by omega
  have hL1 : L ≤ 100 := by omega
  have hrA : ∀ k, k < a.length → (ro a k).length = L := fun k hk => by rw [hL]; exact (ha.ro hk).1
  have hrB := fun k (hk : k < a.length) => (show (ro (oneL a.length) k).length = a.length by unfold oneL; rw [ro_map _ hk]; exact unitL_len _ _)
  have hrow0 := fun k (hk : k < a.length) => (show ro (agiL a) k = ro a k ++ unitL a.length k by unfold agiL; rw [agiK_ro _ hk, if_pos hk])
  have hone := fun k (hk : k < a.length) => (show ro (oneL a.length) k = unitL a.length k by unfold oneL; exact ro_map _ hk)
  have hol := Lib.hid (oneL_len a.length)
  have HL := Lib.hid hL
  clear hL
  go_enter Tryz.func46, Tryz.ntmps46
  go_wp2
  go_loopw [5, 6] (fun v i wr => ∃ (k : Nat) (vs : List Value), k ≤ a.length ∧ i = .int .i64 k ∧ MP w.heap.size wr v k k vs ((agiL a).take k) ∧ Below w.heap.size w wr) (fun _ i _ => a.length - (intOf i).toNat)
  case atStart => exact ⟨0, [], Nat.zero_le _, rfl, MP.zero _ _, Below.refl _ _⟩
  case round =>
    obtain ⟨k, vs, hk, rfl, hM, hB⟩ := hrel
    have hsz : w.heap.size ≤ wr.heap.size := hB.size
    by_cases hlt : k < a.length
    · obtain ⟨ba, oa, A', c', hA', hba, hca, hsa⟩ := sa.rowAt (i := k) (L := L) hlt (hrA k hlt)
      obtain ⟨bb, ob, B', c8, hB', hbb, hcb, hsb⟩ := sb.rowAt (i := k) (L := L) (by rw [hol.out]; exact hlt) (by rw [hrB k hlt, HL.out])
      subst hA' hB'
      rw [hone k hlt] at hsb
      obtain ⟨b7, o7, _, hA7, hb7l, _, _⟩ := hsa.at_ (k := 0) (by rw [hrA k hlt]; exact hL0)
      obtain ⟨b8, o8, _, hB8, hb8, _, _⟩ := hsb.at_ (k := 0) (by rw [unitL_len, ← HL.out]; exact hL0)
      subst hA7 hB8
      have hcaw := (hB.cell (p := ⟨ba, oa + k, none⟩) hba).trans hca
      have hcbw := (hB.cell (p := ⟨bb, ob + k, none⟩) hbb).trans hcb
      have hbaw : ba < wr.heap.size := Nat.lt_of_lt_of_le hba hsz
      have hbbw : bb < wr.heap.size := Nat.lt_of_lt_of_le hbb hsz
      have hkn : (k : Int) < a.length := by omega
      have hMH := Lib.hid hM
      obtain ⟨Ao, co', ho⟩ := row_form hM.head
      subst ho
      have hTK : Hid ((agiL a).take k ++ [ro (agiL a) k] = (agiL a).take (k + 1)) := Lib.hid (by rw [List.take_add_one, ro_get (by rw [hgl]; exact hlt)]; rfl)
      have hrow : Hid (ro (agiL a) k = ro a k ++ unitL a.length k) := Lib.hid (hrow0 k hlt)
      have hlit := own_lit0 wr
      have hrl := Lib.hid (hrA k hlt)
      have hul : Hid ((unitL a.length k).length = L) := Lib.hid (by rw [unitL_len, HL.out])
      have hsw := hsa.next hB
      have honeA := Lib.hid (one_cells (ro a k))
      have honeB := Lib.hid (one_cells (unitL a.length k))
      have ca1 : (wr.alloc (.cells #[] 22)).cell? ⟨ba, oa + k, none⟩ = some (.slice (some ⟨b7, o7, none⟩) L c') := (World.cell?_alloc_some _ _ _ (by rw [hcaw]; rfl)).trans hcaw
      have cb1 : (wr.alloc (.cells #[] 22)).cell? ⟨bb, ob + k, none⟩ = some (.slice (some ⟨b8, o8, none⟩) L c8) := (World.cell?_alloc_some _ _ _ (by rw [hcbw]; rfl)).trans hcbw
      have hnw := Lib.hid (hsw.news (.cells #[] 22) L)
      rw [List.take_of_length_le (by rw [hrl.out]; exact Nat.le_refl _)] at hnw
      have hnwD : Hid (∀ j u, ((ro a k).map (Value.int .u64))[j]? = some u → ((wr.alloc (.cells #[] 22)).drew).cell? ((⟨b7, o7, none⟩ : Addr).add j) = some u) := Lib.hid fun j u hu => hnw.out j u hu
      have hlitD : Hid (((wr.alloc (.cells #[] 22)).drew).ownsRow wr.heap.size 22 1 (.slice (some ⟨wr.heap.size, 0, none⟩) 0 0) 0 []) := Lib.hid hlit.out
      have hln : Hid (((ro a k).map (Value.int .u64)).length = L * 1) := Lib.hid (by rw [List.length_map, hrl.out, Nat.mul_one])
      have hln2 : Hid (((unitL a.length k).map (Value.int .u64)).length = L * 1) := Lib.hid (by rw [List.length_map, hul.out, Nat.mul_one])
      have hnB : Hid (∀ w5, Below wr.heap.size wr w5 → ∀ j u, ((unitL a.length k).map (Value.int .u64))[j]? = some u → w5.cell? ((⟨b8, o8, none⟩ : Addr).add j) = some u) := Lib.hid fun w5 hb5 j u hu => by
        have h9 := (hsb.next (hB.trans (hb5.mono hsz))).rd ⟨b8, o8, none⟩ rfl (fun e => by have := hul.out; rw [e] at this; simp at this; omega)
        obtain ⟨b9, o9, e9, _, hc9⟩ := h9
        injection e9 with e1 e2
        subst e1 e2
        rw [List.getElem?_map] at hu
        obtain ⟨x, hx, rfl⟩ := Option.map_eq_some_iff.1 hu
        rw [Addr.add_lit]
        exact hc9 j x hx
      clear hsw hsa hnw hM
      go_wp2_with fail
      go_region_held3 (fun w' => w'.cell? ⟨ba, oa + k, none⟩ = some (.slice (some ⟨b7, o7, none⟩) L c') ∧ w'.cell? ⟨bb, ob + k, none⟩ = some (.slice (some ⟨b8, o8, none⟩) L c8))
        (first | (refine ⟨?_, ?_⟩ <;> assumption) | exact ⟨ca1, cb1⟩)
        (first | (refine step_append_own _ (by rfl) _ _ _ (by rfl) w.heap.size 23 j0 (.slice none 0 0) 1 24 Tryz.underlying24 hj0 hy0 hy1 hy2 rfl (by decide) _ _ _ (by rfl) hhd.out ⟨w6.heap.size, 0, none⟩ 1 1 [.slice A6 (L + L) c6] (by rfl) (by rfl) (cell_one_new _ _ _) (by simp [Value.oneCell']) (by simp only [maxLen]; omega) (by omega) (by first | omega | (simp; done) | (simp; omega)) ?_; intro v8 w8 hown8 hgrow8; have hB8 : Below w.heap.size w w8 := (hB.trans (hb7.mono hsz)).grown hgrow8 (by first | omega | (simp; done) | (simp; omega)) (fun x e => (World.ownsRow.lt hhd.out x e).1); have c18 := (hB8.cell (p := ⟨ba, oa + k, none⟩) hba).trans hca; have c28 := (hB8.cell (p := ⟨bb, ob + k, none⟩) hbb).trans hcb) | (refine step_append_own _ (by rfl) _ _ _ (by rfl) wr.heap.size 22 u0 (.int .u64 0) 1 8 Tryz.underlying23 hu0 hx0 hx1 hx2 rfl (by decide) _ _ _ (by rfl) hown5H.out ⟨b8, o8, none⟩ L c8 ((unitL a.length k).map (Value.int .u64)) (by rfl) hln2.out hn5.out honeB.out (by simp only [maxLen]; omega) (by omega) (by first | omega | (simp; done) | (simp; omega)) ?_; intro v6 w6 hown6 hgrow6; obtain ⟨A6, c6, hv6⟩ := row_form hown6; subst hv6; have hb6 : Below wr.heap.size wr w6 := hb5.grown hgrow6 hsz5 (fun x e => (World.ownsRow.lt hown5H.out x e).1); have hsz6 := hb6.size; have c16 := (hb6.cell (p := ⟨ba, oa + k, none⟩) hbaw).trans hcaw; have c26 := (hb6.cell (p := ⟨bb, ob + k, none⟩) hbbw).trans hcbw; have hb7 := hb6.alloc hsz6 (.cells #[.slice A6 (L + L) c6] 23); have c17 := (hb7.cell (p := ⟨ba, oa + k, none⟩) hbaw).trans hcaw; have c27 := (hb7.cell (p := ⟨bb, ob + k, none⟩) hbbw).trans hcbw; have hhd := Lib.hid (hMH.out.next hb7).head; have hu7 := Lib.hid (hown6.alloc (.cells #[.slice A6 (L + L) c6] 23)); clear hown6 hgrow6) | (refine step_append_own _ (by rfl) _ _ _ (by rfl) wr.heap.size 22 u0 (.int .u64 0) 1 8 Tryz.underlying23 hu0 hx0 hx1 hx2 rfl (by decide) _ _ _ (by rfl) hlitD.out ⟨b7, o7, none⟩ L c' ((ro a k).map (Value.int .u64)) (by rfl) hln.out hnwD.out honeA.out (by simp only [maxLen]; omega) (by omega) (by first | omega | (simp; done) | (simp; omega)) ?_; intro v5 w5 hown5 hgrow5; rw [Nat.zero_add, List.nil_append] at hown5; obtain ⟨A5, c5, hv5⟩ := row_form hown5; subst hv5; have hb5 : Below wr.heap.size wr w5 := ((Below.refl _ wr).alloc (Nat.le_refl _) _).drew.grown hgrow5 (by first | omega | (simp; done) | (simp; omega)) (fun x e => (World.ownsRow.lt hlitD.out x e).1); have hsz5 := hb5.size; have c15 := (hb5.cell (p := ⟨ba, oa + k, none⟩) hbaw).trans hcaw; have c25 := (hb5.cell (p := ⟨bb, ob + k, none⟩) hbbw).trans hcbw; have hn5 := Lib.hid (hnB.out w5 hb5); have hown5H := Lib.hid hown5; clear hown5 hgrow5))
      all_goals
        go_wp2_with fail
        go_roundw
        case rel => exact ⟨k + 1, _, by omega, by simp, by rw [← hTK.out]; exact hMH.out.add hb7 hsz (by rw [hrow.out, List.length_append, List.map_append, hrl.out, hul.out]; exact hu7.out) hown8 hgrow8, hB8⟩
        case measure => simp [intOf]; omega
    · obtain rfl : k = a.length := by omega
      rw [List.take_of_length_le (by rw [hgl]; exact Nat.le_refl _)] at hM
      obtain ⟨Ao, co', ho⟩ := row_form hM.head
      subst ho
      go_wp2_with fail
      go_ret
      exact ⟨_, vs, rfl, by rw [hgl]; exact hM, hB⟩
/-- A matrix that reads as rows, all of it in memory from base on. -/
structure SllF (w : World) (base : Nat) (A : Option Addr) (c : Nat) (rows : List (List Int)) : Prop where
  cap : rows.length ≤ c
  nil : A = none → c = 0
  rd : ∀ ad, A = some ad → rows ≠ [] → ∃ b off, ad = ⟨b, off, none⟩ ∧ base ≤ b ∧ b < w.heap.size ∧ ∀ j r, rows[j]? = some r → ∃ A' c', w.cell? ⟨b, off + j, none⟩ = some (.slice A' r.length c') ∧ Sl w A' c' r ∧ ∀ ad', A' = some ad' → base ≤ ad'.block
theorem SllF.sll {w : World} {base : Nat} {A : Option Addr} {c : Nat} {rows : List (List Int)} (h : SllF w base A c rows) : Sll w A c rows :=
  ⟨h.cap, h.nil, fun ad e hn => by
    obtain ⟨b, off, h1, _, h2, h3⟩ := h.rd ad e hn
    exact ⟨b, off, h1, h2, fun j r hr => by obtain ⟨A', c', q1, q2, _⟩ := h3 j r hr; exact ⟨A', c', q1, q2⟩⟩⟩
theorem SllF.next {w w' : World} {base : Nat} {A : Option Addr} {c : Nat} {rows : List (List Int)} (h : SllF w base A c rows) (hb : Below w.heap.size w w') : SllF w' base A c rows :=
  ⟨h.cap, h.nil, fun ad e hn => by
    obtain ⟨b, off, h1, h0, h2, h3⟩ := h.rd ad e hn
    exact ⟨b, off, h1, h0, Nat.lt_of_lt_of_le h2 hb.size, fun j r hr => by
      obtain ⟨A', c', q1, q2, q3⟩ := h3 j r hr
      exact ⟨A', c', (hb.cell (p := ⟨b, off + j, none⟩) h2).trans q1, q2.next hb, q3⟩⟩⟩
theorem SllF.grown {w w' : World} {base g : Nat} {A : Option Addr} {c : Nat} {rows : List (List Int)} (h : SllF w base A c rows) (hg : w.grownBy w' (some g)) (hlt : g < base) : SllF w' base A c rows :=
  ⟨h.cap, h.nil, fun ad e hn => by
    obtain ⟨b, off, h1, h0, h2, h3⟩ := h.rd ad e hn
    have hne : some b ≠ some g := fun e => by injection e with e; omega
    refine ⟨b, off, h1, h0, Nat.lt_of_lt_of_le h2 hg.size, fun j r hr => ?_⟩
    obtain ⟨A', c', q1, q2, q3⟩ := h3 j r hr
    refine ⟨A', c', ?_, q2.grown hg (fun ad' e' e2 => by have := q3 ad' e'; injection e2 with e2; omega), q3⟩
    rw [← q1]
    unfold World.cell?
    rw [hg.block b h2 hne]⟩
theorem Sl.dropN {w : World} {b off c : Nat} {xs : List Int} (h : Sl w (some ⟨b, off, none⟩) c xs) {q : Nat} (hq : q ≤ xs.length) : Sl w (some ⟨b, off + q, none⟩) (c - q) (xs.drop q) := by
  refine ⟨by rw [List.length_drop]; have := h.cap; omega, (fun e => by cases e), fun ad e hn => ?_⟩
  injection e with e
  subst e
  obtain ⟨b', off', e', hlt, hc⟩ := h.rd _ rfl (fun e => hn (by rw [e]; simp))
  injection e' with e1 e2
  subst e1 e2
  refine ⟨b, off + q, rfl, hlt, fun j r hr => ?_⟩
  rw [List.getElem?_drop] at hr
  rw [Nat.add_assoc]
  exact hc (q + j) r hr

/-- What Inverse of the reference hands back. -/
def InvF (p : Int) (A : List (List Int)) (w : World) (e : Ending) (w' : World) : Prop :=
  (∃ X, invM p A = some X ∧ ∃ A' c', e = .returned (.tuple #[.slice A' X.length c', .int .i64 0]) ∧ SllF w' w.heap.size A' c' X ∧ Below w.heap.size w w') ∨ (invM p A = none ∧ e = .returned (.tuple #[.slice none 0 0, .int .i64 8]) ∧ Below w.heap.size w w')

set_option maxHeartbeats 4000000 in
theorem rInverse_any (p : Int) (hp : OkP p) (A : Option Addr) (c : Nat) (rows : List (List Int)) (hN : rows.length ≤ 50) (hE : ∀ r ∈ rows, El p r) (hr : squ rows = true) (w : World) (h : Sll w A c rows) :
    Calls Tryz.prog 23 #[.int .u64 p, .slice A rows.length c] w fun e w' => InvF p rows w e w' := by
  obtain ⟨j0, hj0, hy0, hy1, hy2⟩ := info_parts info_sl
  have hbd := hp.bd
  have h1 := rSquare_any A c rows (by omega) w h
  obtain ⟨q1, q2, q3⟩ := squ_iff.1 hr
  have hmat := mat_of q3 hE
  rw [← q2] at hmat
  rw [hr] at h1
  have hmat2 := agiL_mat (p := p) (by omega) hmat
  have hELF := elim_ok hp.good hmat2 rows.length
  have hgl : (agiL rows).length = rows.length := agiK_len rows _
  have g2 := fun W => rOne_any rows.length (by omega) W
  unfold MFresh at g2
  have g3 := fun W B cb (a1 : Sll W A c rows) (a2 : Sll W B cb (oneL rows.length)) => besideI_any p A B c cb rows (by omega) q1 hmat W a1 a2
  have g4 := fun W Ag cg (a1 : Sll W Ag cg (agiL rows)) => red_any p hp Ag cg (rows.length + rows.length) rows.length (agiL rows) (by omega) (by omega) (by omega) (fun _ => by rw [hgl]; exact q1) (by rw [hgl]; exact hmat2) W a1
  rw [hgl] at g4
  unfold Redd at g4
  rw [hgl] at g4
  have HS : Hid (invM p rows = if (elim p (agiL rows) rows.length).pv.length < rows.length then none else some ((elim p (agiL rows) rows.length).R.map fun r => r.drop rows.length)) := Lib.hid rfl
  have hol := Lib.hid (oneL_len rows.length)
  clear hr q2 hgl
  go_enter Tryz.func23, Tryz.ntmps23
  go_wp2_with fail
  refine h1.mono ?_; rintro e w1 ⟨rfl, hB1⟩
  replace h := h.next hB1
  clear h1
  go_wp2_with fail
  refine (g2 _).mono ?_; rintro e w2 ⟨v2, vs2, rfl, hM2, hb2⟩
  obtain ⟨A2, c2, hv2, s2⟩ := hM2.form
  rw [hol.out] at hv2
  subst hv2
  replace h := h.next hb2
  have hB2 := hB1.trans (hb2.mono hB1.size)
  clear g2 hM2 hb2
  go_wp2_with fail
  refine (g3 _ _ _ h s2).mono ?_; rintro e w3 ⟨v3, vs3, rfl, hM3, hb3⟩
  have hgl2 : (agiL rows).length = rows.length := agiK_len rows _
  obtain ⟨A3, c3, hv3, s3⟩ := hM3.form
  rw [hgl2] at hv3
  subst hv3
  have hB3 := hB2.trans (hb3.mono hB2.size)
  clear g3 hM3 hb3 s2 hgl2
  go_wp2_with fail
  refine (g4 _ _ _ s3).mono ?_; rintro e w4 ⟨v4, vs4, pvv, rfl, hM4, hP4, hb4⟩
  obtain ⟨A9, c9, hv9⟩ := row_form hP4
  subst hv9
  obtain ⟨g, cap, hv4, hbg, _⟩ := World.ownsRow.form hM4.head q1
  subst hv4
  have hBend := hB3.trans (hb4.mono hB3.size)
  have hb3w : w.heap.size ≤ w3.heap.size := hB3.size
  clear g4 hP4 s3 hb4
  generalize elim p (agiL rows) rows.length = S at *
  generalize hq : S.pv.length = q at *
  clear hq
  by_cases hqN : q < rows.length
  · have HR : Hid (invM p rows = none) := Lib.hid (by rw [HS.out, if_pos hqN])
    have hqI : (q : Int) < rows.length := by omega
    clear HS
    go_wp2_with fail
    go_ret2
    exact .inr ⟨HR.out, rfl, hBend⟩
  · have HR : Hid (invM p rows = some (S.R.map fun r => r.drop rows.length)) := Lib.hid (by rw [HS.out, if_neg hqN])
    have hqI : ¬ (q : Int) < rows.length := by omega
    obtain ⟨L2, hL2⟩ : ∃ L2, L2 = rows.length + rows.length := ⟨_, rfl⟩
    have hL2a : rows.length < L2 := by omega
    have hL2b := Lib.hid hL2
    clear hL2
    have hhd := fun (i : Nat) (hi : i < rows.length) => hM4.hd (i := i) (L := L2) hi (by rw [hL2b.out]; exact (hELF.mat.ro hi).1) (by omega)
    have hgl4 := World.ownsRow.lt hM4.head g rfl
    clear HS hM4
    go_wp2_with fail
    go_loopw [9, 10] (fun v i wr => ∃ (k : Nat) (us : List Value), k ≤ rows.length ∧ i = .int .i64 k ∧ wr.ownsRow w4.heap.size 23 1 v k us ∧ Hid (∀ i, i < k → ∃ b cb, vs4[i]? = some (.slice (some ⟨b, 0, none⟩) L2 cb) ∧ us[i]? = some (.slice (some ⟨b, rows.length, none⟩) (L2 - rows.length) (cb - rows.length))) ∧ Below w4.heap.size w4 wr) (fun _ i _ => rows.length - (intOf i).toNat)
    case atStart => exact ⟨0, [], Nat.zero_le _, rfl, World.ownsRow_nil _ _ _ _, Lib.hid (fun i hi => absurd hi (Nat.not_lt_zero _)), Below.refl _ _⟩
    case round =>
      obtain ⟨k, us, hk, rfl, hO, hI, hB⟩ := hrel
      have hsz := hB.size
      by_cases hlt : k < rows.length
      · obtain ⟨b, cb, hv, hcv, hOb, hne, hcb⟩ := hhd k hlt
        have hcell := (hB.cell (p := ⟨g, k, none⟩) hgl4.2).trans hcv
        have hkr : (k : Int) < rows.length := by omega
        have hL2I : (rows.length : Int) ≤ L2 := by omega
        have hcbI : (L2 : Int) ≤ cb := by omega
        have hcbn : ¬ cb = rows.length := by omega
        have hul : us.length = k := by have := hO.1; omega
        have hI2 : Hid (∀ i, i < k + 1 → ∃ b9 cb9, vs4[i]? = some (.slice (some ⟨b9, 0, none⟩) L2 cb9) ∧ (us ++ [.slice (some ⟨b, rows.length, none⟩) (L2 - rows.length) (cb - rows.length)])[i]? = some (.slice (some ⟨b9, rows.length, none⟩) (L2 - rows.length) (cb9 - rows.length))) := Lib.hid fun i hi => by
          by_cases e : i = k
          · subst e
            exact ⟨b, cb, hv, by rw [List.getElem?_append_right (by omega), hul, Nat.sub_self]; rfl⟩
          · obtain ⟨b', cb', h1, h2⟩ := hI.out i (by omega)
            exact ⟨b', cb', h1, by rw [List.getElem?_append_left (by omega)]; exact h2⟩
        obtain ⟨Ao, co', ho⟩ := row_form hO
        subst ho
        clear hI hv hOb hul
        go_wp2_with (at_builtin; refine wpList_append_own _ rfl _ _ 24 rfl w4.heap.size 23 j0 (.slice none 0 0) 1 24 Tryz.underlying24 hj0 hy0 hy1 hy2 rfl (by decide) _ _ _ rfl (hO.alloc _) ⟨wr.heap.size, 0, none⟩ 1 1 [.slice (some ⟨b, rows.length, none⟩) (L2 - rows.length) (cb - rows.length)] rfl rfl (cell_one_new _ _ _) (by simp [Value.oneCell']) (by simp only [maxLen]; omega) (by omega) (by simp; omega) ?_; intro v6 w6 hown6 hgrow6 _)
        go_roundw
        case rel => exact ⟨k + 1, _, by omega, by simp, hown6, hI2, (hB.alloc hsz _).grown hgrow6 (by simp; omega) (fun x e => (World.ownsRow.lt hO x e).1)⟩
        case measure => simp [intOf]; omega
      · obtain rfl : k = rows.length := by omega
        have hXl : (S.R.map fun r => r.drop rows.length).length = rows.length := by rw [List.length_map]; exact hELF.mat.rows
        obtain ⟨g5, c5, hv5, hbg5, hlt5⟩ := World.ownsRow.form hO q1
        subst hv5
        have hfin : SllF wr w.heap.size (some ⟨g5, 0, none⟩) c5 (S.R.map fun r => r.drop rows.length) := by
          refine ⟨?_, (fun e => by cases e), fun ad e _ => ?_⟩
          · rw [hXl]
            rcases hO.2 with ⟨e, _⟩ | ⟨g', cap', cur, e, _, _, h9, _⟩
            · cases e
            · injection e with _ _ e3
              rw [e3]; exact h9
          injection e with e
          subst e
          refine ⟨g5, 0, rfl, by have := hBend.size; omega, hlt5, fun j r hr => ?_⟩
          have hj : j < rows.length := by have := (List.getElem?_eq_some_iff.1 hr).1; rw [hXl] at this; exact this
          rw [List.getElem?_map, ro_get (by rw [hELF.mat.rows]; exact hj)] at hr
          injection hr with hr
          subst hr
          obtain ⟨b, cb, h1, h2⟩ := hI.out j hj
          obtain ⟨b', cb', h3, _, h4, h5, _⟩ := hhd j hj
          rw [h1] at h3
          injection h3 with h3
          injection h3 with e1 e2 e3
          injection e1 with e1
          injection e1 with e1 _
          subst e1 e3
          have hlen := (hELF.mat.ro hj).1
          refine ⟨some ⟨b, rows.length, none⟩, cb - rows.length, ?_, ?_, fun ad' e' => ?_⟩
          · rw [Nat.zero_add, World.ownsRow.cellAt hO j (by omega), h2, List.length_drop, hlen, hL2b.out]
          · have := (h4.sl.next hB).dropN (q := rows.length) (by rw [hlen]; omega)
            rwa [Nat.zero_add] at this
          · injection e' with e'
            subst e'
            have := h4.lt
            show w.heap.size ≤ b
            omega
        clear hO hI
        go_wp2_with fail
        go_ret2
        exact .inl ⟨_, HR.out, _, _, by rw [hXl]; rfl, hfin, hBend.trans (hB.mono hBend.size)⟩
end Go.Proofs.YtkhiiiggmhncbaaGreat
