/- Texts joined: RRefA, RRefB, RAwake, ROpen, RMath, RGen, RRefC, RRed, RRefD, RRefE, HMath, HFun, HRefC. Each says its own conditions. -/
import Derived.Test.YtkhiiiggmhncbaaMB
import Derived.Test.YtkhiiiggmhncbaaMD
import Derived.Test.YtkhiiiggmhncbaaMC
import Derived.ChangeSlices
import Derived.Carry
import Derived.Deep.Matrix
import Derived.BigRegion
import Derived.Test.YtkhiiiggmhncbaaMA
/- Below, Fair, SameList, Same, Rect, square, Dot of the reference of layer 6; nothing that lay is changed. Conditions: where said, at most 1000 words. -/
namespace Go.Proofs.Ytkhiiiggmhncbaa
set_option maxRecDepth 100000
open Go.RowKit PolyMath FieldMath MatMath

theorem sameL_is (A A' : Option Addr) (xs : List Int) (c c' : Nat) (w : World) (h : Sl w A c xs) (h' : Sl w A' c' xs) (hl : xs.length ≤ 1000) :
    Calls Try.prog 19 #[.slice A xs.length c, .slice A' xs.length c'] w fun e w' => e = .returned (.bool true) ∧ ∃ m, w' = w.drewN m := by
  go_enter Try.func19, Try.ntmps19
  go_wp2
  go_loopw [5] (fun i wr => ∃ k m : Nat, k ≤ xs.length ∧ i = .int .i64 k ∧ wr = w.drewN m) (fun i _ => xs.length - (intOf i).toNat)
  case atStart => exact ⟨0, 0, Nat.zero_le _, rfl, rfl⟩
  case round =>
    obtain ⟨k, m, hk, rfl, rfl⟩ := hrel
    by_cases hlt : k < xs.length
    · obtain ⟨b, off, x, hA, _, hx, hc⟩ := h.at_ hlt
      obtain ⟨b', off', y, hA', _, hy, hc'⟩ := h'.at_ hlt
      subst hA hA'
      obtain rfl : x = y := by rw [hx] at hy; injection hy
      have hi1 : (k : Int) < xs.length := by omega
      clear hx hy
      go_wp2
      go_quiet (fail)
      go_wp2
      go_roundw
      case rel => exact ⟨k + 1, _, by omega, by simp, by first | rfl | (simp; rfl)⟩
      case measure => simp [intOf]; omega
    · obtain rfl : k = xs.length := by omega
      go_wp2
      go_ret
      exact ⟨rfl, m, rfl⟩

set_option maxHeartbeats 1000000 in
theorem sameM_is (A A' : Option Addr) (rows : List (List Int)) (c c' : Nat) (w : World) (h : Sll w A c rows) (h' : Sll w A' c' rows) (hz : Sized rows) :
    Calls Try.prog 15 #[.slice A rows.length c, .slice A' rows.length c'] w fun e w' => e = .returned (.bool true) ∧ ∃ m, w' = w.drewN m := by
  have hl := hz.1
  go_enter Try.func15, Try.ntmps15
  go_wp2
  go_loopw [5] (fun i wr => ∃ k m : Nat, k ≤ rows.length ∧ i = .int .i64 k ∧ wr = w.drewN m) (fun i _ => rows.length - (intOf i).toNat)
  case atStart => exact ⟨0, 0, Nat.zero_le _, rfl, rfl⟩
  case round =>
    obtain ⟨k, m, hk, rfl, rfl⟩ := hrel
    by_cases hlt : k < rows.length
    · obtain ⟨b, off, A1, c1, hA, _, hc, hs⟩ := h.rowAt hlt rfl
      obtain ⟨b', off', A2, c2, hA', _, hc', hs'⟩ := h'.rowAt hlt rfl
      subst hA hA'
      have hi1 : (k : Int) < rows.length := by omega
      have hsm := fun n : Nat => sameL_is A1 A2 (ro rows k) c1 c2 (w.drewN (m + n)) (hs.drewN _) (hs'.drewN _) (by have := hz.2 k; omega)
      go_wp2
      go_quiet (exact quiet_more (hsm _))
      go_wp2
      go_roundw
      case rel => exact ⟨k + 1, _, by omega, by simp, by first | rfl | (simp; rfl)⟩
      case measure => simp [intOf]; omega
    · obtain rfl : k = rows.length := by omega
      go_wp2
      go_ret
      exact ⟨rfl, m, rfl⟩
theorem sameL_b (A A' : Option Addr) (xs : List Int) (c c' : Nat) (w : World) (h : Sl w A c xs) (h' : Sl w A' c' xs) (hl : xs.length ≤ 1000) :
    Calls Try.prog 19 #[.slice A xs.length c, .slice A' xs.length c'] w fun e w' => e = .returned (.bool true) ∧ Below w.heap.size w w' :=
  (sameL_is A A' xs c c' w h h' hl).mono fun _ _ ⟨he, m, hm⟩ => ⟨he, by rw [hm]; exact below_drewN (Below.refl _ w) m⟩
theorem sameM_b (A A' : Option Addr) (rows : List (List Int)) (c c' : Nat) (w : World) (h : Sll w A c rows) (h' : Sll w A' c' rows) (hz : Sized rows) :
    Calls Try.prog 15 #[.slice A rows.length c, .slice A' rows.length c'] w fun e w' => e = .returned (.bool true) ∧ Below w.heap.size w w' :=
  (sameM_is A A' rows c c' w h h' hz).mono fun _ _ ⟨he, m, hm⟩ => ⟨he, by rw [hm]; exact below_drewN (Below.refl _ w) m⟩

/-- At most so many words, all below p. -/
def belB (p : Int) (xs : List Int) (most : Nat) : Bool := decide (xs.length ≤ most ∧ ∀ x ∈ xs, x < p)
theorem below_any6 (p : Int) (A : Option Addr) (c most : Nat) (xs : List Int) (hm : most ≤ 100) (w : World) (h : Sl w A c xs) :
    Calls Try.prog 36 #[.int .u64 p, .slice A xs.length c, .int .i64 most] w fun e w' => e = .returned (.bool (belB p xs most)) ∧ w = w' := by
  go_enter Try.func36, Try.ntmps36
  go_wp2
  go_loop [7] (fun i => ∃ k : Nat, k ≤ xs.length ∧ k ≤ most + 1 ∧ i = .int .i64 k ∧ Hid (∀ x ∈ xs.take k, x < p)) (fun i => most + 1 - (intOf i).toNat)
  case atStart => exact ⟨0, Nat.zero_le _, Nat.zero_le _, rfl, Lib.hid (fun x hx => by simp at hx)⟩
  case round =>
    obtain ⟨k, hk, hk2, rfl, hE⟩ := hrel
    by_cases hlt : k < xs.length
    · have hi1 : (k : Int) < xs.length := by omega
      by_cases hlm : k ≤ most
      · obtain ⟨b, off, x, hA, _, hx, hc⟩ := h.at_ hlt
        subst hA
        have hX := Lib.hid hx
        have hi2 : (k : Int) ≤ most := by omega
        clear hx
        by_cases hxp : x < p
        · have hN := Lib.hid (show ∀ y ∈ xs.take (k + 1), y < p from fun y hy => by
            rw [List.take_add_one, hX.out] at hy
            rcases List.mem_append.1 hy with h1 | h1
            · exact hE.out y h1
            · have : y = x := by simpa using h1
              subst this; exact hxp)
          have hxp' : ¬ p ≤ x := by omega
          go_wp2
          go_round
          case rel => exact ⟨k + 1, by omega, by omega, by simp, hN⟩
          case measure => simp [intOf]; omega
        · have hN := Lib.hid (show belB p xs most = false from decide_eq_false fun h => hxp (h.2 x (List.mem_of_getElem? hX.out)))
          have hxp' : p ≤ x := by omega
          go_wp2
          go_ret
          rw [hN.out]
          exact ⟨rfl, rfl⟩
      · have hi2 : ¬ (k : Int) ≤ most := by omega
        have hi3 : ¬ (xs.length : Int) ≤ most := by omega
        have hN := Lib.hid (show belB p xs most = false from decide_eq_false fun h => by omega)
        go_wp2
        go_ret
        rw [hN.out]
        exact ⟨rfl, rfl⟩
    · obtain rfl : k = xs.length := by omega
      have hall := hE.out
      rw [List.take_length] at hall
      by_cases hlm : xs.length ≤ most
      · have hi3 : (xs.length : Int) ≤ most := by omega
        have hN := Lib.hid (show belB p xs most = true from decide_eq_true ⟨hlm, hall⟩)
        clear hall
        go_wp2
        go_ret
        rw [hN.out]
        exact ⟨rfl, rfl⟩
      · have hi3 : ¬ (xs.length : Int) ≤ most := by omega
        have hN := Lib.hid (show belB p xs most = false from decide_eq_false fun h => by omega)
        clear hall
        go_wp2
        go_ret
        rw [hN.out]
        exact ⟨rfl, rfl⟩

/-- A supported prime, and at most so many rows and columns of words below it. -/
def fairB (p : Int) (rows : List (List Int)) (most : Nat) : Bool := (qOf p != 0) && decide (rows.length ≤ most ∧ ∀ i, i < rows.length → belB p (ro rows i) most = true)

set_option maxHeartbeats 1000000 in
theorem fair_any (p : Int) (A : Option Addr) (c most : Nat) (rows : List (List Int)) (hm : most ≤ 100) (w : World) (h : Sll w A c rows) :
    Calls Try.prog 41 #[.int .u64 p, .slice A rows.length c, .int .i64 most] w fun e w' => e = .returned (.bool (fairB p rows most)) ∧ Below w.heap.size w w' := by
  have hsup := rSupported_any p w
  have hE : Hid (fairB p rows most = ((qOf p != 0) && decide (rows.length ≤ most ∧ ∀ i, i < rows.length → belB p (ro rows i) most = true))) := Lib.hid rfl
  cases hq : (qOf p != 0) with
  | false =>
    rw [hq] at hsup hE
    go_enter Try.func41, Try.ntmps41
    go_wp2_with fail
    refine hsup.mono ?_; rintro e w1 ⟨rfl, hB⟩
    go_wp2_with fail
    go_ret
    rw [hE.out]
    exact ⟨rfl, hB⟩
  | true =>
    rw [hq, Bool.true_and] at hE
    rw [hq] at hsup
    clear hq
    by_cases hlm : rows.length ≤ most
    · have hl' : ¬ (most : Int) < rows.length := by omega
      go_enter Try.func41, Try.ntmps41
      go_wp2_with fail
      refine hsup.mono ?_; rintro e w1 ⟨rfl, hB⟩
      have hs1 := h.next hB
      clear hsup
      go_wp2_with fail
      simp only [show decide (most < rows.length) = false from decide_eq_false (by omega)]
      go_loop [7] (fun i => ∃ k : Nat, k ≤ rows.length ∧ i = .int .i64 k ∧ Hid (∀ i, i < k → belB p (ro rows i) most = true)) (fun i => rows.length - (intOf i).toNat)
      case atStart => exact ⟨0, Nat.zero_le _, rfl, Lib.hid (fun i hi => absurd hi (Nat.not_lt_zero _))⟩
      case round =>
        obtain ⟨k, hk, rfl, hI⟩ := hrel
        by_cases hlt : k < rows.length
        · obtain ⟨b, off, A1, c1, hA, _, hc, hs⟩ := hs1.rowAt hlt rfl
          subst hA
          have hbl := below_any6 p A1 c1 most (ro rows k) hm w1 hs
          have hi1 : (k : Int) < rows.length := by omega
          cases hb : belB p (ro rows k) most with
          | true =>
            rw [hb] at hbl
            have hN := Lib.hid (show ∀ i, i < k + 1 → belB p (ro rows i) most = true from fun i hi => by
              by_cases e : i = k
              · subst e; exact hb
              · exact hI.out i (by omega))
            clear hb
            go_wp2_with (go_at_call 36; refine hbl.mono ?_; rintro e w' ⟨rfl, rfl⟩)
            go_round
            case rel => exact ⟨k + 1, by omega, by simp, hN⟩
            case measure => simp [intOf]; omega
          | false =>
            rw [hb] at hbl
            have hN : Hid (fairB p rows most = false) := Lib.hid (by rw [hE.out]; exact decide_eq_false fun h => by rw [h.2 k hlt] at hb; cases hb)
            clear hb
            go_wp2_with (go_at_call 36; refine hbl.mono ?_; rintro e w' ⟨rfl, rfl⟩)
            go_ret
            rw [hN.out]
            exact ⟨rfl, hB⟩
        · obtain rfl : k = rows.length := by omega
          have hN : Hid (fairB p rows most = true) := Lib.hid (by rw [hE.out]; exact decide_eq_true ⟨hlm, hI.out⟩)
          go_wp2
          go_ret
          rw [hN.out]
          exact ⟨rfl, hB⟩
    · have hl' : (most : Int) < rows.length := by omega
      have hN : Hid (fairB p rows most = false) := Lib.hid (by rw [hE.out]; exact decide_eq_false fun h => hlm h.1)
      go_enter Try.func41, Try.ntmps41
      go_wp2_with fail
      refine hsup.mono ?_; rintro e w1 ⟨rfl, hB⟩
      go_wp2_with fail
      go_ret
      rw [hN.out]
      exact ⟨rfl, hB⟩

/-- What Rect answers. -/
def rectN (rows : List (List Int)) : Nat := if rect rows = true then ncol rows else 0
theorem rect_nil : rect [] = true := rfl
end Go.Proofs.Ytkhiiiggmhncbaa

/- Turn and One of the reference of layer 6: the transpose and the identity, in memory of the call's own; nothing that lay is changed. Conditions: at most 100 rows and columns, the matrix rectangular. -/
namespace Go.Proofs.Ytkhiiiggmhncbaa
set_option maxRecDepth 100000
open Go.RowKit PolyMath FieldMath MatMath

theorem own_wide {w : World} {base base' t n : Nat} {v : Value} {xs : List Value} (h : w.ownsRow base t 1 v n xs) (hb : base' ≤ base) : w.ownsRow base' t 1 v n xs :=
  ⟨h.1, h.2.imp id fun ⟨g, cap, cur, a1, a2, a3⟩ => ⟨g, cap, cur, a1, Nat.le_trans hb a2, a3⟩⟩
theorem MP.wide {base base' N k : Nat} {w : World} {v : Value} {vs : List Value} {rows : List (List Int)} (h : MP base w v N k vs rows) (hb : base' ≤ base) : MP base' w v N k vs rows :=
  ⟨own_wide h.head hb, h.len, h.le, fun i hi => by obtain ⟨u, h1, h2⟩ := h.row i hi; exact ⟨u, h1, own_wide h2 hb⟩, h.apart⟩
/-- One row more. -/
theorem MP.add {base N : Nat} {w0 w w' : World} {v v' u : Value} {vs : List Value} {rows : List (List Int)} {r : List Int} (h : MP base w0 v N N vs rows) (hb : Below w0.heap.size w0 w) (hbase : base ≤ w0.heap.size)
    (hu : w.ownsRow w0.heap.size 31 1 u r.length (r.map (Value.int .u64))) (hown : w'.ownsRow base 22 1 v' (N + 1) (vs ++ [u])) (hg : w.grownBy w' v.ownBlock) : MP base w' v' (N + 1) (N + 1) (vs ++ [u]) (rows ++ [r]) := by
  have h1 := h.next hb
  have hvl := h.vlen
  have hrl := h.len
  have keep : ∀ {x : Value} {b n : Nat} {xs : List Int}, w.ownsRow b 31 1 x n (xs.map (Value.int .u64)) → w'.ownsRow b 31 1 x n (xs.map (Value.int .u64)) := fun {x b n xs} hx =>
    World.ownsRow.kept hx hg (by
      cases hq : x.ownBlock with
      | none => exact .inl rfl
      | some e =>
        refine .inr fun e' => ?_
        obtain ⟨c1, f1, t1⟩ := own_tag hx e hq
        obtain ⟨c2, f2, t2⟩ := own_tag h1.head e e'.symm
        rw [t1] at t2
        cases t2)
  have roL : ∀ i, i < N → ro (rows ++ [r]) i = ro rows i := fun i hi => by unfold ro; rw [List.getElem?_append_left (by omega)]
  have roR : ro (rows ++ [r]) N = r := by unfold ro; rw [List.getElem?_append_right (by omega), show N - rows.length = 0 by omega]; rfl
  have vR : (vs ++ [u])[N]? = some u := by rw [List.getElem?_append_right (by omega), show N - vs.length = 0 by omega]; rfl
  refine ⟨hown, by rw [List.length_append, List.length_singleton, hrl], Nat.le_refl _, fun i hi => ?_, fun i j x y e hi hj hx hy he he' => ?_⟩
  · by_cases e : i = N
    · subst e
      exact ⟨u, vR, by rw [roR]; exact keep (own_wide hu hbase)⟩
    · obtain ⟨x, h2, h3⟩ := h1.row i (by omega)
      exact ⟨x, by rw [List.getElem?_append_left (by omega)]; exact h2, by rw [roL i (by omega)]; exact keep h3⟩
  · have old : ∀ i x, i < N → (vs ++ [u])[i]? = some x → x.ownBlock = some e → e < w0.heap.size := fun i x hi hx he => by
      rw [List.getElem?_append_left (by omega)] at hx
      exact (World.ownsRow.lt (h.own hi hx) e he).2
    have new : ∀ x, (vs ++ [u])[N]? = some x → x.ownBlock = some e → w0.heap.size ≤ e := fun x hx he => by
      rw [vR] at hx
      injection hx with hx
      subst hx
      exact (World.ownsRow.lt hu e he).1
    by_cases e1 : i = N
    · by_cases e2 : j = N
      · omega
      · subst e1
        have := new x hx he
        have := old j y (by omega) hy he'
        omega
    · by_cases e2 : j = N
      · subst e2
        have := new y hy he'
        have := old i x (by omega) hx he
        omega
      · rw [List.getElem?_append_left (by omega)] at hx hy
        exact h.apart i j x y e (by omega) (by omega) hx hy he he'
theorem MP.zero (base : Nat) (w : World) : MP base w (.slice none 0 0) 0 0 [] [] :=
  ⟨World.ownsRow_nil _ _ _ _, rfl, Nat.le_refl _, fun _ hi => absurd hi (Nat.not_lt_zero _), fun _ _ _ _ _ hi => absurd hi (Nat.not_lt_zero _)⟩

/-- The identity. -/
def oneL (n : Nat) : List (List Int) := (List.range n).map fun i => unitL n i
theorem oneL_len (n : Nat) : (oneL n).length = n := by unfold oneL; simp
def oneK (n k : Nat) : List (List Int) := (List.range k).map fun i => unitL n i
theorem oneK_len (n k : Nat) : (oneK n k).length = k := by unfold oneK; simp
theorem oneK_next (n k : Nat) : oneK n (k + 1) = oneK n k ++ [unitL n k] := by unfold oneK; rw [List.range_succ, List.map_append]; rfl

/-- The transpose of a rectangular matrix. -/
def trn (R : List (List Int)) : List (List Int) := (List.range (ncol R)).map fun k => (List.range R.length).map fun i => mx R i k
theorem trn_len (R : List (List Int)) : (trn R).length = ncol R := by unfold trn; simp
theorem trn_ro {R : List (List Int)} {k : Nat} (h : k < ncol R) : ro (trn R) k = (List.range R.length).map fun i => mx R i k := ro_map _ h
def trnP (R : List (List Int)) (n k i : Nat) : List (List Int) := (List.range n).map fun j => if j < k then (List.range R.length).map (fun t => mx R t j) else if j = k then (List.range i).map (fun t => mx R t j) else []
theorem trnP_len (R : List (List Int)) (n k i : Nat) : (trnP R n k i).length = n := by unfold trnP; simp
theorem trnP_ro (R : List (List Int)) {n : Nat} (k i : Nat) {j : Nat} (h : j < n) : ro (trnP R n k i) j = if j < k then (List.range R.length).map (fun t => mx R t j) else if j = k then (List.range i).map (fun t => mx R t j) else [] := ro_map _ h
theorem trnP_here (R : List (List Int)) {n k : Nat} (i : Nat) (h : k < n) : ro (trnP R n k i) k = (List.range i).map (fun t => mx R t k) := by rw [trnP_ro R k i h, if_neg (by omega), if_pos rfl]
theorem trnP_next (R : List (List Int)) {n k : Nat} (i : Nat) (h : k < n) : (trnP R n k i).set k ((List.range i).map (fun t => mx R t k) ++ [mx R i k]) = trnP R n k (i + 1) :=
  rows_ext (by rw [List.length_set, trnP_len, trnP_len]) fun j hj => by
    rw [List.length_set, trnP_len] at hj
    rw [ro_set (by rw [trnP_len]; exact h), trnP_ro R k i hj, trnP_ro R k (i + 1) hj]
    by_cases e : j = k
    · subst e; rw [if_pos rfl, if_neg (by omega), if_pos rfl, map_next]
    · rw [if_neg e]
      by_cases h2 : j < k
      · rw [if_pos h2, if_pos h2]
      · rw [if_neg h2, if_neg h2, if_neg e, if_neg e]
theorem trnP_row (R : List (List Int)) (n k : Nat) : trnP R n k R.length = trnP R n (k + 1) 0 :=
  rows_ext (by rw [trnP_len, trnP_len]) fun j hj => by
    rw [trnP_len] at hj
    rw [trnP_ro R k _ hj, trnP_ro R (k + 1) 0 hj]
    by_cases h1 : j < k
    · rw [if_pos h1, if_pos (by omega)]
    · rw [if_neg h1]
      by_cases h2 : j = k
      · rw [if_pos h2, if_pos (by omega)]
      · rw [if_neg h2, if_neg (by omega)]
        by_cases h3 : j = k + 1
        · rw [if_pos h3]; rfl
        · rw [if_neg h3]
theorem trnP_done (R : List (List Int)) : trnP R (ncol R) (ncol R) 0 = trn R := rows_ext (by rw [trnP_len, trn_len]) fun j hj => by
  rw [trnP_len] at hj
  rw [trnP_ro R _ _ hj, if_pos hj, trn_ro hj]
theorem trnP_zero (R : List (List Int)) (n j : Nat) : ro (trnP R n 0 0) j = [] := by
  by_cases h : j < n
  · rw [trnP_ro R 0 0 h, if_neg (by omega)]
    split <;> rfl
  · unfold ro; rw [List.getElem?_eq_none (by rw [trnP_len]; omega)]; rfl

end Go.Proofs.Ytkhiiiggmhncbaa

/- The examples of the document for layer 6 hold: awake returns true. Nothing that lay is changed. No conditions. -/
namespace Go.Proofs.Ytkhiiiggmhncbaa
set_option maxRecDepth 100000
open Go.RowKit PolyMath FieldMath MatMath

theorem Sll.lit1 (w : World) {A1 : Option Addr} {c1 : Nat} {r1 : List Int} (h1 : Sl w A1 c1 r1) :
    Sll (w.alloc (.cells #[.slice A1 r1.length c1] 22)) (some ⟨w.heap.size, 0, none⟩) 1 [r1] := by
  refine ⟨Nat.le_refl _, (fun h => by cases h), fun ad e _ => ?_⟩
  injection e with e
  subst e
  refine ⟨w.heap.size, 0, rfl, by simp, fun j r hr => ?_⟩
  rw [cell_of_row _ w.heap.size (0 + j) _ 22 (0, 0) (World.alloc_heap_new w _), Nat.zero_add]
  match j, hr with
  | 0, hr => simp at hr; subst hr; exact ⟨A1, c1, rfl, h1.push _⟩
  | n + 1, hr => simp at hr

theorem el_dec6 {p : Int} {xs : List Int} (h : (xs.all fun x => decide (0 ≤ x) && decide (x < p)) = true) : El p xs := fun x hx => by
  have := List.all_eq_true.1 h x hx
  simpa using this
theorem els_dec {p : Int} {rows : List (List Int)} (h : (rows.all fun xs => xs.all fun x => decide (0 ≤ x) && decide (x < p)) = true) : ∀ r ∈ rows, El p r := fun r hr => el_dec6 (List.all_eq_true.1 h r hr)
theorem sized_dec {rows : List (List Int)} (h : (decide (rows.length ≤ 100) && rows.all fun r => decide (r.length ≤ 100)) = true) : Sized rows := by
  rw [Bool.and_eq_true, decide_eq_true_eq, List.all_eq_true] at h
  exact .of h.1 fun r hr => by simpa using h.2 r hr
abbrev exM : List (List Int) := [[1, 2], [3, 4]]
abbrev exS : List (List Int) := [[1, 2], [2, 4]]
end Go.Proofs.Ytkhiiiggmhncbaa

/- Arguments of layer 6's laws: a word, a slice of words, a slice of slices of words, the struct Operands; they read behind the call as before where only new memory was made. No conditions. -/
namespace Go.Proofs.Ytkhiiiggmhncbaa
set_option maxRecDepth 100000
open Go.ChangeShapes Go.WideShapes Go.ChangeAt Go.RowKit Go.Joins Go.Deep Go.WideElems PolyMath MatMath

theorem cells_row : Try.prog.cellsOf 22 = 1 := by kernel_rfl
section
variable {H : Type} {enc : TypeId × Value → H}
theorem open_ll {W : World} {v : Value} {fuel : Nat} {y : DataW H × List MemPlace} (hf : DataW.trod enc Try.prog W 0 (fun _ => true) true fuel 24 [v] = some y) (hlt : ∀ x ∈ y.2, x.block < W.heap.size) :
    ∃ A rows c, v = .slice A rows.length c ∧ Sll W A c rows ∧ (∀ r ∈ rows, Words r) ∧ rows.length ≤ 9223372036854775807 := by
  rcases Deep.open_int_rows Try.underlying24 Try.underlying22 Try.underlying31 cells_row cells_u64 hf with ⟨hcs, hx⟩ | ⟨a, len', cap', A, L, C, Z, hcs, _, hl, hm, hx, hall⟩
  · injection hcs with hcs _
    subst hcs
    exact ⟨none, [], 0, rfl, Sll.nothing W, fun l hl => (by cases hl), Nat.zero_le _⟩
  · injection hcs with hcs _
    subst hcs hx
    have hlen : ∀ r, r < len' → ((Z r).take (L r)).length = L r := fun r hr => by
      obtain ⟨_, h1, _, h3, _⟩ := hall r (by omega)
      rw [List.length_take]
      omega
    refine ⟨some a, (List.range len').map fun r => (Z r).take (L r), cap', by rw [List.length_map, List.length_range], ⟨by rw [List.length_map, List.length_range]; omega, (fun h => by cases h), fun ad e hn => ?_⟩, fun l hl x hx => ?_, by rw [List.length_map, List.length_range]; simp only [maxLen] at hm; omega⟩
    · injection e with e
      subst e
      have hpos : 0 < len' := by
        rcases Nat.eq_zero_or_pos len' with h0 | h0
        · rw [h0] at hn; exact absurd rfl hn
        · exact h0
      obtain ⟨b, off, spot⟩ := a
      have hspot : spot = none := by simpa [Addr.add] using World.cell?_spot (hall 0 (by omega)).1
      subst hspot
      refine ⟨b, off, rfl, hlt (.cell b off) (List.mem_append_left _ (MemPlace.mem_row.2 ⟨0, by omega, by simp⟩)), fun j l hl => ?_⟩
      rw [List.getElem?_map] at hl
      obtain ⟨r, hr, rfl⟩ := Option.map_eq_some_iff.1 hl
      obtain ⟨hjl, rfl⟩ := List.getElem?_eq_some_iff.1 hr
      rw [List.length_range] at hjl
      simp only [List.getElem_range]
      obtain ⟨h1, h2, h3, h4, h5, h6, h7⟩ := hall j (by omega)
      refine ⟨A j, C j, by rw [hlen j hjl, ← add_plain]; exact h1, by rw [hlen j hjl]; omega, h6, fun ar hA hne => ?_⟩
      have hLp : 0 < L j := by
        rcases Nat.eq_zero_or_pos (L j) with h0 | h0
        · rw [h0, List.take_zero] at hne; exact absurd rfl hne
        · exact h0
      obtain ⟨_, hc⟩ := h7 ar hA
      obtain ⟨b2, off2, spot2⟩ := ar
      have hspot2 : spot2 = none := by simpa [Addr.add] using World.cell?_spot (hc 0 (by omega))
      subst hspot2
      refine ⟨b2, off2, rfl, ?_, fun i x hx => ?_⟩
      · refine hlt (.cell b2 off2) (List.mem_append_right _ (List.mem_flatMap.2 ⟨j, List.mem_range.2 (by omega), ?_⟩))
        simp only [Deep.intRowPlaces, hA]
        exact MemPlace.mem_row.2 ⟨0, by omega, by simp⟩
      · have hi : i < L j := by have := (List.getElem?_eq_some_iff.1 hx).1; rw [hlen j hjl] at this; exact this
        rw [← add_plain, hc i (by omega)]
        rw [List.getElem?_take, if_pos hi] at hx
        rw [List.getD_eq_getElem?_getD, hx]; rfl
    · obtain ⟨r, hr, rfl⟩ := List.mem_map.1 hl
      rw [List.mem_range] at hr
      obtain ⟨_, _, _, _, h5, _⟩ := hall r (by omega)
      have h1 := h5 x (List.mem_of_mem_take hx)
      have e1 : IntKind.u64.min = 0 := rfl
      have e2 : IntKind.u64.max = 18446744073709551615 := rfl
      simp only [Lit.wf, Bool.and_eq_true, decide_eq_true_eq] at h1
      omega
theorem arg_ll {W : World} {base : Nat} {v : Value} {d : DataW H} {p : List MemPlace} (hval : Value.okWide Try.prog W .any base 24 v) (h : DataW.Trod enc Try.prog W 0 (fun _ => true) true 24 v d p) (hlt : ∀ x ∈ p, x.block < W.heap.size) :
    ∃ A rows c, v = .slice A rows.length c ∧ Sll W A c rows ∧ (∀ r ∈ rows, Words r) ∧ rows.length ≤ 9223372036854775807 := by
  obtain ⟨a0, len, cap, rfl⟩ := okWide_slice Try.underlying24 hval
  obtain ⟨fuel, hf⟩ := h
  simp only [Value.cells] at hf
  exact open_ll hf hlt
theorem stay_ll {W W' : World} {v : Value} {d : DataW H} {p : List MemPlace} (h : DataW.Trod enc Try.prog W 0 (fun _ => true) true 24 v d p) (hb : Below W.heap.size W W') (hlt : ∀ x ∈ p, x.block < W.heap.size) (sp : Nat → Bool) (hsp : ∀ x ∈ p, sp x.block = true) :
    DataW.Trod enc Try.prog W' 0 sp true 24 v d p :=
  WideElems.Trod_stays laidOut (by kernel_rfl) (of_decide_eq_true (by kernel_rfl)) h (fun x hx => hb.same (hlt x hx)) hsp
end

/-- What a fair matrix is. -/
theorem fair_is {p : Int} {rows : List (List Int)} {most : Nat} (hm : most ≤ 100) (hw : ∀ r ∈ rows, Words r) (h : fairB p rows most = true) : FieldMath.OkP p ∧ Sized rows ∧ (∀ r ∈ rows, El p r) ∧ rows.length ≤ most ∧ ∀ i, (ro rows i).length ≤ most := by
  unfold fairB at h
  rw [Bool.and_eq_true, decide_eq_true_eq] at h
  obtain ⟨h1, h2, h3⟩ := h
  have hr : ∀ r ∈ rows, r.length ≤ most ∧ ∀ x ∈ r, x < p := fun r hr => by
    obtain ⟨i, hi⟩ := List.mem_iff_getElem?.1 hr
    have h4 := h3 i (List.getElem?_eq_some_iff.1 hi).1
    rw [ro_at hi] at h4
    exact of_decide_eq_true h4
  have hl : ∀ i, (ro rows i).length ≤ most := fun i => by
    by_cases h : i < rows.length
    · exact (hr _ (List.mem_of_getElem? (ro_get h))).1
    · unfold ro; rw [List.getElem?_eq_none (by omega)]; exact Nat.zero_le _
  refine ⟨?_, ⟨by omega, fun i => Nat.le_trans (hl i) hm⟩, fun r hr' => el_of (hw r hr') (hr r hr').2, h2, hl⟩
  rcases sup_cases p with h4 | ⟨_, h4⟩
  · rw [h1] at h4; cases h4
  · exact h4
theorem bel_is {p : Int} {xs : List Int} {most : Nat} (hw : Words xs) (h : belB p xs most = true) : El p xs ∧ xs.length ≤ most := by
  have := of_decide_eq_true h
  exact ⟨el_of hw this.2, this.1⟩
end Go.Proofs.Ytkhiiiggmhncbaa

/- What the answers of package matrix mean, with no walk in sight: rank, determinant, product, transpose, solutions, inverse on lists of rows. Conditions: a supported prime, words of its field, rectangular matrices where said. -/
namespace Go.Proofs.Ytkhiiiggmhncbaa
set_option maxRecDepth 100000
open PolyMath FieldMath MatMath

section
variable {p : Int}
/-! ### Sizes -/
theorem _root_.MatMath.Mat.isRect {N L : Nat} {A : List (List Int)} (h : Mat p N L A) : rect A = true := rect_iff.2 fun i hi => by
  rw [h.rows] at hi
  unfold ncol
  rw [(h.ro hi).1, (h.ro (i := 0) (by omega)).1]
theorem _root_.MatMath.Mat.cols {N L : Nat} {A : List (List Int)} (h : Mat p N L A) (hN : 0 < N) : ncol A = L := (h.ro hN).1
theorem _root_.MatMath.Mat.els {N L : Nat} {A : List (List Int)} (h : Mat p N L A) : ∀ r ∈ A, El p r := fun r hr => (h.row r hr).2
theorem _root_.MatMath.Mat.sized {N L : Nat} {A : List (List Int)} (h : Mat p N L A) (h1 : N ≤ 100) (h2 : L ≤ 100) : Sized A := .of (by rw [h.rows]; exact h1) fun r hr => by rw [(h.row r hr).1]; exact h2
theorem _root_.MatMath.Mat.eqv {N L : Nat} {A B : List (List Int)} (hp : 0 < p) (hA : Mat p N L A) (hB : Mat p N L B) (h : ∀ r c, r < N → c < L → mx A r c % p = mx B r c % p) : A = B :=
  rows_ext (by rw [hA.rows, hB.rows]) fun i hi => by
    rw [hA.rows] at hi
    refine list_ext (by rw [(hA.ro hi).1, (hB.ro hi).1]) fun c => ?_
    by_cases hc : c < L
    · have h1 := h i c hi hc
      have b1 := hA.bd hp i c
      have b2 := hB.bd hp i c
      rw [small b1.1 b1.2, small b2.1 b2.2] at h1
      exact h1
    · rw [co_fin _ c (by rw [(hA.ro hi).1]; omega), co_fin _ c (by rw [(hB.ro hi).1]; omega)]

/-! ### Rank and determinant -/
theorem rnk_rr (hg : GoodI p) {A : List (List Int)} (hr : rect A = true) (hE : ∀ r ∈ A, El p r) : ∃ pv, RR p A.length (ncol A) (mx A) (rnk p A) pv := by
  have h := elim_ok hg (mat_of hr hE) (ncol A)
  obtain ⟨e, h1, _⟩ := h.re
  exact ⟨_, e, _, h1, h.ech⟩
theorem dtm_det (hg : GoodI p) {A : List (List Int)} (hr : squ A = true) (hE : ∀ r ∈ A, El p r) : dtm p A = det A.length (mx A) % p := by
  have hp := hg.two
  obtain ⟨q1, q2, q3⟩ := squ_iff.1 hr
  have h := elim_ok hg (mat_of q3 hE) A.length
  obtain ⟨e, h1, h2⟩ := h.re
  have hd := h.db
  unfold dtm
  rcases det_cases (by omega) h1 h.ech with ⟨hs, h0⟩ | ⟨hs, h0, _⟩
  · rw [if_pos hs, h0]
  · rw [if_neg (by omega)]
    have e1 : (elim p A A.length).d * (e * det A.length (mx A)) % p = det A.length (mx A) % p := by
      rw [← Int.mul_assoc, Int.mul_comm (elim p A A.length).d e, Int.mul_emod, h2, Int.one_mul, mdd]
    rw [← e1, Int.mul_emod, h0, Int.mul_one, mdd]
    exact (small hd.1 hd.2).symm
theorem dtm_bd (hg : GoodI p) {A : List (List Int)} (hr : squ A = true) (hE : ∀ r ∈ A, El p r) : 0 ≤ dtm p A ∧ dtm p A < p := by
  have := hg.two
  rw [dtm_det hg hr hE]; exact md _ _ (by omega)
theorem dtm_zero (hg : GoodI p) {A : List (List Int)} (hr : squ A = true) (hE : ∀ r ∈ A, El p r) : dtm p A = 0 ↔ rnk p A < A.length := by
  have hp := hg.two
  obtain ⟨q1, q2, q3⟩ := squ_iff.1 hr
  have h := elim_ok hg (mat_of q3 hE) A.length
  obtain ⟨e, h1, _⟩ := h.re
  rw [dtm_det hg hr hE]
  unfold rnk
  rw [← q2]
  rcases det_cases (by omega) h1 h.ech with ⟨hs, h0⟩ | ⟨hs, h0, _⟩
  · exact ⟨fun _ => hs, fun _ => h0⟩
  · refine ⟨fun h5 => ?_, fun h5 => by omega⟩
    rw [Int.mul_emod, h5, Int.mul_zero, Int.zero_emod] at h0
    cases h0

/-! ### Products -/
theorem mulM_mx {A : List (List Int)} (B : List (List Int)) {l r c : Nat} (hr : r < A.length) (hl : (ro A r).length = l) (hc : c < ncol B) : mx (mulM p A B) r c = mat l (mx A) (mx B) r c % p := by
  rw [mx_ro, mulM_ro p B hr]
  unfold mulR
  rw [co_map, if_pos hc, hl]; rfl
theorem mulM_sq (hp : 0 < p) {A B : List (List Int)} (ha : squ A = true) (hb : squ B = true) (hn : ncol A = B.length) : squ (mulM p A B) = true := by
  obtain ⟨a1, a2, a3⟩ := squ_iff.1 ha
  obtain ⟨b1, b2, b3⟩ := squ_iff.1 hb
  have hM := mulM_mat (p := p) hp A B
  exact squ_iff.2 ⟨by rw [mulM_len]; exact a1, by rw [mulM_len, hM.cols a1]; omega, hM.isRect⟩
theorem mul_assoc_rows (hp : 0 < p) {A B C : List (List Int)} (ha : rect A = true) (hb : rect B = true) (h1 : ncol A = B.length) (hB : 0 < B.length) : mulM p (mulM p A B) C = mulM p A (mulM p B C) := by
  have hA : 0 < A.length := ncol_pos (by omega)
  have hAB := mulM_mat (p := p) hp A B
  have hBC := mulM_mat (p := p) hp B C
  have hL := mulM_mat (p := p) hp (mulM p A B) C
  have hR := mulM_mat (p := p) hp A (mulM p B C)
  rw [mulM_len] at hL
  rw [hBC.cols hB] at hR
  refine Mat.eqv hp hL hR fun r c hr hc => ?_
  have ra := rect_iff.1 ha r hr
  rw [mulM_mx C (l := ncol B) (by rw [mulM_len]; exact hr) (hAB.ro hr).1 hc, mulM_mx (mulM p B C) (l := B.length) hr (by rw [ra, h1]) (by rw [hBC.cols hB]; exact hc)]
  rw [mdd, mdd]
  have e1 : mat (ncol B) (mx (mulM p A B)) (mx C) r c % p = mat (ncol B) (mat B.length (mx A) (mx B)) (mx C) r c % p := sg_mod _ fun j hj => mm (by rw [mulM_mx B (l := B.length) hr (by rw [ra, h1]) hj, mdd]) rfl
  have e2 : mat B.length (mx A) (mx (mulM p B C)) r c % p = mat B.length (mx A) (mat (ncol B) (mx B) (mx C)) r c % p := sg_mod _ fun j hj => mm rfl (by rw [mulM_mx C (l := ncol B) hj (rect_iff.1 hb j hj) hc, mdd])
  rw [e1, e2, mat_assoc]
theorem rank_mul (hg : GoodI p) {A B : List (List Int)} (ha : rect A = true) (hb : rect B = true) (eA : ∀ r ∈ A, El p r) (eB : ∀ r ∈ B, El p r) (h1 : ncol A = B.length) : rnk p (mulM p A B) ≤ rnk p A ∧ rnk p (mulM p A B) ≤ rnk p B := by
  have hp := hg.two
  have hM := mulM_mat (p := p) (by omega) A B
  obtain ⟨pM, rM⟩ := rnk_rr hg hM.isRect hM.els
  obtain ⟨pA, rA⟩ := rnk_rr hg ha eA
  obtain ⟨pB, rB⟩ := rnk_rr hg hb eB
  by_cases h0 : 0 < A.length
  · rw [mulM_len, hM.cols h0] at rM
    rw [h1] at rA
    have e : ∀ r c, r < A.length → c < ncol B → mx (mulM p A B) r c % p = mat B.length (mx A) (mx B) r c % p := fun r c hr hc => by
      rw [mulM_mx B (l := B.length) hr (by rw [rect_iff.1 ha r hr, h1]) hc, mdd]
    exact ⟨rank_left hg e rM rA, rank_right (by omega) e rM rB⟩
  · have := rM.rows
    rw [mulM_len] at this
    omega
theorem det_mulM (hg : GoodI p) {A B : List (List Int)} (ha : squ A = true) (hb : squ B = true) (eA : ∀ r ∈ A, El p r) (eB : ∀ r ∈ B, El p r) (h1 : ncol A = B.length) : dtm p (mulM p A B) = fmul p (dtm p A) (dtm p B) := by
  have hp := hg.two
  obtain ⟨a1, a2, a3⟩ := squ_iff.1 ha
  obtain ⟨b1, b2, b3⟩ := squ_iff.1 hb
  have hM := mulM_mat (p := p) (by omega) A B
  rw [dtm_det hg (mulM_sq (by omega) ha hb h1) hM.els, dtm_det hg ha eA, dtm_det hg hb eB, mulM_len]
  have hBA : B.length = A.length := by omega
  rw [hBA]
  have e : ∀ r c, r < A.length → c < A.length → mx (mulM p A B) r c % p = mat A.length (mx A) (mx B) r c % p := fun r c hr hc => by
    rw [mulM_mx B (l := A.length) hr (by rw [rect_iff.1 a3 r hr]; omega) (by omega), mdd]
  rw [det_mod _ e, MatMath.det_mul hg]
  unfold fmul
  rw [← Int.mul_emod]

/-! ### The transpose -/
theorem trn_mat {N L : Nat} {A : List (List Int)} (hp : 0 < p) (h : Mat p N L A) (hN : 0 < N) : Mat p L N (trn A) := .of (by rw [trn_len, h.cols hN]) fun i hi => by
  rw [trn_ro (by rw [h.cols hN]; exact hi)]
  refine ⟨by simp [h.rows], fun x hx => ?_⟩
  obtain ⟨j, _, rfl⟩ := List.mem_map.1 hx
  exact h.bd hp j i
theorem trn_mx {A : List (List Int)} {r c : Nat} (hr : r < ncol A) (hc : c < A.length) : mx (trn A) r c = mx A c r := by
  rw [mx_ro, trn_ro hr, co_map, if_pos hc]
theorem trn_rank (hg : GoodI p) {A : List (List Int)} (hr : rect A = true) (hE : ∀ r ∈ A, El p r) (h0 : 0 < A.length) (h1 : 0 < ncol A) : rnk p A = rnk p (trn A) ∧ rnk p A ≤ A.length ∧ rnk p A ≤ ncol A := by
  have hp := hg.two
  have hT := trn_mat (p := p) (by omega) (mat_of hr hE) h0
  obtain ⟨pA, rA⟩ := rnk_rr hg hr hE
  obtain ⟨pT, rT⟩ := rnk_rr hg hT.isRect hT.els
  rw [trn_len, hT.cols h1] at rT
  obtain ⟨d, B, t1, t2⟩ := rT
  obtain ⟨s, pv, hs⟩ := rr_ex hg (ncol A) A.length (tr (mx A))
  have e := rr_left (A := mx (trn A)) (M := tr (mx A)) (by omega) (fun r c hr hc => by rw [trn_mx hr hc]; rfl) t1 t2 hs
  have e2 := rank_tr hg rA hs
  exact ⟨by rw [e2, e.1], rA.rows, rA.cols⟩
theorem trn_squ {A : List (List Int)} (hr : rect A = true) (hE : ∀ r ∈ A, El p r) (hp : 0 < p) (h0 : 0 < A.length) (h1 : 0 < ncol A) : squ (trn A) = squ A := by
  have hT := trn_mat (p := p) hp (mat_of hr hE) h0
  rw [Bool.eq_iff_iff, squ_iff, squ_iff, trn_len, hT.cols h1]
  constructor
  · rintro ⟨_, e, _⟩; exact ⟨h0, e.symm, hr⟩
  · rintro ⟨_, e, _⟩; exact ⟨h1, e.symm, hT.isRect⟩
theorem trn_det (hg : GoodI p) {A : List (List Int)} (hr : squ A = true) (hE : ∀ r ∈ A, El p r) : dtm p (trn A) = dtm p A := by
  have hp := hg.two
  obtain ⟨q1, q2, q3⟩ := squ_iff.1 hr
  have hT := trn_mat (p := p) (by omega) (mat_of q3 hE) q1
  rw [dtm_det hg (by rw [trn_squ q3 hE (by omega) q1 (by omega)]; exact hr) hT.els, dtm_det hg hr hE, trn_len, ← q2]
  rw [det_mod (p := p) A.length (B := tr (mx A)) (fun r c hr hc => by rw [trn_mx (by omega) hc]; rfl)]
  exact det_tr hg _ _

/-! ### Solutions -/
theorem _root_.MatMath.RE.colsOf {m : Nat} {d : Int} {A B : Nat → Nat → Int} (h : RE p m d A B) (f : Nat → Nat) : RE p m d (fun r c => A r (f c)) (fun r c => B r (f c)) := by
  induction h with
  | same h => exact .same fun r c hr => h r (f c) hr
  | @swap A r s hr hs hne =>
    have := RE.swap (p := p) (A := fun r c => A r (f c)) hr hs hne
    refine cast ?_ this
    congr 1 <;> (funext i c; unfold upd; split <;> first | rfl | (split <;> rfl))
  | @scale A r k k' hr hk =>
    have := RE.scale (p := p) (A := fun r c => A r (f c)) hr hk
    refine cast ?_ this
    congr 1 <;> (funext i c; unfold upd; split <;> rfl)
  | @add A r s k hr hs hne =>
    have := RE.add (p := p) (A := fun r c => A r (f c)) (k := k) hr hs hne
    refine cast ?_ this
    congr 1 <;> (funext i c; unfold upd; split <;> rfl)
  | trans _ _ i1 i2 => exact i1.trans i2
theorem _root_.MatMath.Ech.congN {m n s : Nat} {B C : Nat → Nat → Int} {pv : Nat → Nat} (h : Ech p m n B s pv) (e : ∀ r c, r < m → c < n → C r c % p = B r c % p) : Ech p m n C s pv :=
  ⟨h.len, h.lt, h.inc, fun i r hi hr => by rw [e r _ hr (h.lt i hi)]; exact h.unit i r hi hr,
    fun i r c hi hir hr hc => by rw [e r c hr (Nat.lt_trans hc (h.lt i hi))]; exact h.low i r c hi hir hr hc, fun r c h1 h2 h3 => by rw [e r c h2 h3]; exact h.rest r c h1 h2 h3⟩
/-- The elimination of the rows with one word more, as a system. -/
theorem aug_re (hg : GoodI p) {A : List (List Int)} {b : List Int} (hr : rect A = true) (hE : ∀ r ∈ A, El p r) (hb : El p b) :
    ∃ e B, RE p A.length e (aug (ncol A) (mx A) (co b)) B ∧ Ech p A.length (ncol A) B (elim p (augL A b) (ncol A)).pv.length (fun i => (elim p (augL A b) (ncol A)).pv.getD i 0) ∧ (∀ r, B r (ncol A) = mx (elim p (augL A b) (ncol A)).R r (ncol A)) ∧ Mat p A.length (ncol A + 1) (elim p (augL A b) (ncol A)).R := by
  have hp := hg.two
  have hm := augL_mat (p := p) (by omega) (mat_of hr hE) hb
  have h := elim_ok hg hm (ncol A)
  obtain ⟨e, h1, _⟩ := h.re
  refine ⟨1 * e * 1, fun r c => mx (elim p (augL A b) (ncol A)).R r (min c (ncol A)), ?_, h.ech.congN fun r c _ hc => by rw [show min c (ncol A) = c by omega], fun r => by show mx _ r (min (ncol A) (ncol A)) = _; rw [Nat.min_self], h.mat⟩
  have h2 := (RE.same (A := aug (ncol A) (mx A) (co b)) (B := fun r c => mx (augL A b) r (min c (ncol A))) fun r c hr' => ?_).trans (h1.colsOf fun c => min c (ncol A))
  · rw [Int.one_mul]; exact h2
  · congr 1
    have hl : (ro A r).length = ncol A := rect_iff.1 hr r hr'
    unfold aug
    show _ = co (ro (augL A b) r) (min c (ncol A))
    unfold augL
    rw [augK_ro b _ hr', if_pos hr']
    by_cases hc : c < ncol A
    · rw [if_pos hc, show min c (ncol A) = c by omega, mx_ro]
      unfold co; rw [List.getElem?_append_left (by omega)]
    · rw [if_neg hc, show min c (ncol A) = ncol A by omega]
      show co b r = (ro A r ++ [co b r])[ncol A]?.getD 0
      rw [List.getElem?_append_right (by omega), show ncol A - (ro A r).length = 0 by omega]; rfl
theorem solF_co {S : ES} {n : Nat} : ∀ i, (∀ a b, a < b → b < i → S.pv.getD a 0 < S.pv.getD b 0) → (∀ a, a < i → S.pv.getD a 0 < n) → ∀ j, co (solF S n i) j = bsol i (fun a => S.pv.getD a 0) (fun a => mx S.R a n) j
  | 0, _, _, j => by
    show co (List.replicate n 0) j = 0
    unfold co
    rw [List.getElem?_replicate]
    split <;> rfl
  | i + 1, hi, hl, j => by
    have ih := solF_co i (fun a b h1 h2 => hi a b h1 (by omega)) (fun a h => hl a (by omega)) j
    show co ((solF S n i).set (S.pv.getD i 0) (mx S.R i n)) j = sg i (fun a => if S.pv.getD a 0 = j then mx S.R a n else 0) + (if S.pv.getD i 0 = j then mx S.R i n else 0)
    by_cases e : S.pv.getD i 0 = j
    · subst e
      have h0 : bsol i (fun a => S.pv.getD a 0) (fun a => mx S.R a n) (S.pv.getD i 0) = 0 := bsol_else _ fun a ha e => by have := hi a i ha (by omega); omega
      have h0' : sg i (fun a => if S.pv.getD a 0 = S.pv.getD i 0 then mx S.R a n else 0) = 0 := h0
      rw [h0', if_pos rfl, Int.zero_add]
      exact co_at (List.getElem?_set_self (by rw [solF_len]; exact hl i (by omega)))
    · rw [if_neg e, Int.add_zero]
      unfold co
      rw [List.getElem?_set_ne e]
      exact ih
theorem solF_el {S : ES} {n N L : Nat} (hp : 0 < p) (h : Mat p N L S.R) : ∀ i, El p (solF S n i)
  | 0 => fun x hx => by have := List.eq_of_mem_replicate hx; omega
  | i + 1 => fun x hx => by
    rcases List.mem_or_eq_of_mem_set hx with h1 | h1
    · exact solF_el hp h i x h1
    · subst h1; exact h.bd hp i n
/-- m applied to x is b. -/
theorem app_sol {A : List (List Int)} {b x : List Int} (hr : rect A = true) (hb : El p b) (hp : 0 < p) (hn : A.length = b.length) : app p A x = b ↔ Sol p A.length (ncol A) (mx A) (co b) (co x) := by
  constructor
  · intro h r hr'
    have h1 : co (app p A x) r = co b r := by rw [h]
    unfold app at h1
    rw [co_map, if_pos hr'] at h1
    unfold dot at h1
    rw [rect_iff.1 hr r hr'] at h1
    rw [← h1, mdd]; rfl
  · intro h
    refine list_ext (by rw [app_len, hn]) fun r => ?_
    unfold app
    rw [co_map]
    by_cases hr' : r < A.length
    · rw [if_pos hr']
      unfold dot
      rw [rect_iff.1 hr r hr']
      have h1 := h r hr'
      rw [hb.cm hp r] at h1
      exact h1
    · rw [if_neg hr', co_fin b r (by omega)]
theorem slv_some (hg : GoodI p) {A : List (List Int)} {b x : List Int} (hr : rect A = true) (hE : ∀ r ∈ A, El p r) (hb : El p b) (hn : A.length = b.length) (h : slv p A b = some x) : app p A x = b ∧ x.length = ncol A ∧ El p x := by
  have hp := hg.two
  obtain ⟨e, B, h1, h2, h3, h4⟩ := aug_re hg hr hE hb
  unfold slv at h
  split at h
  · cases h
  · rename_i hf
    injection h with h
    have hf' : fnd (elim p (augL A b) (ncol A)).R (elim p (augL A b) (ncol A)).pv.length (ncol A) = none := by
      cases hq : fnd (elim p (augL A b) (ncol A)).R (elim p (augL A b) (ncol A)).pv.length (ncol A) with
      | none => rfl
      | some q => rw [hq] at hf; exact absurd rfl hf
    subst h
    refine ⟨(app_sol hr hb (by omega) hn).2 ?_, solF_len _ _ _, solF_el (by omega) h4 _⟩
    have hs := solve_ok h1 h2 fun r hs hr' => by rw [h3, fnd_none.1 hf' r hs (by rw [h4.rows]; exact hr'), Int.zero_emod]
    intro r hr'
    have := hs r hr'
    rw [← this]
    congr 1
    exact sg_congr _ fun j _ => by
      rw [solF_co _ h2.inc h2.lt]
      congr 1
      exact sg_congr _ fun a _ => by dsimp only; rw [h3]
theorem slv_none (hg : GoodI p) {A : List (List Int)} {b : List Int} (hr : rect A = true) (hE : ∀ r ∈ A, El p r) (hb : El p b) (h : slv p A b = none) :
    (∀ x : Nat → Int, ¬ Sol p A.length (ncol A) (mx A) (co b) x) ∧ ∃ y : Nat → Int, (∀ c, c < ncol A → sg A.length (fun i => mx A i c * y i) % p = 0) ∧ sg A.length (fun i => co b i * y i) % p = 1 := by
  have hp := hg.two
  obtain ⟨e, B, h1, h2, h3, h4⟩ := aug_re hg hr hE hb
  unfold slv at h
  split at h
  · rename_i hf
    obtain ⟨q, hq⟩ := Option.isSome_iff_exists.1 hf
    obtain ⟨f1, f2, _⟩ := fnd_some.1 hq
    rw [h4.rows] at f1
    have hb2 := h4.bd (p := p) (by omega) ((elim p (augL A b) (ncol A)).pv.length + q) (ncol A)
    have h5 : B ((elim p (augL A b) (ncol A)).pv.length + q) (ncol A) % p ≠ 0 := by rw [h3, small hb2.1 hb2.2]; exact f2
    exact ⟨fun x => solve_no h1 h2 (by omega) f1 h5 x, solve_witness hg h1 h2 (by omega) f1 h5⟩
  · cases h
/-- Where there is a solution, Solve finds one. -/
theorem slv_ex (hg : GoodI p) {A : List (List Int)} {b : List Int} (hr : rect A = true) (hE : ∀ r ∈ A, El p r) (hb : El p b) (hn : A.length = b.length) {x : Nat → Int} (hx : Sol p A.length (ncol A) (mx A) (co b) x) : ∃ y, slv p A b = some y ∧ app p A y = b ∧ y.length = ncol A ∧ El p y := by
  cases h : slv p A b with
  | none => exact absurd hx ((slv_none hg hr hE hb h).1 x)
  | some y => exact ⟨y, rfl, slv_some hg hr hE hb hn h⟩
theorem dot_comm {a b : List Int} (h : a.length = b.length) : dot p a b = dot p b a := by
  unfold dot; rw [h]; congr 1
  exact sg_congr _ fun j _ => Int.mul_comm _ _

/-! ### The inverse -/
theorem unitL_co (n i c : Nat) (hc : c < n) : co (unitL n i) c = one i c := by
  unfold unitL one
  by_cases e : i = c
  · subst e; rw [if_pos rfl]; exact co_at (List.getElem?_set_self (by simpa using hc))
  · rw [if_neg e]; unfold co; rw [List.getElem?_set_ne e, List.getElem?_replicate, if_pos hc]; rfl
theorem unitL_fin (n i c : Nat) (hc : ¬ c < n) : co (unitL n i) c = 0 := co_fin _ c (by rw [unitL_len]; omega)
theorem oneL_mat (hp : 1 < p) (n : Nat) : Mat p n n (oneL n) := .of (oneL_len n) fun i hi => by
  have : ro (oneL n) i = unitL n i := ro_map _ hi
  rw [this]; exact ⟨unitL_len n i, unitL_el hp n i⟩
theorem oneL_mx {n r c : Nat} (hr : r < n) (hc : c < n) : mx (oneL n) r c = one r c := by
  have : ro (oneL n) r = unitL n r := ro_map _ hr
  rw [mx_ro, this, unitL_co n r c hc]
theorem agi_re (hg : GoodI p) {A : List (List Int)} (hr : squ A = true) (hE : ∀ r ∈ A, El p r) :
    ∃ e, RE p A.length e (augI A.length (mx A)) (mx (elim p (agiL A) A.length).R) ∧ Ech p A.length A.length (mx (elim p (agiL A) A.length).R) (elim p (agiL A) A.length).pv.length (fun i => (elim p (agiL A) A.length).pv.getD i 0) ∧ Mat p A.length (A.length + A.length) (elim p (agiL A) A.length).R := by
  have hp := hg.two
  obtain ⟨q1, q2, q3⟩ := squ_iff.1 hr
  have hm0 := mat_of q3 hE
  rw [← q2] at hm0
  have h := elim_ok hg (agiL_mat (p := p) (by omega) hm0) A.length
  obtain ⟨e, h1, _⟩ := h.re
  refine ⟨_, (RE.same (A := augI A.length (mx A)) (B := mx (agiL A)) fun r c hr' => ?_).trans h1, h.ech, h.mat⟩
  congr 1
  unfold augI
  rw [mx_ro (agiL A)]
  unfold agiL
  rw [agiK_ro _ hr', if_pos hr']
  have hl := (hm0.ro hr').1
  by_cases hc : c < A.length
  · rw [if_pos hc, mx_ro]
    unfold co; rw [List.getElem?_append_left (by omega)]
  · rw [if_neg hc]
    have e1 : co (ro A r ++ unitL A.length r) c = co (unitL A.length r) (c - A.length) := by
      unfold co; rw [List.getElem?_append_right (by omega), hl]
    rw [e1]
    by_cases h2 : c - A.length < A.length
    · rw [unitL_co _ _ _ h2]
    · rw [unitL_fin _ _ _ h2, one_ne (by omega)]
theorem invM_rank (hg : GoodI p) {A : List (List Int)} (hr : squ A = true) (hE : ∀ r ∈ A, El p r) : (elim p (agiL A) A.length).pv.length = rnk p A := by
  have hp := hg.two
  obtain ⟨q1, q2, q3⟩ := squ_iff.1 hr
  obtain ⟨e, h1, h2, _⟩ := agi_re hg hr hE
  obtain ⟨pA, rA⟩ := rnk_rr hg q3 hE
  rw [← q2] at rA
  exact (rr_left (M := mx A) (by omega) (fun r c _ hc => by unfold augI; rw [if_pos hc]) h1 h2 rA).1
theorem invM_none (hg : GoodI p) {A : List (List Int)} (hr : squ A = true) (hE : ∀ r ∈ A, El p r) (h : invM p A = none) : dtm p A = 0 := by
  unfold invM at h
  split at h
  · rename_i hs
    rw [invM_rank hg hr hE] at hs
    exact (dtm_zero hg hr hE).2 hs
  · cases h
theorem invM_some (hg : GoodI p) {A X : List (List Int)} (hr : squ A = true) (hE : ∀ r ∈ A, El p r) (h : invM p A = some X) : dtm p A ≠ 0 ∧ Mat p A.length A.length X ∧ mulM p X A = oneL A.length ∧ mulM p A X = oneL A.length := by
  have hp := hg.two
  obtain ⟨q1, q2, q3⟩ := squ_iff.1 hr
  obtain ⟨e, h1, h2, h4⟩ := agi_re hg hr hE
  have hrk := invM_rank hg hr hE
  have hm0 := mat_of q3 hE
  rw [← q2] at hm0
  unfold invM at h
  split at h
  · cases h
  · rename_i hs
    injection h with h
    have hX : Mat p A.length A.length X := by
      refine .of (by rw [← h, List.length_map]; exact h4.rows) fun i hi => ?_
      have : ro X i = (ro (elim p (agiL A) A.length).R i).drop A.length := by
        rw [← h]
        exact ro_at (by rw [List.getElem?_map, ro_get (by rw [h4.rows]; exact hi)]; rfl)
      rw [this]
      exact ⟨by rw [List.length_drop, (h4.ro hi).1]; omega, El_drop (h4.ro hi).2 _⟩
    have hmx : ∀ r c, r < A.length → mx X r c = mx (elim p (agiL A) A.length).R r (A.length + c) := fun r c hr' => by
      have : ro X r = (ro (elim p (agiL A) A.length).R r).drop A.length := by
        rw [← h]
        exact ro_at (by rw [List.getElem?_map, ro_get (by rw [h4.rows]; exact hr')]; rfl)
      rw [mx_ro, mx_ro, this, co_drop]
    have hfull : (elim p (agiL A) A.length).pv.length = A.length := by have := h2.len; omega
    rw [hfull] at h2
    have hI := inv_read h1 h2
    have hI2 := inv_comm hg hI
    refine ⟨fun h0 => ?_, hX, ?_, ?_⟩
    · have := (dtm_zero hg hr hE).1 h0; omega
    · have hM := mulM_mat (p := p) (by omega) X A
      rw [hX.rows, ← q2] at hM
      refine Mat.eqv (by omega) hM (oneL_mat (by omega) _) fun r c hr' hc => ?_
      rw [mulM_mx A (l := A.length) (by rw [hX.rows]; exact hr') (hX.ro hr').1 (by omega), mdd, oneL_mx hr' hc, ← hI r c hr' hc]
      exact sg_mod _ fun j _ => mm (by rw [hmx r j hr']) rfl
    · have hM := mulM_mat (p := p) (by omega) A X
      rw [hX.cols q1] at hM
      refine Mat.eqv (by omega) hM (oneL_mat (by omega) _) fun r c hr' hc => ?_
      rw [mulM_mx X (l := A.length) hr' (hm0.ro hr').1 (by rw [hX.cols q1]; exact hc), mdd, oneL_mx hr' hc, ← hI2 r c hr' hc]
      exact sg_mod _ fun j hj => mm rfl (by rw [hmx j c hj])
end
end Go.Proofs.Ytkhiiiggmhncbaa

/- For the laws of layer 6: headers of rows in a slice that grows; products and determinants whatever the arguments; a witness of a system without solution; a combination of rows. Conditions: a supported prime, words of its field, at most 100 rows and columns, where said. -/
namespace Go.Proofs.Ytkhiiiggmhncbaa
set_option maxRecDepth 100000
open Go.RowKit PolyMath FieldMath MatMath

theorem HeadsOf.next {w w' : World} {vs : List Value} {rows : List (List Int)} (h : HeadsOf w vs rows) (hb : Below w.heap.size w w') : HeadsOf w' vs rows := fun j hj => by
  obtain ⟨A, c, h1, h2⟩ := h j hj
  exact ⟨A, c, h1, h2.next hb⟩
theorem HeadsOf.snoc {w : World} {vs : List Value} {rows : List (List Int)} {A : Option Addr} {c : Nat} {r : List Int} (h : HeadsOf w vs rows) (hl : vs.length = rows.length) (s : Sl w A c r) : HeadsOf w (vs ++ [.slice A r.length c]) (rows ++ [r]) := fun j hj => by
  rw [List.length_append, List.length_singleton] at hj
  by_cases e : j < rows.length
  · obtain ⟨A', c', h1, h2⟩ := h j e
    have : ro (rows ++ [r]) j = ro rows j := by unfold ro; rw [List.getElem?_append_left e]
    rw [this]
    exact ⟨A', c', by rw [List.getElem?_append_left (by omega)]; exact h1, h2⟩
  · obtain rfl : j = rows.length := by omega
    have : ro (rows ++ [r]) rows.length = r := by unfold ro; rw [List.getElem?_append_right (by omega), Nat.sub_self]; rfl
    rw [this]
    exact ⟨A, c, by rw [List.getElem?_append_right (by omega), show rows.length - vs.length = 0 by omega]; rfl, s⟩
/-- Words stay where a row of headers grows. -/
theorem HeadsOf.grown {w w' : World} {base n : Nat} {v : Value} {vs us : List Value} {rows : List (List Int)} (h : ∀ j, j < rows.length → ∃ A' c', vs[j]? = some (.slice A' (ro rows j).length c') ∧ Sl w A' c' (ro rows j) ∧ (ro rows j ≠ [] → ∀ ad, A' = some ad → some ad.block ≠ v.ownBlock))
    (_ho : w.ownsRow base 22 1 v n us) (hg : w.grownBy w' v.ownBlock) : HeadsOf w' vs rows := fun j hj => by
  obtain ⟨A, c, h1, h2, h3⟩ := h j hj
  exact ⟨A, c, h1, h2.grownN hg h3⟩
theorem sll_heads {w : World} {base n : Nat} {v : Value} {vs : List Value} {rows : List (List Int)} (h : w.ownsRow base 22 1 v n vs) (hh : HeadsOf w vs rows) (hl : rows.length = n) : ∃ A c, v = .slice A n c ∧ Sll w A c rows := by
  rcases h.2 with ⟨rfl, h0⟩ | ⟨g, cap, cur, rfl, _, hg, hc, _, h3, h4⟩
  · have : rows = [] := List.eq_nil_of_length_eq_zero (by omega)
    subst this h0
    exact ⟨_, 0, rfl, Sll.nothing w⟩
  · refine ⟨some ⟨g, 0, .none⟩, cap, rfl, by omega, (fun h => by cases h), fun ad e _ => ?_⟩
    injection e with e
    subst e
    refine ⟨g, 0, rfl, heap_lt hg, fun j l hl' => ?_⟩
    have hj := (List.getElem?_eq_some_iff.1 hl').1
    obtain ⟨A, c, h5, h6⟩ := hh j hj
    rw [ro_at hl'] at h5 h6
    refine ⟨A, c, ?_, h6⟩
    rw [cell_of_row w g (0 + j) cur 22 (0, 0) hg, Nat.zero_add]
    rw [← h4, List.getElem?_take, if_pos (by omega), Array.getElem?_toList] at h5
    exact h5
/-- The headers of a matrix of one's own, and where their words lie. -/
theorem MP.heads {base N : Nat} {w : World} {v : Value} {vs : List Value} {rows : List (List Int)} (h : MP base w v N N vs rows) : ∀ j, j < rows.length → ∃ A' c', vs[j]? = some (.slice A' (ro rows j).length c') ∧ Sl w A' c' (ro rows j) ∧ (ro rows j ≠ [] → ∀ ad, A' = some ad → some ad.block ≠ v.ownBlock) := fun j hj => by
  have hj' : j < N := by rw [← h.len]; exact hj
  obtain ⟨u, h1, h2⟩ := h.row j hj'
  obtain ⟨A, c, rfl, h3⟩ := own_form h2
  refine ⟨A, c, h1, h3, fun _ ad e e' => ?_⟩
  subst e
  rcases h2.2 with ⟨h4, _⟩ | ⟨g, cap, cur, h4, _⟩
  · cases h4
  · injection h4 with h4
    injection h4 with h4
    subst h4
    exact h.far hj' h1 rfl e'.symm

/-! ### Whatever the arguments -/
def mulB (a b : List (List Int)) : Bool := rect a && rect b && (ncol a == b.length)
theorem mulB_iff {a b : List (List Int)} : mulB a b = true ↔ rect a = true ∧ rect b = true ∧ ncol a = b.length := by
  unfold mulB; rw [Bool.and_eq_true, Bool.and_eq_true, beq_iff_eq, and_assoc]
/-! ### Witness and combination -/
theorem mat_snoc {p : Int} {N L : Nat} {A : List (List Int)} {r : List Int} (h : Mat p N L A) (hr : r.length = L ∧ El p r) : Mat p (N + 1) L (A ++ [r]) :=
  ⟨by rw [List.length_append, h.rows]; rfl, fun x hx => by
    rcases List.mem_append.1 hx with h1 | h1
    · exact h.row x h1
    · rw [List.mem_singleton] at h1; subst h1; exact hr⟩
theorem mx_snoc_old {A : List (List Int)} {r : List Int} {i : Nat} (h : i < A.length) (c : Nat) : mx (A ++ [r]) i c = mx A i c := by
  unfold mx; rw [List.getElem?_append_left h]
theorem mx_snoc_new {A : List (List Int)} {r : List Int} (c : Nat) : mx (A ++ [r]) A.length c = co r c := by
  unfold mx; rw [List.getElem?_append_right (by omega), Nat.sub_self]; rfl
theorem unitL_last (n : Nat) : (List.replicate (n + 1) (0 : Int)).set n 1 = unitL (n + 1) n := rfl
theorem wit_math {p : Int} (hg : GoodI p) {m : List (List Int)} {b : List Int} (hr : rect m = true) (hE : ∀ r ∈ m, El p r) (hb : El p b) (hn : m.length = b.length) (h : slv p m b = none) :
    0 < m.length ∧ Mat p (ncol m + 1) m.length (trn m ++ [b]) ∧ ∃ y, slv p (trn m ++ [b]) (unitL (ncol m + 1) (ncol m)) = some y ∧ y.length = m.length ∧ El p y ∧ dot p y b = 1 := by
  have hp := hg.two
  obtain ⟨_, y0, h1, h2⟩ := slv_none hg hr hE hb h
  have h0 : 0 < m.length := by
    rcases Nat.eq_zero_or_pos m.length with e | e
    · rw [e] at h2
      have : (0 : Int) % p = 1 := h2
      rw [Int.zero_emod] at this
      cases this
    · exact e
  have hT := mat_snoc (trn_mat (p := p) (by omega) (mat_of hr hE) h0) ⟨hn.symm, hb⟩
  have htl := trn_len m
  have hcol : ncol (trn m ++ [b]) = m.length := hT.cols (by omega)
  have hU := unitL_el (p := p) (by omega) (ncol m + 1) (ncol m)
  have hlen : (trn m ++ [b]).length = (unitL (ncol m + 1) (ncol m)).length := by rw [hT.rows, unitL_len]
  have hsol : Sol p (trn m ++ [b]).length (ncol (trn m ++ [b])) (mx (trn m ++ [b])) (co (unitL (ncol m + 1) (ncol m))) y0 := by
    rw [hT.rows, hcol]
    intro r hr'
    rw [unitL_co _ _ _ hr']
    by_cases e : r < ncol m
    · rw [one_ne (by omega), Int.zero_emod, ← h1 r e]
      congr 1
      exact sg_congr _ fun j hj => by rw [mx_snoc_old (by omega), trn_mx e hj]
    · obtain rfl : r = ncol m := by omega
      rw [one_same, small (by omega) (show (1 : Int) < p by omega), ← h2]
      congr 1
      exact sg_congr _ fun j _ => by
        have := mx_snoc_new (A := trn m) (r := b) j
        rw [htl] at this
        rw [this]
  obtain ⟨y, h3, h4, h5, h6⟩ := slv_ex hg hT.isRect hT.els hU hlen hsol
  rw [hcol] at h5
  refine ⟨h0, hT, y, h3, h5, h6, ?_⟩
  have h7 : co (app p (trn m ++ [b]) y) (ncol m) = 1 := by rw [h4, unitL_co _ _ _ (by omega), one_same]
  unfold app at h7
  rw [co_map, if_pos (by rw [hT.rows]; omega)] at h7
  have h8 : ro (trn m ++ [b]) (ncol m) = b := by unfold ro; rw [List.getElem?_append_right (by omega), htl, Nat.sub_self]; rfl
  rw [h8] at h7
  rw [dot_comm (by omega)]; exact h7
theorem span_math {p : Int} (hg : GoodI p) {m : List (List Int)} {v : List Int} (hr : rect m = true) (hE : ∀ r ∈ m, El p r) (_hv : El p v) (_hn : v.length = m.length) (h0 : 0 < m.length) (hc0 : 0 < ncol m) :
    Mat p (m.length + 1) (ncol m) (m ++ [app p (trn m) v]) ∧ rnk p (m ++ [app p (trn m) v]) = rnk p m ∧ ∃ x, slv p (trn m) (app p (trn m) v) = some x ∧ app p (trn m) x = app p (trn m) v ∧ x.length = m.length ∧ El p x := by
  have hp := hg.two
  have hm := mat_of hr hE
  have hT := trn_mat (p := p) (by omega) hm h0
  have hte := app_el (p := p) (by omega) (trn m) v
  have htl : (app p (trn m) v).length = ncol m := by rw [app_len, trn_len]
  have hM := mat_snoc hm ⟨htl, hte⟩
  have hs := (app_sol (x := v) hT.isRect hte (by omega) (by rw [htl, trn_len])).1 rfl
  refine ⟨hM, ?_, ?_⟩
  · obtain ⟨p1, r1⟩ := rnk_rr hg hM.isRect hM.els
    obtain ⟨p2, r2⟩ := rnk_rr hg hr hE
    rw [hM.rows, hM.cols (by omega)] at r1
    have e1 : ∀ x, Nul p (m.length + 1) (ncol m) (mx (m ++ [app p (trn m) v])) x → Nul p m.length (ncol m) (mx m) x := fun x hx r hr' => by
      rw [← hx r (by omega)]
      congr 1
      exact sg_congr _ fun j _ => by rw [mx_snoc_old hr']
    have e2 : ∀ x, Nul p m.length (ncol m) (mx m) x → Nul p (m.length + 1) (ncol m) (mx (m ++ [app p (trn m) v])) x := fun x hx r hr' => by
      by_cases e : r < m.length
      · rw [← hx r e]
        congr 1
        exact sg_congr _ fun j _ => by rw [mx_snoc_old e]
      · obtain rfl : r = m.length := by omega
        have h2 : sg (ncol m) (fun j => mx (m ++ [app p (trn m) v]) m.length j * x j) % p = sg (ncol m) (fun j => mat m.length (fun _ i => co v i) (mx m) 0 j * x j) % p := sg_mod _ fun j hj => mm (by
          rw [mx_snoc_new]
          unfold app dot
          rw [co_map, if_pos (by rw [trn_len]; exact hj), mdd, (hT.ro hj).1]
          unfold mat
          congr 1
          exact sg_congr _ fun i hi => by rw [← mx_ro, trn_mx hj hi, Int.mul_comm]) rfl
        have h3 := nul_mat (p := p) (m := 1) (A := fun _ i => co v i) hx 0 (by omega)
        rw [h2]; exact h3
    have q1 := rank_le_of (by omega) r1 r2 e2
    have q2 := rank_le_of (by omega) r2 r1 e1
    omega
  · obtain ⟨x, h1, h2, h3, h4⟩ := slv_ex hg hT.isRect hT.els hte (by rw [trn_len, htl]) hs
    exact ⟨x, h1, h2, by rw [h3, hT.cols hc0], h4⟩
end Go.Proofs.Ytkhiiiggmhncbaa

/- Apply and Mul of the reference of layer 6. Nothing that lay is changed. Conditions: a supported prime, words of its field, at most 100 rows and columns. -/
namespace Go.Proofs.Ytkhiiiggmhncbaa
set_option maxRecDepth 100000
open Go.RowKit PolyMath FieldMath MatMath

theorem rectN_of {rows : List (List Int)} (hr : rect rows = true) : rectN rows = ncol rows := by unfold rectN; rw [hr]; rfl
/-- An entry of the product by a column. -/
theorem mul_entry {p : Int} {a : List Int} {b : List (List Int)} {k l : Nat} (hr : rect b = true) (hE : ∀ r ∈ b, El p r) (hp : 0 < p) (hb : 0 < b.length) (hk : k < ncol b) (hl : a.length = l) (hlb : b.length = l) : dot p a (ro (trn b) k) = sg l (fun j => co a j * mx b j k) % p := by
  have _hT := trn_mat (p := p) hp (mat_of hr hE) hb
  unfold dot
  rw [hl]
  congr 1
  exact sg_congr _ fun j hj => by rw [← mx_ro, trn_mx hk (by omega)]

end Go.Proofs.Ytkhiiiggmhncbaa

/- Reduced of the reference of layer 6: elimination on a copy. Nothing that lay is changed. Conditions: a supported prime, rows of one length with words of its field; at most 200 rows and columns. -/
namespace Go.Proofs.Ytkhiiiggmhncbaa
set_option maxRecDepth 100000
open Go.RowKit PolyMath FieldMath MatMath

theorem fsub_zero (p d : Int) : fsub p 0 d = fneg p d := by unfold fsub fneg; rw [Int.zero_sub]
theorem subR_zero {p : Int} (hp : 0 < p) {r : List Int} (hr : El p r) (t : List Int) : subR p 0 r t = r := list_ext (subR_len _ _ _ _) fun c => by
  unfold subR
  rw [co_map]
  by_cases h : c < r.length
  · rw [if_pos h]; unfold fsub fmul; rw [Int.zero_mul, Int.zero_emod, Int.sub_zero]; exact hr.cm hp c
  · rw [if_neg h, co_fin r c (by omega)]
theorem clrK_none {p : Int} (hp : 0 < p) {R : List (List Int)} {N L q k j : Nat} (hR : Mat p N L R) (hj : j < N) (hne : j ≠ q) (h0 : mx R j k = 0) : clrK p R q k (j + 1) = clrK p R q k j := by
  rw [← clrK_next p k (by rw [hR.rows]; exact hj) hne, h0, subR_zero hp (hR.ro hj).2]
  have := clrK_at p (q := q) (k := k) (show j < R.length by rw [hR.rows]; exact hj) hne
  rw [← this, set_ro]
/-- What Reduced leaves. -/
def Redd (p : Int) (rows : List (List Int)) (k : Nat) (w : World) (e : Ending) (w' : World) : Prop :=
  ∃ v vs pvv, e = .returned (.tuple #[v, pvv, .int .u64 (elim p rows k).d]) ∧ MP w.heap.size w' v rows.length rows.length vs (elim p rows k).R ∧ w'.ownsRow w.heap.size 3 1 pvv (elim p rows k).pv.length (pvs (elim p rows k).pv) ∧ Below w.heap.size w w'

end Go.Proofs.Ytkhiiiggmhncbaa

/- square, Rank and Det of the reference of layer 6. Nothing that lay is changed. Conditions: a supported prime, words of its field, at most 100 rows and columns. -/
namespace Go.Proofs.Ytkhiiiggmhncbaa
set_option maxRecDepth 100000
open Go.RowKit PolyMath FieldMath MatMath

end Go.Proofs.Ytkhiiiggmhncbaa

/- beside and Solve of the reference of layer 6. Nothing that lay is changed. Conditions: a supported prime, words of its field, at most 100 rows and columns. -/
namespace Go.Proofs.Ytkhiiiggmhncbaa
set_option maxRecDepth 100000
open Go.RowKit PolyMath FieldMath MatMath

/-- A column as rows of one word. -/
def colK (b : List Int) (k : Nat) : List (List Int) := (List.range k).map fun i => [co b i]
theorem colK_len (b : List Int) (k : Nat) : (colK b k).length = k := by unfold colK; simp
theorem colK_ro (b : List Int) {k i : Nat} (h : i < k) : ro (colK b k) i = [co b i] := ro_map _ h
theorem colK_next (b : List Int) (k : Nat) : colK b (k + 1) = colK b k ++ [[co b k]] := by unfold colK; rw [List.range_succ, List.map_append]; rfl

end Go.Proofs.Ytkhiiiggmhncbaa

/- Plain facts about the matrices of layer 7, with no Go in sight: the values of a polynomial at 1, .., cols carried on to the points behind them; any cols zeros among all the points make the values zero; square parts have a determinant that is not zero; two vectors lie far apart. Conditions: p one of the primes, cols + rows < p. -/
namespace MatMath
open PolyMath FieldMath

/-! ### Lists of places -/
theorem sub_len {α : Type} [DecidableEq α] : ∀ {A B : List α}, A.Nodup → (∀ x ∈ A, x ∈ B) → A.length ≤ B.length
  | [], _, _, _ => Nat.zero_le _
  | a :: A, B, hn, h => by
    have ha : a ∈ B := h a (List.mem_cons_self ..)
    have hn' := List.nodup_cons.1 hn
    have h1 := sub_len (A := A) (B := B.erase a) hn'.2 fun x hx => (List.mem_erase_of_ne (a := x) (b := a) (fun e => by rw [e] at hx; exact hn'.1 hx)).2 (h x (List.mem_cons_of_mem _ hx))
    rw [List.length_erase_of_mem ha] at h1
    have h2 := List.length_pos_of_mem ha
    rw [List.length_cons]
    omega
theorem nodup_range_map {f : Nat → Nat} : ∀ n, (∀ i j, i < n → j < n → f i = f j → i = j) → ((List.range n).map f).Nodup
  | 0, _ => List.nodup_nil
  | n + 1, h => by
    rw [List.range_succ, List.map_append, List.nodup_append]
    refine ⟨nodup_range_map n fun i j hi hj => h i j (by omega) (by omega), List.nodup_cons.2 ⟨List.not_mem_nil, List.nodup_nil⟩, fun a ha b hb e => ?_⟩
    obtain ⟨i, hi, rfl⟩ := List.mem_map.1 ha
    have hb' : b = f n := by simpa using hb
    have h1 := List.mem_range.1 hi
    have := h i n (by omega) (by omega) (e.trans hb')
    omega
/-- The places below n that are not among those named. -/
def rest (n : Nat) (C : List Nat) : List Nat := (List.range n).filter fun i => !C.contains i
theorem mem_rest {n : Nat} {C : List Nat} {i : Nat} : i ∈ rest n C ↔ i < n ∧ i ∉ C := by
  unfold rest
  rw [List.mem_filter, List.mem_range]
  simp
theorem rest_nodup (n : Nat) (C : List Nat) : (rest n C).Nodup := List.Nodup.sublist List.filter_sublist List.nodup_range
theorem rest_len (n : Nat) (C : List Nat) : n ≤ (rest n C).length + C.length := by
  have h := sub_len (A := List.range n) (B := rest n C ++ C) List.nodup_range fun x hx => by
    rw [List.mem_append]
    by_cases e : x ∈ C
    · exact .inr e
    · exact .inl (mem_rest.2 ⟨List.mem_range.1 hx, e⟩)
  rw [List.length_range, List.length_append] at h
  exact h

/-! ### The points 1, 2, .. -/
def pt (i : Nat) : Int := (i : Int) + 1
def upts (n : Nat) : List Int := (List.range n).map pt
theorem upts_len (n : Nat) : (upts n).length = n := by unfold upts; simp
theorem upts_co {n i : Nat} (h : i < n) : co (upts n) i = pt i := by unfold upts co; simp [h]
theorem pt_inj {i j : Nat} (h : pt i = pt j) : i = j := by unfold pt at h; omega
theorem map_nodup : ∀ {L : List Nat}, L.Nodup → (L.map pt).Nodup
  | [], _ => List.nodup_nil
  | a :: L, h => by
    have h' := List.nodup_cons.1 h
    rw [List.map_cons, List.nodup_cons]
    refine ⟨fun hm => ?_, map_nodup h'.2⟩
    obtain ⟨b, hb, e⟩ := List.mem_map.1 hm
    exact h'.1 (pt_inj e ▸ hb)
theorem map_el {p : Int} {L : List Nat} {n : Nat} (h : ∀ i ∈ L, i < n) (hn : (n : Int) < p) : El p (L.map pt) := by
  intro x hx
  obtain ⟨i, hi, rfl⟩ := List.mem_map.1 hx
  have := h i hi
  unfold pt
  omega
theorem upts_nodup (n : Nat) : (upts n).Nodup := map_nodup List.nodup_range
theorem upts_el {p : Int} {n : Nat} (hn : (n : Int) < p) : El p (upts n) := map_el (n := n) (fun _ hi => List.mem_range.1 hi) hn

/-! ### Sums -/
theorem fsum_sg (p : Int) (f : Nat → Int) : ∀ n, fsum p f n = sg n f % p
  | 0 => (Int.zero_emod p).symm
  | n + 1 => by
    show fadd p (fsum p f n) (f n) = _
    rw [fsum_sg p f n, sg_succ]
    show (sg n f % p + f n) % p = _
    rw [Int.emod_add_emod]
theorem fsum_fmul (p : Int) (f g : Nat → Int) (n : Nat) : fsum p (fun i => fmul p (f i) (g i)) n = sg n (fun i => f i * g i) % p := by
  rw [fsum_sg]
  exact sg_mod n fun i _ => Int.emod_emod_of_dvd _ (Int.dvd_refl p)

/-! ### The vector and what it is carried on to -/
/-- The component at place i of the vector ys, extended: its own below cols, the value of the polynomial behind. -/
def ext (p : Int) (cols : Nat) (ys : List Int) (i : Nat) : Int := fsum p (fun j => fmul p (co (wts p (upts cols) (pt i)) j) (co ys j)) cols

section
variable {p : Int} {cols : Nat} {ys : List Int}
theorem ext_poly (h : GoodI p) (hc : (cols : Int) < p) (hy : El p ys) (i : Nat) : ext p cols ys i = pev p (lag p (upts cols) ys (upts cols).length) (pt i) := by
  have hI := lag_itp h (upts_nodup cols) (upts_el hc) hy
  rw [← wts_value h (upts_nodup cols) (upts_el hc) hI.fe hI.fl (pt i)]
  unfold ext
  rw [upts_len]
  refine fsum_ext cols fun j hj => ?_
  rw [← hI.at_ j (by rw [upts_len]; exact hj), upts_len]
theorem ext_in (h : GoodI p) (hc : (cols : Int) < p) (hy : El p ys) {i : Nat} (hi : i < cols) : ext p cols ys i = co ys i := by
  have hI := lag_itp h (upts_nodup cols) (upts_el hc) hy
  rw [ext_poly h hc hy, ← hI.at_ i (by rw [upts_len]; exact hi), upts_co hi]
/-- Zero at as many places as there are columns: zero. -/
theorem ext_core (h : GoodI p) {N : Nat} (hN : (N : Int) < p) (hcN : cols ≤ N) (hy : El p ys) {I : List Nat} (hn : I.Nodup) (hI : ∀ i ∈ I, i < N) (hz : ∀ i ∈ I, ext p cols ys i = 0) (hl : cols ≤ I.length) : ∀ i, i < cols → co ys i = 0 := by
  have hc : (cols : Int) < p := by omega
  have hT := lag_itp h (upts_nodup cols) (upts_el hc) hy
  intro i hi
  by_cases h0 : 0 < tn (lag p (upts cols) ys (upts cols).length)
  · have h1 := zeros_list h hT.fe h0 (map_nodup hn) (map_el hI hN) fun x hx => by
      obtain ⟨j, hj, rfl⟩ := List.mem_map.1 hx
      rw [← ext_poly h hc hy]
      exact hz j hj
    rw [List.length_map] at h1
    have h2 := tn_le (lag p (upts cols) ys (upts cols).length)
    have h3 := hT.fl
    rw [upts_len] at h3 h2 h0 h1
    omega
  · have h1 : trim (lag p (upts cols) ys (upts cols).length) = [] := (trim_nil_iff _).2 (by omega)
    rw [← ext_in h hc hy hi, ext_poly h hc hy, ← hT.ft, h1, pev_nil]
end

/-! ### Square parts -/
theorem bsol_inj {s : Nat} {pv : Nat → Nat} (hi : ∀ i j, i < s → j < s → pv i = pv j → i = j) (y : Nat → Int) {i : Nat} (h : i < s) : bsol s pv y (pv i) = y i := by
  unfold bsol
  rw [sg_one (j := i) s h fun k hk hne => if_neg fun e => hne (hi k i hk h e), if_pos rfl]
theorem square_det {p : Int} (h : GoodI p) {cols rows r : Nat} (hN : ((cols + rows : Nat) : Int) < p) {R C : Nat → Nat} (hR : ∀ i, i < r → R i < rows) (hC : ∀ i, i < r → C i < cols)
    (iR : ∀ i j, i < r → j < r → R i = R j → i = j) (iC : ∀ i j, i < r → j < r → C i = C j → i = j) :
    det r (fun a b => co (wts p (upts cols) (pt (cols + R a))) (C b)) % p ≠ 0 := by
  have hp := h.two
  obtain ⟨d, B, s, pv, hre, he⟩ := ech_ex h r (fun a b => co (wts p (upts cols) (pt (cols + R a))) (C b)) r
  rcases det_cases (by omega) hre he with ⟨hs, _⟩ | ⟨_, hd, _⟩
  · exfalso
    have hk : ∃ k, k < r ∧ ∀ i, i < s → pv i ≠ k := by
      by_cases hx : ∃ k, k < r ∧ ∀ i, i < s → pv i ≠ k
      · exact hx
      · exfalso
        have h1 := sub_len (A := List.range r) (B := (List.range s).map pv) List.nodup_range fun k hk => by
          by_cases hm : k ∈ (List.range s).map pv
          · exact hm
          · exact absurd ⟨k, List.mem_range.1 hk, fun i hi e => hm (List.mem_map.2 ⟨i, List.mem_range.2 hi, e⟩)⟩ hx
        rw [List.length_range, List.length_map, List.length_range] at h1
        omega
    obtain ⟨k, hk, hno⟩ := hk
    have hnp : ¬ ¬ Dep p r r (fun a b => co (wts p (upts cols) (pt (cols + R a))) (C b)) k := fun hd => by
      obtain ⟨i, hi, e⟩ := (he.pivot_iff (by omega) hre hk).2 hd
      exact hno i hi e
    obtain ⟨x, hx1, _, hx⟩ := Classical.not_not.1 hnp
    let ys : List Int := (List.range cols).map fun i => bsol r C x i % p
    have hy : El p ys := fun v hv => by
      obtain ⟨i, _, rfl⟩ := List.mem_map.1 hv
      exact ⟨Int.emod_nonneg _ (by omega), Int.emod_lt_of_pos _ (by omega)⟩
    have hco : ∀ i, i < cols → co ys i = bsol r C x i % p := fun i hi => by show ((List.map _ _)[i]?).getD 0 = _; simp [hi]
    have hz := ext_core (p := p) (cols := cols) (ys := ys) h hN (by omega) hy (I := (List.range r).map (fun a => cols + R a) ++ rest cols ((List.range r).map C))
      (by
        rw [List.nodup_append]
        refine ⟨?_, rest_nodup _ _, ?_⟩
        · exact nodup_range_map r fun i j hi hj e => iR i j hi hj (by omega)
        · intro a ha b hb e
          obtain ⟨i, _, rfl⟩ := List.mem_map.1 ha
          have := (mem_rest.1 hb).1
          omega)
      (by
        intro i hi
        rcases List.mem_append.1 hi with hi | hi
        · obtain ⟨a, ha, rfl⟩ := List.mem_map.1 hi
          have := hR a (List.mem_range.1 ha)
          omega
        · have := (mem_rest.1 hi).1
          omega)
      (by
        intro i hi
        rcases List.mem_append.1 hi with hi | hi
        · obtain ⟨a, ha, rfl⟩ := List.mem_map.1 hi
          unfold ext
          rw [fsum_fmul]
          have e1 : sg cols (fun j => co (wts p (upts cols) (pt (cols + R a))) j * co ys j) % p = sg cols (fun j => co (wts p (upts cols) (pt (cols + R a))) j * bsol r C x j) % p :=
            sg_mod cols fun j hj => by rw [hco j hj, Int.mul_emod, Int.emod_emod_of_dvd _ (Int.dvd_refl p), ← Int.mul_emod]
          rw [e1, bsol_sum hC]
          exact hx a (List.mem_range.1 ha)
        · obtain ⟨h1, h2⟩ := mem_rest.1 hi
          rw [ext_in h (by omega) hy h1, hco i h1, bsol_else x fun j hj e => h2 (List.mem_map.2 ⟨j, List.mem_range.2 hj, e⟩), Int.zero_emod])
      (by
        have := rest_len cols ((List.range r).map C)
        rw [List.length_append, List.length_map, List.length_range]
        rw [List.length_map, List.length_range] at this
        omega)
    have h1 := hz (C k) (hC k hk)
    rw [hco _ (hC k hk), bsol_inj iC x hk, hx1, Int.emod_eq_of_lt (by omega) (by omega)] at h1
    omega
  · intro h0
    rw [Int.mul_emod, h0, Int.mul_zero, Int.zero_emod] at hd
    omega

/-! ### Distance -/
/-- How many of the first n places are marked. -/
def mrk (f : Nat → Bool) : Nat → Nat
  | 0 => 0
  | n + 1 => mrk f n + if f n then 1 else 0
theorem mrk_len (f : Nat → Bool) : ∀ n, mrk f n + ((List.range n).filter fun i => !f i).length = n
  | 0 => rfl
  | n + 1 => by
    have := mrk_len f n
    show (mrk f n + if f n then 1 else 0) + _ = _
    rw [List.range_succ, List.filter_append, List.length_append]
    cases e : f n <;> simp [e] <;> omega
theorem mrk_add (f : Nat → Bool) (m : Nat) : ∀ n, mrk f (m + n) = mrk f m + mrk (fun i => f (m + i)) n
  | 0 => rfl
  | n + 1 => by
    show mrk f (m + n) + _ = mrk f m + (mrk (fun i => f (m + i)) n + _)
    rw [mrk_add f m n, Nat.add_assoc]
    rfl
theorem mrk_ext {f g : Nat → Bool} : ∀ n, (∀ i, i < n → f i = g i) → mrk f n = mrk g n
  | 0, _ => rfl
  | n + 1, h => by
    show mrk f n + _ = mrk g n + _
    rw [mrk_ext n (fun i hi => h i (by omega)), h n (by omega)]
/-- A vector that is not zero, with what it is carried on to, has more places that are not zero than there are rows. -/
theorem far_apart {p : Int} (h : GoodI p) {cols rows : Nat} (hN : ((cols + rows : Nat) : Int) < p) {ys : List Int} (hy : El p ys) {k : Nat} (hk : k < cols) (h0 : co ys k ≠ 0) :
    rows < mrk (fun i => decide (co ys i ≠ 0)) cols + mrk (fun i => decide (ext p cols ys (cols + i) ≠ 0)) rows := by
  have e1 : mrk (fun i => decide (co ys i ≠ 0)) cols = mrk (fun i => decide (ext p cols ys i ≠ 0)) cols := mrk_ext cols fun i hi => by
    show decide (co ys i ≠ 0) = decide (ext p cols ys i ≠ 0)
    rw [ext_in h (by omega) hy hi]
  have e2 := mrk_add (fun i => decide (ext p cols ys i ≠ 0)) cols rows
  have e3 := mrk_len (fun i => decide (ext p cols ys i ≠ 0)) (cols + rows)
  by_cases hl : cols ≤ ((List.range (cols + rows)).filter fun i => !decide (ext p cols ys i ≠ 0)).length
  · exfalso
    refine h0 (ext_core h hN (by omega) hy (I := (List.range (cols + rows)).filter fun i => !decide (ext p cols ys i ≠ 0)) (List.Nodup.sublist List.filter_sublist List.nodup_range) (fun i hi => List.mem_range.1 (List.mem_filter.1 hi).1) (fun i hi => ?_) hl k hk)
    have := (List.mem_filter.1 hi).2
    simpa using this
  · rw [e1]
    omega
end MatMath

/- Layer 7 without Go: the matrix of New as a list of rows, submatrices, a vector completed from some of its components. No conditions beyond those said. -/
namespace Go.Proofs.Ytkhiiiggmhncbaa
set_option maxRecDepth 100000
open PolyMath FieldMath MatMath

/-! ### The matrix of New -/
def nw (p : Int) (rows cols : Nat) : List (List Int) := (List.range rows).map fun i => wts p (upts cols) (pt (cols + i))
theorem nw_len (p : Int) (rows cols : Nat) : (nw p rows cols).length = rows := by unfold nw; simp
theorem nw_ro (p : Int) {rows : Nat} (cols : Nat) {i : Nat} (h : i < rows) : ro (nw p rows cols) i = wts p (upts cols) (pt (cols + i)) := ro_map _ h
theorem nw_mat {p : Int} (hp : 0 < p) (rows cols : Nat) : Mat p rows cols (nw p rows cols) := .of (nw_len p rows cols) fun i hi => by
  rw [nw_ro p cols hi]
  exact ⟨by rw [wts_len, upts_len], wts_el hp _ _⟩
theorem nw_next (p : Int) (k cols : Nat) : nw p (k + 1) cols = nw p k cols ++ [wts p (upts cols) (pt (cols + k))] := by
  unfold nw; rw [List.range_succ, List.map_append]; rfl
theorem nw_app {p : Int} {rows cols : Nat} {ys : List Int} {i : Nat} (hi : i < rows) : co (app p (nw p rows cols) ys) i = ext p cols ys (cols + i) := by
  unfold app
  rw [co_map, nw_len, if_pos hi, nw_ro p cols hi]
  unfold dot ext
  rw [fsum_fmul, wts_len, upts_len]
theorem nw_value {p : Int} (h : GoodI p) {cols : Nat} (hc : (cols : Int) < p) {f : List Int} (hf : El p f) (hl : f.length = cols) (i : Nat) :
    fsum p (fun k => fmul p (co (wts p (upts cols) (pt i)) k) (pev p f (pt k))) cols = pev p f (pt i) := by
  have := wts_value h (upts_nodup cols) (upts_el hc) hf (by rw [upts_len]; omega) (pt i)
  rw [upts_len] at this
  rw [← this]
  exact fsum_ext cols fun k hk => by rw [upts_co hk]

/-! ### Submatrices -/
def subM (m : List (List Int)) (R C : List Int) : List (List Int) := R.map fun i => C.map fun j => co (ro m i.toNat) j.toNat
theorem subM_len (m : List (List Int)) (R C : List Int) : (subM m R C).length = R.length := by unfold subM; simp
theorem subM_ro (m : List (List Int)) {R : List Int} (C : List Int) {i : Nat} (h : i < R.length) : ro (subM m R C) i = C.map fun j => co (ro m (co R i).toNat) j.toNat := by
  unfold subM
  refine ro_at ?_
  rw [List.getElem?_map, List.getElem?_eq_getElem h, co_get h]; rfl
theorem subM_at (m : List (List Int)) {R : List Int} (C : List Int) {i : Nat} {r : Int} (h : R[i]? = some r) : ro (subM m R C) i = C.map fun j => co (ro m r.toNat) j.toNat := by
  rw [subM_ro m C (List.getElem?_eq_some_iff.1 h).1, co_at h]
theorem subM_mx (m : List (List Int)) {R C : List Int} {i j : Nat} (hi : i < R.length) (hj : j < C.length) : mx (subM m R C) i j = mx m (co R i).toNat (co C j).toNat := by
  rw [mx_ro, subM_ro m C hi, mx_ro]
  exact co_at (by rw [List.getElem?_map, List.getElem?_eq_getElem hj, co_get hj]; rfl)
theorem subM_mat {p : Int} (hp : 0 < p) {N L : Nat} {m : List (List Int)} (hm : Mat p N L m) (R C : List Int) (hR : ∀ i ∈ R, 0 ≤ i ∧ i < N) : Mat p R.length C.length (subM m R C) := .of (subM_len m R C) fun i hi => by
  rw [subM_ro m C hi]
  refine ⟨by simp, fun x hx => ?_⟩
  obtain ⟨j, _, rfl⟩ := List.mem_map.1 hx
  have h1 := hR _ (co_mem hi)
  exact (hm.ro (show (co R i).toNat < N by omega)).2.co hp _
/-- All indices are in range. -/
def subB (m : List (List Int)) (R C : List Int) : Bool := decide ((∀ i ∈ R, 0 ≤ i ∧ i < (m.length : Int)) ∧ ∀ i ∈ R, ∀ j ∈ C, 0 ≤ j ∧ j < ((ro m i.toNat).length : Int))
theorem squ_mat {p : Int} {N : Nat} {A : List (List Int)} (h : Mat p N N A) (h0 : 0 < N) : squ A = true := squ_iff.2 ⟨by rw [h.rows]; exact h0, by rw [h.rows, h.cols h0], h.isRect⟩
theorem sub_det {p : Int} (hg : GoodI p) {rows cols : Nat} (hN : ((cols + rows : Nat) : Int) < p) {R C : List Int} (hR : ∀ i ∈ R, 0 ≤ i ∧ i < (rows : Int)) (hC : ∀ i ∈ C, 0 ≤ i ∧ i < (cols : Int)) (nR : R.Nodup) (nC : C.Nodup) (hl : R.length = C.length) (h0 : 0 < R.length) :
    squ (subM (nw p rows cols) R C) = true ∧ dtm p (subM (nw p rows cols) R C) ≠ 0 := by
  have hp := hg.two
  have hM := subM_mat (by omega) (nw_mat (p := p) (by omega) rows cols) R C hR
  rw [← hl] at hM
  have hs := squ_mat hM h0
  refine ⟨hs, ?_⟩
  rw [dtm_det hg hs hM.els, subM_len]
  have hb : ∀ {X : List Int} {n : Nat}, (∀ i ∈ X, 0 ≤ i ∧ i < (n : Int)) → ∀ i, i < X.length → (co X i).toNat < n := fun hX i hi => by have := hX _ (co_mem hi); omega
  have hj : ∀ {X : List Int} {n : Nat}, (∀ i ∈ X, 0 ≤ i ∧ i < (n : Int)) → X.Nodup → ∀ i j, i < X.length → j < X.length → (co X i).toNat = (co X j).toNat → i = j := fun hX hn i j hi hj e => by
    have h1 := hX _ (co_mem hi)
    have h2 := hX _ (co_mem hj)
    exact co_inj hn hi hj (by omega)
  have key := square_det hg hN (r := R.length) (R := fun i => (co R i).toNat) (C := fun i => (co C i).toNat) (hb hR) (fun i hi => hb hC i (by omega)) (hj hR nR) (fun i j hi hj' => hj hC nC i j (by omega) (by omega))
  rwa [det_congr R.length (B := fun a b => co (wts p (upts cols) (pt (cols + (co R a).toNat))) (co C b).toNat) fun r c hr hc => by
    rw [subM_mx _ hr (by omega), mx_ro, nw_ro p cols (hb hR r hr)]]

/-! ### Products with vectors -/
theorem app_co {p : Int} {A : List (List Int)} (v : List Int) {i : Nat} (h : i < A.length) : co (app p A v) i = dot p (ro A i) v := by unfold app; rw [co_map, if_pos h]
theorem app_mul {p : Int} {N l L : Nat} {B C : List (List Int)} (hB : Mat p N l B) (hC : Mat p l L C) (hl : 0 < l) (v : List Int) : app p (mulM p B C) v = app p B (app p C v) := by
  refine list_ext (by rw [app_len, app_len, mulM_len]) fun i => ?_
  by_cases hi : i < N
  · have hiB : i < B.length := by rw [hB.rows]; exact hi
    rw [app_co v (by rw [mulM_len]; exact hiB), app_co _ hiB]
    unfold dot
    rw [mulM_ro p C hiB, mulR_len, hC.cols hl, (hB.ro hi).1]
    have e1 : sg L (fun j => co (mulR p (ro B i) C L l) j * co v j) % p = sg L (fun j => mat l (mx B) (mx C) i j * co v j) % p := sg_mod L fun j hj => by
      unfold mulR
      rw [co_map, if_pos hj]
      exact mm (mdd p _) rfl
    have e2 : sg l (fun j => co (ro B i) j * co (app p C v) j) % p = sg l (fun j => mx B i j * sg L (fun k => mx C j k * co v k)) % p := sg_mod l fun j hj => by
      rw [app_co v (by rw [hC.rows]; exact hj)]
      unfold dot
      rw [(hC.ro hj).1]
      exact mm rfl (mdd p _)
    rw [e1, e2]
    exact congrArg (· % p) (mat_assoc l L (mx B) (mx C) (fun k _ => co v k) i 0)
  · rw [co_fin _ i (by rw [app_len, mulM_len, hB.rows]; omega), co_fin _ i (by rw [app_len, hB.rows]; omega)]
theorem app_one {p : Int} (hp : 1 < p) {n : Nat} {v : List Int} (hv : El p v) (hl : v.length = n) : app p (oneL n) v = v := by
  refine list_ext (by rw [app_len, oneL_len, hl]) fun i => ?_
  by_cases hi : i < n
  · rw [app_co v (by rw [oneL_len]; exact hi)]
    unfold dot
    rw [((oneL_mat hp n).ro hi).1, sg_one (j := i) n hi fun j hj hne => by rw [← mx_ro, oneL_mx hi hj, one_ne (fun e => hne e.symm), Int.zero_mul], ← mx_ro, oneL_mx hi hi, one_same, Int.one_mul]
    exact hv.cm (by omega) i
  · rw [co_fin _ i (by rw [app_len, oneL_len]; omega), co_fin v i (by omega)]
theorem slv_inv {p : Int} (hg : GoodI p) {A X : List (List Int)} {b : List Int} (hs : squ A = true) (hE : ∀ r ∈ A, El p r) (hb : El p b) (hn : A.length = b.length) (h : invM p A = some X) : slv p A b = some (app p X b) := by
  have hp := hg.two
  obtain ⟨_, hX, h1, h2⟩ := invM_some hg hs hE h
  obtain ⟨q1, q2, q3⟩ := squ_iff.1 hs
  have hA := mat_of q3 hE
  rw [← q2] at hA
  have e1 : app p A (app p X b) = b := by rw [← app_mul hA hX q1, h2, app_one (by omega) hb hn.symm]
  obtain ⟨y, hy, h3, h4, h5⟩ := slv_ex hg q3 hE hb hn ((app_sol q3 hb (by omega) hn).1 e1)
  rw [hy]
  congr 1
  rw [← app_one (by omega) h5 (h4.trans q2.symm), ← h1, app_mul hX hA q1, h3]
theorem inv_none_iff {p : Int} (hg : GoodI p) {A : List (List Int)} (hs : squ A = true) (hE : ∀ r ∈ A, El p r) : invM p A = none ↔ rnk p A < A.length := by
  rw [← invM_rank hg hs hE]
  unfold invM
  constructor
  · intro h
    split at h
    · assumption
    · cases h
  · intro h
    rw [if_pos h]

/-! ### Completing a vector -/
def idx (ps : List (Int × Int)) : List Nat := ps.map fun q => q.1.toNat
def putL (x : List Int) (ps : List (Int × Int)) : List Int := ps.foldl (fun l q => l.set q.1.toNat q.2) x
theorem putL_len : ∀ (ps : List (Int × Int)) (x : List Int), (putL x ps).length = x.length
  | [], _ => rfl
  | q :: ps, x => by show (putL (x.set _ _) ps).length = _; rw [putL_len ps, List.length_set]
theorem putL_next (x : List Int) {ps : List (Int × Int)} {k : Nat} {a b : Int} (h : ps[k]? = some (a, b)) : putL x (ps.take (k + 1)) = (putL x (ps.take k)).set a.toNat b := by
  unfold putL
  rw [List.take_add_one, h, List.foldl_append]; rfl
theorem co_set {x : List Int} {i : Nat} (v : Int) (hi : i < x.length) (j : Nat) : co (x.set i v) j = if j = i then v else co x j := by
  unfold co
  by_cases e : j = i
  · subst e; rw [if_pos rfl, List.getElem?_set_self hi]; rfl
  · rw [if_neg e, List.getElem?_set_ne (fun q => e q.symm)]
theorem putL_off : ∀ (ps : List (Int × Int)) (x : List Int) {j : Nat}, j ∉ idx ps → co (putL x ps) j = co x j
  | [], _, _, _ => rfl
  | q :: ps, x, j, h => by
    show co (putL (x.set _ _) ps) j = _
    have h' : j ≠ q.1.toNat ∧ j ∉ idx ps := by
      constructor
      · exact fun e => h (by rw [e]; exact List.mem_cons_self ..)
      · exact fun e => h (List.mem_cons_of_mem _ e)
    rw [putL_off ps _ h'.2]
    unfold co
    rw [List.getElem?_set_ne (fun q => h'.1 q.symm)]
theorem putL_in : ∀ (ps : List (Int × Int)) (x : List Int), (idx ps).Nodup → (∀ j ∈ idx ps, j < x.length) → ∀ q ∈ ps, co (putL x ps) q.1.toNat = q.2
  | [], _, _, _, _, h => by cases h
  | q :: ps, x, hn, hl, r, hr => by
    show co (putL (x.set _ _) ps) _ = _
    have hn' := List.nodup_cons.1 (show (q.1.toNat :: idx ps).Nodup from hn)
    rcases List.mem_cons.1 hr with rfl | h
    · rw [putL_off ps _ hn'.1, co_set _ (hl _ (List.mem_cons_self ..)), if_pos rfl]
    · exact putL_in ps _ hn'.2 (fun j hj => by rw [List.length_set]; exact hl j (List.mem_cons_of_mem _ hj)) r h
theorem putL_el {p : Int} : ∀ (ps : List (Int × Int)) (x : List Int), El p x → (∀ q ∈ ps, 0 ≤ q.2 ∧ q.2 < p) → El p (putL x ps)
  | [], _, h, _ => h
  | q :: ps, x, h, hq => putL_el ps _ (fun y hy => by
      rcases List.mem_or_eq_of_mem_set hy with h1 | h1
      · exact h y h1
      · subst h1; exact hq q (List.mem_cons_self ..)) fun r hr => hq r (List.mem_cons_of_mem _ hr)
def oI (L : List Nat) : List Int := L.map fun n : Nat => (n : Int)
theorem oI_len (L : List Nat) : (oI L).length = L.length := by unfold oI; simp
theorem oI_co {L : List Nat} {i : Nat} (h : i < L.length) : co (oI L) i = (L.getD i 0 : Nat) := by
  unfold oI
  rw [List.getD_eq_getElem?_getD, List.getElem?_eq_getElem h]
  exact co_at (by rw [List.getElem?_map, List.getElem?_eq_getElem h]; rfl)
theorem oI_at {L : List Nat} {i : Nat} (h : i < L.length) : (oI L)[i]? = some ((L.getD i 0 : Nat) : Int) := by
  unfold oI
  rw [List.getElem?_map, List.getD_eq_getElem?_getD, List.getElem?_eq_getElem h]; rfl
/-- Words put at the places of L, one by one. -/
def fil (x : List Int) (L : List Nat) (s : List Int) : Nat → List Int
  | 0 => x
  | k + 1 => (fil x L s k).set (L.getD k 0) (co s k)
theorem fil_len (x : List Int) (L : List Nat) (s : List Int) : ∀ k, (fil x L s k).length = x.length
  | 0 => rfl
  | k + 1 => by show ((fil x L s k).set _ _).length = _; rw [List.length_set, fil_len x L s k]
theorem fil_el {p : Int} (hp : 0 < p) {x : List Int} (L : List Nat) {s : List Int} (hx : El p x) (hs : El p s) : ∀ k, El p (fil x L s k)
  | 0 => hx
  | k + 1 => fun y hy => by
    rcases List.mem_or_eq_of_mem_set hy with h1 | h1
    · exact fil_el hp L hx hs k y h1
    · subst h1; exact hs.co hp k
theorem getD_inj {L : List Nat} (hn : L.Nodup) {i j : Nat} (hi : i < L.length) (hj : j < L.length) (e : L.getD i 0 = L.getD j 0) : i = j := by
  rw [List.getD_eq_getElem?_getD, List.getD_eq_getElem?_getD, List.getElem?_eq_getElem hi, List.getElem?_eq_getElem hj] at e
  have e' : L[i] = L[j] := e
  rcases Nat.lt_trichotomy i j with h | h | h
  · exact absurd e' (List.pairwise_iff_getElem.1 hn i j hi hj h)
  · exact h
  · exact absurd e'.symm (List.pairwise_iff_getElem.1 hn j i hj hi h)
theorem getD_mem {L : List Nat} {i : Nat} (hi : i < L.length) : L.getD i 0 ∈ L := by
  rw [List.getD_eq_getElem?_getD, List.getElem?_eq_getElem hi]
  exact List.getElem_mem hi
theorem fil_co {x : List Int} {L : List Nat} (s : List Int) (hn : L.Nodup) (hl : ∀ j ∈ L, j < x.length) (h0 : ∀ j ∈ L, co x j = 0) : ∀ k, k ≤ L.length → ∀ j, co (fil x L s k) j = co x j + bsol k (fun i => L.getD i 0) (co s) j
  | 0, _, j => by show co x j = co x j + 0; omega
  | k + 1, hk, j => by
    show co ((fil x L s k).set _ _) j = co x j + (bsol k (fun i => L.getD i 0) (co s) j + if L.getD k 0 = j then co s k else 0)
    rw [co_set _ (by rw [fil_len]; exact hl _ (getD_mem (by omega)))]
    by_cases e : j = L.getD k 0
    · subst e
      rw [if_pos rfl, if_pos rfl, h0 _ (getD_mem (by omega)), bsol_else (co s) fun i hi e => by have := getD_inj hn (by omega) (by omega) e; omega]
      omega
    · rw [if_neg e, if_neg (fun q => e q.symm), fil_co s hn hl h0 k (by omega) j]
      omega
theorem fil_dot {p : Int} {x a : List Int} {L : List Nat} (s : List Int) (hn : L.Nodup) (hl : ∀ j ∈ L, j < x.length) (h0 : ∀ j ∈ L, co x j = 0) (ha : a.length = x.length) :
    dot p a (fil x L s L.length) = (sg a.length (fun j => co a j * co x j) + sg L.length (fun i => co a (L.getD i 0) * co s i)) % p := by
  unfold dot
  rw [← bsol_sum (n := a.length) (pv := fun i => L.getD i 0) (fun i hi => by rw [ha]; exact hl _ (getD_mem hi)) (co s) (co a), ← sg_add]
  exact congrArg (· % p) (sg_congr _ fun j _ => by rw [fil_co s hn hl h0 _ (Nat.le_refl _), Int.mul_add])
/-- What the given inputs leave of the fixed outputs. -/
def rgt (p : Int) (m : List (List Int)) (x : List Int) (outs : List (Int × Int)) : List Int := outs.map fun q => fsub p q.2 (dot p (ro m q.1.toNat) x)
theorem rgt_len (p : Int) (m : List (List Int)) (x : List Int) (outs : List (Int × Int)) : (rgt p m x outs).length = outs.length := by unfold rgt; simp
theorem rgt_el {p : Int} (hp : 0 < p) (m : List (List Int)) (x : List Int) (outs : List (Int × Int)) : El p (rgt p m x outs) := fun y hy => by
  obtain ⟨q, _, rfl⟩ := List.mem_map.1 hy
  exact md _ _ hp
theorem rest_is {n : Nat} {C : List Nat} (hn : C.Nodup) (hl : ∀ j ∈ C, j < n) : (rest n C).length + C.length = n := by
  have h1 := rest_len n C
  have h2 := sub_len (A := rest n C ++ C) (B := List.range n) (List.nodup_append.2 ⟨rest_nodup n C, hn, fun a ha b hb e => (mem_rest.1 ha).2 (e ▸ hb)⟩) fun x hx => by
    rw [List.mem_range]
    rcases List.mem_append.1 hx with h | h
    · exact (mem_rest.1 h).1
    · exact hl x h
  rw [List.length_append, List.length_range] at h2
  omega
def sqm (m : List (List Int)) (ins outs : List (Int × Int)) : List (List Int) := subM m (outs.map Prod.fst) (oI (rest (ncol m) (idx ins)))
def xin (m : List (List Int)) (ins : List (Int × Int)) : List Int := putL (List.replicate (ncol m) 0) ins
theorem xin_len (m : List (List Int)) (ins : List (Int × Int)) : (xin m ins).length = ncol m := by unfold xin; rw [putL_len, List.length_replicate]
/-- The completed inputs. -/
def cmp (p : Int) (m : List (List Int)) (ins outs : List (Int × Int)) : Option (List Int) :=
  if rnk p (sqm m ins outs) < outs.length then none
  else some (fil (xin m ins) (rest (ncol m) (idx ins)) ((slv p (sqm m ins outs) (rgt p m (xin m ins) outs)).getD []) (rest (ncol m) (idx ins)).length)
/-- Points with distinct indices in range. -/
def plcB (ps : List (Int × Int)) (n : Nat) : Bool := decide ((∀ q ∈ ps, q.1 < (n : Int)) ∧ (ps.map Prod.fst).Nodup)
def evenB (m : List (List Int)) : Bool := decide (0 < m.length) && decide (0 < ncol m) && rect m
/-- The arguments give so many components as there are columns. -/
def argB (m : List (List Int)) (ins outs : List (Int × Int)) : Bool := evenB m && plcB ins (ncol m) && plcB outs m.length && (ins.length + outs.length == ncol m)
structure Arg (m : List (List Int)) (ins outs : List (Int × Int)) : Prop where
  rows : 0 < m.length
  cols : 0 < ncol m
  rect : rect m = true
  inl : ∀ j ∈ idx ins, j < ncol m
  inn : (idx ins).Nodup
  outl : ∀ q ∈ outs, 0 ≤ q.1 ∧ q.1 < (m.length : Int)
  outn : (outs.map Prod.fst).Nodup
  sum : ins.length + outs.length = ncol m
theorem idx_nodup {ps : List (Int × Int)} (h : (ps.map Prod.fst).Nodup) (h0 : ∀ q ∈ ps, 0 ≤ q.1) : (idx ps).Nodup := by
  induction ps with
  | nil => exact List.nodup_nil
  | cons q ps ih =>
    have h' := List.nodup_cons.1 (show (q.1 :: ps.map Prod.fst).Nodup from h)
    refine List.nodup_cons.2 ⟨fun hm => ?_, ih h'.2 fun r hr => h0 r (List.mem_cons_of_mem _ hr)⟩
    obtain ⟨r, hr, e⟩ := List.mem_map.1 hm
    have h1 := h0 q (List.mem_cons_self ..)
    have h2 := h0 r (List.mem_cons_of_mem _ hr)
    exact h'.1 (List.mem_map.2 ⟨r, hr, by have e' : r.1.toNat = q.1.toNat := e; omega⟩)
theorem Arg.of {m : List (List Int)} {ins outs : List (Int × Int)} (hi : ∀ q ∈ ins, 0 ≤ q.1) (ho : ∀ q ∈ outs, 0 ≤ q.1) (h : argB m ins outs = true) : Arg m ins outs := by
  unfold argB evenB plcB at h
  simp only [Bool.and_eq_true, decide_eq_true_eq, beq_iff_eq] at h
  obtain ⟨⟨⟨⟨⟨h1, h2⟩, h3⟩, h4, h5⟩, h6, h7⟩, h8⟩ := h
  exact ⟨h1, h2, h3, fun j hj => by obtain ⟨q, hq, rfl⟩ := List.mem_map.1 hj; have := h4 q hq; have := hi q hq; show q.1.toNat < _; omega, idx_nodup h5 hi, fun q hq => ⟨ho q hq, h6 q hq⟩, h7, h8⟩
section
variable {p : Int} {m : List (List Int)} {ins outs : List (Int × Int)}
theorem idx_len (ps : List (Int × Int)) : (idx ps).length = ps.length := by unfold idx; simp
theorem Arg.rest (h : Arg m ins outs) : (rest (ncol m) (idx ins)).length = outs.length := by
  have := rest_is h.inn h.inl
  have h2 := h.sum
  rw [idx_len] at this
  omega
theorem Arg.sq (h : Arg m ins outs) (hp : 0 < p) (hE : ∀ r ∈ m, El p r) : Mat p outs.length outs.length (sqm m ins outs) := by
  have := subM_mat hp (mat_of h.rect hE) (outs.map Prod.fst) (oI (MatMath.rest (ncol m) (idx ins))) fun i hi => by
    obtain ⟨q, hq, rfl⟩ := List.mem_map.1 hi
    exact h.outl q hq
  rw [oI_len, h.rest, List.length_map] at this
  exact this
theorem Arg.xin_el (_h : Arg m ins outs) (hp : 0 < p) (hi : ∀ q ∈ ins, 0 ≤ q.2 ∧ q.2 < p) : El p (xin m ins) := putL_el ins _ (fun x hx => by
  have := List.eq_of_mem_replicate hx
  omega) hi
theorem Arg.off (_h : Arg m ins outs) : ∀ j ∈ MatMath.rest (ncol m) (idx ins), co (xin m ins) j = 0 := fun j hj => by
  unfold xin
  rw [putL_off ins _ (mem_rest.1 hj).2]
  unfold co
  rw [List.getElem?_replicate]
  split <;> rfl
theorem Arg.lt (_h : Arg m ins outs) : ∀ j ∈ MatMath.rest (ncol m) (idx ins), j < (xin m ins).length := fun j hj => by
  rw [xin_len]; exact (mem_rest.1 hj).1
theorem slv_empty (p : Int) : slv p [] [] = some [] := rfl
/-- A completed vector bears the fixed outputs and the given inputs. -/
theorem cmp_some (hg : GoodI p) (h : Arg m ins outs) (hE : ∀ r ∈ m, El p r) (hi : ∀ q ∈ ins, 0 ≤ q.2 ∧ q.2 < p) (ho : ∀ q ∈ outs, 0 ≤ q.2 ∧ q.2 < p) {s : List Int}
    (hs : slv p (sqm m ins outs) (rgt p m (xin m ins) outs) = some s) :
    let x := fil (xin m ins) (rest (ncol m) (idx ins)) s (rest (ncol m) (idx ins)).length
    El p x ∧ x.length = ncol m ∧ (∀ q ∈ ins, co x q.1.toNat = q.2) ∧ ∀ q ∈ outs, co (app p m x) q.1.toNat = q.2 := by
  have hp := hg.two
  have hM := h.sq (p := p) (by omega) hE
  have hre := rgt_el (p := p) (by omega) m (xin m ins) outs
  obtain ⟨s1, s2, s3⟩ := slv_some hg hM.isRect hM.els hre (by rw [hM.rows, rgt_len]) hs
  have hnd := rest_nodup (ncol m) (idx ins)
  refine ⟨fil_el (by omega) _ (h.xin_el (by omega) hi) s3 _, by rw [fil_len, xin_len], fun q hq => ?_, fun q hq => ?_⟩
  · rw [fil_co s hnd h.lt h.off _ (Nat.le_refl _), bsol_else (co s) fun i hi e => ?_, Int.add_zero]
    · unfold xin
      exact putL_in ins _ h.inn (fun j hj => by rw [List.length_replicate]; exact h.inl j hj) q hq
    · have := mem_rest.1 (getD_mem hi)
      rw [e] at this
      exact this.2 (List.mem_map.2 ⟨q, hq, rfl⟩)
  · obtain ⟨k, hk, e⟩ := List.mem_iff_getElem.1 hq
    have hlt := h.outl q hq
    have hr : q.1.toNat < m.length := by omega
    have hrl : (ro m q.1.toNat).length = (xin m ins).length := by rw [xin_len]; exact rect_iff.1 h.rect _ hr
    rw [app_co _ hr, fil_dot s hnd h.lt h.off hrl]
    have hk2 : co (app p (sqm m ins outs) s) k = co (rgt p m (xin m ins) outs) k := by rw [s1]
    rw [app_co s (by rw [hM.rows]; exact hk)] at hk2
    have hrk : co (rgt p m (xin m ins) outs) k = fsub p q.2 (dot p (ro m q.1.toNat) (xin m ins)) := co_at (by unfold rgt; rw [List.getElem?_map, List.getElem?_eq_getElem hk, e]; rfl)
    rw [hrk] at hk2
    have hfst : co (outs.map Prod.fst) k = q.1 := co_at (by rw [List.getElem?_map, List.getElem?_eq_getElem hk, e]; rfl)
    have hdot : dot p (ro (sqm m ins outs) k) s = sg (rest (ncol m) (idx ins)).length (fun i => co (ro m q.1.toNat) ((rest (ncol m) (idx ins)).getD i 0) * co s i) % p := by
      unfold dot
      rw [(hM.ro hk).1, ← h.rest]
      refine congrArg (· % p) (sg_congr _ fun i hi => ?_)
      rw [← mx_ro]
      unfold sqm
      rw [subM_mx m (by rw [List.length_map]; exact hk) (by rw [oI_len]; exact hi), mx_ro, hfst, oI_co hi, Int.toNat_natCast]
    rw [hdot] at hk2
    have hb := ho q hq
    generalize sg (rest (ncol m) (idx ins)).length _ = S at *
    unfold dot at hk2
    generalize sg (ro m q.1.toNat).length _ = T at *
    unfold fsub at hk2
    have : (T + S) % p = q.2 % p := by
      have h1 : (T + S) % p = (T + (q.2 - T % p)) % p := ma rfl hk2
      rw [h1]
      have h2 : (T + (q.2 - T % p)) % p = (T + (q.2 - T)) % p := ma rfl (ms rfl (mdd p T))
      rw [h2]
      congr 1
      omega
    rw [this, small hb.1 hb.2]
theorem cmp_ex (hg : GoodI p) (h : Arg m ins outs) (hE : ∀ r ∈ m, El p r) (hr : ¬ rnk p (sqm m ins outs) < outs.length) : ∃ s, slv p (sqm m ins outs) (rgt p m (xin m ins) outs) = some s := by
  have hp := hg.two
  have hM := h.sq (p := p) (by omega) hE
  by_cases h0 : outs.length = 0
  · have e1 : outs = [] := List.eq_nil_of_length_eq_zero h0
    subst e1
    exact ⟨[], slv_empty p⟩
  · have hs := squ_mat hM (by omega)
    cases hi : invM p (sqm m ins outs) with
    | none => exact absurd ((inv_none_iff hg hs hM.els).1 hi) (by rw [hM.rows]; exact hr)
    | some X => exact ⟨_, slv_inv hg hs hM.els (rgt_el (by omega) _ _ _) (by rw [hM.rows, rgt_len]) hi⟩
end
end Go.Proofs.Ytkhiiiggmhncbaa

/- beside (with the identity) and Inverse of the reference of layer 6. Nothing that lay is changed. Conditions: a supported prime, words of its field, at most 50 rows and columns. -/
namespace Go.Proofs.Ytkhiiiggmhncbaa
set_option maxRecDepth 100000
open Go.RowKit PolyMath FieldMath MatMath

/-- A matrix that reads as rows, all of it in memory from base on. -/
structure SllF (w : World) (base : Nat) (A : Option Addr) (c : Nat) (rows : List (List Int)) : Prop where
  cap : rows.length ≤ c
  nil : A = none → c = 0
  rd : ∀ ad, A = some ad → rows ≠ [] → ∃ b off, ad = ⟨b, off, none⟩ ∧ base ≤ b ∧ b < w.heap.size ∧ ∀ j r, rows[j]? = some r → ∃ A' c', w.cell? ⟨b, off + j, none⟩ = some (.slice A' r.length c') ∧ Sl w A' c' r ∧ ∀ ad', A' = some ad' → base ≤ ad'.block
theorem SllF.sll {w : World} {base : Nat} {A : Option Addr} {c : Nat} {rows : List (List Int)} (h : SllF w base A c rows) : Sll w A c rows :=
  ⟨h.cap, h.nil, fun ad e hn => by
    obtain ⟨b, off, h1, _, h2, h3⟩ := h.rd ad e hn
    exact ⟨b, off, h1, h2, fun j r hr => by obtain ⟨A', c', q1, q2, _⟩ := h3 j r hr; exact ⟨A', c', q1, q2⟩⟩⟩
theorem SllF.next {w w' : World} {base : Nat} {A : Option Addr} {c : Nat} {rows : List (List Int)} (h : SllF w base A c rows) (hb : Below w.heap.size w w') : SllF w' base A c rows :=
  ⟨h.cap, h.nil, fun ad e hn => by
    obtain ⟨b, off, h1, h0, h2, h3⟩ := h.rd ad e hn
    exact ⟨b, off, h1, h0, Nat.lt_of_lt_of_le h2 hb.size, fun j r hr => by
      obtain ⟨A', c', q1, q2, q3⟩ := h3 j r hr
      exact ⟨A', c', (hb.cell (p := ⟨b, off + j, none⟩) h2).trans q1, q2.next hb, q3⟩⟩⟩
theorem SllF.grown {w w' : World} {base g : Nat} {A : Option Addr} {c : Nat} {rows : List (List Int)} (h : SllF w base A c rows) (hg : w.grownBy w' (some g)) (hlt : g < base) : SllF w' base A c rows :=
  ⟨h.cap, h.nil, fun ad e hn => by
    obtain ⟨b, off, h1, h0, h2, h3⟩ := h.rd ad e hn
    have hne : some b ≠ some g := fun e => by injection e with e; omega
    refine ⟨b, off, h1, h0, Nat.lt_of_lt_of_le h2 hg.size, fun j r hr => ?_⟩
    obtain ⟨A', c', q1, q2, q3⟩ := h3 j r hr
    refine ⟨A', c', ?_, q2.grown hg (fun ad' e' e2 => by have := q3 ad' e'; injection e2 with e2; omega), q3⟩
    rw [← q1]
    unfold World.cell?
    rw [hg.block b h2 hne]⟩
theorem Sl.dropN {w : World} {b off c : Nat} {xs : List Int} (h : Sl w (some ⟨b, off, none⟩) c xs) {q : Nat} (hq : q ≤ xs.length) : Sl w (some ⟨b, off + q, none⟩) (c - q) (xs.drop q) := by
  refine ⟨by rw [List.length_drop]; have := h.cap; omega, (fun e => by cases e), fun ad e hn => ?_⟩
  injection e with e
  subst e
  obtain ⟨b', off', e', hlt, hc⟩ := h.rd _ rfl (fun e => hn (by rw [e]; simp))
  injection e' with e1 e2
  subst e1 e2
  refine ⟨b, off + q, rfl, hlt, fun j r hr => ?_⟩
  rw [List.getElem?_drop] at hr
  rw [Nat.add_assoc]
  exact hc (q + j) r hr

/-- What Inverse of the reference hands back. -/
def InvF (p : Int) (A : List (List Int)) (w : World) (e : Ending) (w' : World) : Prop :=
  (∃ X, invM p A = some X ∧ ∃ A' c', e = .returned (.tuple #[.slice A' X.length c', .int .i64 0]) ∧ SllF w' w.heap.size A' c' X ∧ Below w.heap.size w w') ∨ (invM p A = none ∧ e = .returned (.tuple #[.slice none 0 0, .int .i64 8]) ∧ Below w.heap.size w w')

end Go.Proofs.Ytkhiiiggmhncbaa
