/- Less, Equal, Add and SaturatingSub of the reference of layer 2: they answer as the values ask; nothing that lay is changed. Conditions: bit vectors of at most 1000 bits. -/
import Derived.Test.YtcjibadnhhnpmaaBFrom
import Derived.Test.YtcjibadnhhnpmaaBSub
namespace Go.Proofs.Ytcjibadnhhnpmaa
open Go.RowKit BitMath

theorem lt01_next {a b : List Int} (ha : Bits a) (hb : Bits b) (k : Nat) : lt01 (val (a.take (k + 1))) (val (b.take (k + 1))) = if a[k]?.getD 0 = b[k]?.getD 0 then lt01 (val (a.take k)) (val (b.take k)) else b[k]?.getD 0 := by
  have h := lt01_step (upto (pairAt ha hb) k) (a[k]?.getD 0) (b[k]?.getD 0) ⟨ha.getD k, hb.getD k⟩
  change lt01 (v1 (upto (pairAt ha hb) k ++ [pairAt ha hb k])) (v2 (upto (pairAt ha hb) k ++ [pairAt ha hb k])) = _ at h
  rw [← upto_succ, v1_upto, v2_upto, v1_upto, v2_upto] at h
  exact h

theorem rLess_any (A A' : Option Addr) (c c' B B' : Nat) (a b : List Int) (ha : Bits a) (hb : Bits b) (la : a.length ≤ 1000) (lb : b.length ≤ 1000) (w : World) (hra : Rd B w A a) (hrb : Rd B' w A' b) :
    Calls Try.prog 28 #[.slice A a.length c, .slice A' b.length c'] w fun e w' => e = .returned (.int .u64 (lt01 (val a) (val b))) ∧ w = w' := by
  go_enter Try.func28, Try.ntmps28
  go_wp2
  go_loop [5, 6] (fun v i => ∃ (k : Nat) (t : Int), k ≤ max a.length b.length ∧ i = .int .i64 k ∧ v = .int .u64 t ∧ Hid (lt01 (val (a.take k)) (val (b.take k)) = t)) (fun _ i => max a.length b.length - (intOf i).toNat)
  case atStart => exact ⟨0, 0, Nat.zero_le _, rfl, rfl, Lib.hid rfl⟩
  case round =>
    obtain ⟨k, t, hk, rfl, rfl, hE⟩ := hrel
    by_cases hlt : k < max a.length b.length
    · have hbx := rBit_any A a c k B w hra
      have hby := rBit_any A' b c' k B' w hrb
      have hst := lt01_next ha hb k
      have hx01 := ha.getD k
      have hy01 := hb.getD k
      generalize a[k]?.getD 0 = x at hbx hst hx01
      generalize b[k]?.getD 0 = y at hby hst hy01
      have hS := Lib.hid hst
      clear hst
      by_cases hA : k < a.length
      · have hA' : (k : Int) < a.length := by omega
        rcases hx01 with rfl | rfl <;> rcases hy01 with rfl | rfl
        all_goals
          go_wp2_with (first | (go_at_call 32; refine hbx.mono ?_; clear hbx; rintro e w' ⟨rfl, rfl⟩) | (go_at_call 32; refine hby.mono ?_; clear hby; rintro e w' ⟨rfl, rfl⟩))
          go_round
          case rel => exact ⟨k + 1, _, by omega, by simp, rfl, Lib.hid (by rw [hS.out, hE.out]; rfl)⟩
          case measure => simp [intOf]; omega
      · have hA' : (a.length : Int) ≤ k := by omega
        have hB' : (k : Int) < b.length := by omega
        rcases hx01 with rfl | rfl <;> rcases hy01 with rfl | rfl
        all_goals
          go_wp2_with (first | (go_at_call 32; refine hbx.mono ?_; clear hbx; rintro e w' ⟨rfl, rfl⟩) | (go_at_call 32; refine hby.mono ?_; clear hby; rintro e w' ⟨rfl, rfl⟩))
          go_round
          case rel => exact ⟨k + 1, _, by omega, by simp, rfl, Lib.hid (by rw [hS.out, hE.out]; rfl)⟩
          case measure => simp [intOf]; omega
    · obtain rfl : k = max a.length b.length := by omega
      have hA' : (a.length : Int) ≤ (max a.length b.length : Nat) := by omega
      have hB' : (b.length : Int) ≤ (max a.length b.length : Nat) := by omega
      go_wp2
      go_ret
      have h := hE.out
      rw [take_all (by omega), take_all (by omega)] at h
      exact ⟨by rw [h]; rfl, rfl⟩

theorem rEqual_any (A A' : Option Addr) (c c' B B' : Nat) (a b : List Int) (ha : Bits a) (hb : Bits b) (la : a.length ≤ 1000) (lb : b.length ≤ 1000) (w : World) (hra : Rd B w A a) (hrb : Rd B' w A' b) :
    Calls Try.prog 29 #[.slice A a.length c, .slice A' b.length c'] w fun e w' => e = .returned (.int .u64 (eq01 (val a) (val b))) ∧ w = w' := by
  go_enter Try.func29, Try.ntmps29
  go_wp2
  go_loop [5] (fun i => ∃ k : Nat, k ≤ max a.length b.length ∧ i = .int .i64 k ∧ Hid (val (a.take k) = val (b.take k))) (fun i => max a.length b.length - (intOf i).toNat)
  case atStart => exact ⟨0, Nat.zero_le _, rfl, Lib.hid rfl⟩
  case round =>
    obtain ⟨k, hk, rfl, hE⟩ := hrel
    by_cases hlt : k < max a.length b.length
    · have hbx := rBit_any A a c k B w hra
      have hby := rBit_any A' b c' k B' w hrb
      have hs1 := val_take_succ a k
      have hs2 := val_take_succ b k
      generalize a[k]?.getD 0 = x at hbx hs1
      generalize b[k]?.getD 0 = y at hby hs2
      have hS1 := Lib.hid hs1
      have hS2 := Lib.hid hs2
      have hp := p2 k
      clear hs1 hs2
      have hAB : (k : Int) < a.length ∨ ((a.length : Int) ≤ k ∧ (k : Int) < b.length) := by omega
      by_cases hxy : x = y
      · subst hxy
        rcases hAB with hA | ⟨hA, hB⟩
        all_goals
          go_wp2_with (first | (go_at_call 32; refine hbx.mono ?_; clear hbx; rintro e w' ⟨rfl, rfl⟩) | (go_at_call 32; refine hby.mono ?_; clear hby; rintro e w' ⟨rfl, rfl⟩))
          go_round
          case rel => exact ⟨k + 1, by omega, by simp, Lib.hid (by rw [hS1.out, hS2.out, hE.out])⟩
          case measure => simp [intOf]; omega
      · have hne : eq01 (val a) (val b) = 0 := if_neg (eq_of_take ha hb (k + 1) (by
          rw [hS1.out, hS2.out, hE.out]
          intro h
          have h1 : 2 ^ k * x = 2 ^ k * y := by omega
          exact hxy (Int.eq_of_mul_eq_mul_left (Int.ne_of_gt hp) h1)))
        have hN := Lib.hid hne
        clear hne
        rcases hAB with hA | ⟨hA, hB⟩
        all_goals
          go_wp2_with (first | (go_at_call 32; refine hbx.mono ?_; clear hbx; rintro e w' ⟨rfl, rfl⟩) | (go_at_call 32; refine hby.mono ?_; clear hby; rintro e w' ⟨rfl, rfl⟩))
          go_ret
          exact ⟨by rw [hN.out]; rfl, rfl⟩
    · obtain rfl : k = max a.length b.length := by omega
      have hA' : (a.length : Int) ≤ (max a.length b.length : Nat) := by omega
      have hB' : (b.length : Int) ≤ (max a.length b.length : Nat) := by omega
      go_wp2
      go_ret
      have h := hE.out
      rw [take_all (by omega), take_all (by omega)] at h
      exact ⟨by rw [show eq01 (val a) (val b) = 1 from if_pos h]; rfl, rfl⟩

set_option maxHeartbeats 2000000 in
theorem rAdd_any (A A' : Option Addr) (c c' : Nat) (a b : List Int) (ha : Bits a) (hb : Bits b) (la : a.length ≤ 1000) (lb : b.length ≤ 1000) (w : World) (hra : Rd w.heap.size w A a) (hrb : Rd w.heap.size w A' b) :
    Calls Try.prog 20 #[.slice A a.length c, .slice A' b.length c'] w fun e w' => Row w e w' (digs (val a + val b) (max a.length b.length + 1)) := by
  obtain ⟨i0, hi, hz0, hz1, hz2⟩ := info_parts info_u64
  go_enter Try.func20, Try.ntmps20
  go_wp2
  go_loopw [5, 6, 7] (fun v q i wr => ∃ k : Nat, k ≤ max a.length b.length ∧ i = .int .i64 k ∧ q = .int .u64 ((val (a.take k) + val (b.take k)) / 2 ^ k) ∧ wr.ownsRow w.heap.size 22 1 v k ((digs (val (a.take k) + val (b.take k)) k).map (Value.int .u64)) ∧ Below w.heap.size w wr) (fun _ _ i _ => max a.length b.length - (intOf i).toNat)
  case atStart => exact ⟨0, Nat.zero_le _, rfl, by simp [val], World.ownsRow_nil _ _ _ _, Below.refl _ _⟩
  case round =>
    obtain ⟨k, hk, rfl, rfl, hrow, hB⟩ := hrel
    have b1 := val_nonneg (ha.take k)
    have b2 := val_nonneg (hb.take k)
    have b3 := Int.lt_of_lt_of_le (val_lt (ha.take k)) (p2le (show (a.take k).length ≤ k by rw [List.length_take]; omega))
    have b4 := Int.lt_of_lt_of_le (val_lt (hb.take k)) (p2le (show (b.take k).length ≤ k by rw [List.length_take]; omega))
    have hq01 := quo_bd (n := val (a.take k) + val (b.take k)) (k := k) (by omega) (by rw [p2s]; omega)
    clear b1 b2 b3 b4
    have hsz := hB.size
    by_cases hlt : k < max a.length b.length
    · have hbx := rBit_any A a c k w.heap.size wr (hra.below hB)
      have hby := rBit_any A' b c' k w.heap.size wr (hrb.below hB)
      have hs1 := val_take_succ a k
      have hs2 := val_take_succ b k
      have hx01 := ha.getD k
      have hy01 := hb.getD k
      generalize a[k]?.getD 0 = x at hbx hs1 hx01
      generalize b[k]?.getD 0 = y at hby hs2 hy01
      have hS : val (a.take (k + 1)) + val (b.take (k + 1)) = val (a.take k) + val (b.take k) + 2 ^ k * (x + y) := by rw [hs1, hs2, Int.mul_add]; omega
      have e1 := digs_step (val (a.take k) + val (b.take k)) (x + y) k
      have e2 := quo_step (val (a.take k) + val (b.take k)) (x + y) k
      rw [← hS] at e1 e2
      generalize (val (a.take k) + val (b.take k)) / 2 ^ k = q at hq01 e1 e2
      rw [show q + (x + y) = x + y + q from by omega] at e1 e2
      have hE1 := Lib.hid e1
      have hE2 := Lib.hid e2
      clear hs1 hs2 hS e1 e2
      have hAB : (k : Int) < a.length ∨ ((a.length : Int) ≤ k ∧ (k : Int) < b.length) := by omega
      rcases hAB with hA | ⟨hA, hBB⟩
      all_goals
        go_wp2_with (first | (go_at_call 32; refine hbx.mono ?_; clear hbx; rintro e w' ⟨rfl, rfl⟩) | (go_at_call 32; refine hby.mono ?_; clear hby; rintro e w' ⟨rfl, rfl⟩) | (at_builtin; refine wpList_append_own _ rfl _ _ 24 rfl w.heap.size 22 i0 (.int .u64 0) 1 8 Try.underlying24 hi hz0 hz1 hz2 rfl (by decide) _ _ _ rfl (hrow.alloc _) ⟨wr.heap.size, 0, none⟩ 1 1 [.int .u64 ((x + y + q) % 2)] rfl rfl (cell_one_new _ _ _) (by simp [Value.oneCell']) (by simp only [maxLen]; omega) (by omega) (by simp; omega) ?_; intro v' w2 hown' hgrow _))
        have hB2 : Below w.heap.size w w2 := (hB.alloc hsz _).grown hgrow (by simp; omega) (fun k e => (hrow.lt k e).1)
        go_roundw
        case rel => exact ⟨k + 1, by omega, by simp, by rw [hE2.out], by rw [hE1.out]; simpa using hown', hB2⟩
        case measure => simp [intOf]; omega
    · obtain rfl : k = max a.length b.length := by omega
      have hA' : (a.length : Int) ≤ (max a.length b.length : Nat) := by omega
      have hB' : (b.length : Int) ≤ (max a.length b.length : Nat) := by omega
      rw [take_all (Nat.le_max_left _ _), take_all (Nat.le_max_right _ _)] at hrow hq01 ⊢
      have e1 := digs_succ (val a + val b) (max a.length b.length)
      generalize (val a + val b) / 2 ^ max a.length b.length = q at hq01 e1 ⊢
      rw [show q % 2 = q from by omega] at e1
      have hE1 := Lib.hid e1
      clear e1
      go_wp2_with (at_builtin; refine wpList_append_own _ rfl _ _ 24 rfl w.heap.size 22 i0 (.int .u64 0) 1 8 Try.underlying24 hi hz0 hz1 hz2 rfl (by decide) _ _ _ rfl (hrow.alloc _) ⟨wr.heap.size, 0, none⟩ 1 1 [.int .u64 q] rfl rfl (cell_one_new _ _ _) (by simp [Value.oneCell']) (by simp only [maxLen]; omega) (by omega) (by simp; omega) ?_; intro v' w2 hown' hgrow _)
      have hB2 : Below w.heap.size w w2 := (hB.alloc hsz _).grown hgrow (by simp; omega) (fun k e => (hrow.lt k e).1)
      have hown2 : w2.ownsRow w.heap.size 22 1 v' (max a.length b.length + 1) ((digs (val a + val b) (max a.length b.length + 1)).map (Value.int .u64)) := by rw [hE1.out]; simpa using hown'
      go_ret
      obtain ⟨A2, c2, rfl, hR⟩ := own_form hown2
      exact ⟨A2, c2, rfl, hR, hB2⟩

theorem digs_cut (n : Int) {b : List Int} (hb : Bits b) (k : Nat) : digs (n - val (b.take k)) k = digs (n - val b) k := by
  rw [val_take_emod hb]
  have e := Int.mul_ediv_add_emod (val b) (2 ^ k)
  generalize val b / 2 ^ k = q at e
  rw [show n - val b % 2 ^ k = n - val b + 2 ^ k * q from by omega, digs_low]

set_option maxHeartbeats 2000000 in
theorem rSub_any (A A' : Option Addr) (c c' : Nat) (a b : List Int) (ha : Bits a) (hb : Bits b) (la : a.length ≤ 1000) (lb : b.length ≤ 1000) (w : World) (hra : Rd w.heap.size w A a) (hrb : Rd w.heap.size w A' b) :
    Calls Try.prog 23 #[.slice A a.length c, .slice A' b.length c'] w fun e w' => Row w e w' (digs (ssub (val a) (val b)) a.length) := by
  obtain ⟨i0, hi, hz0, hz1, hz2⟩ := info_parts info_u64
  have hL := rLess_any A A' c c' w.heap.size w.heap.size a b ha hb la lb w hra hrb
  obtain ⟨f, hf0, hf1⟩ : ∃ f : Nat → Int, (val a < val b → ∀ k, f k = 0) ∧ (¬ val a < val b → ∀ k, f k = val (a.take k) - val (b.take k)) :=
    ⟨fun k => if val a < val b then 0 else val (a.take k) - val (b.take k), fun h k => if_pos h, fun h k => if_neg h⟩
  have hend : digs (f a.length) a.length = digs (ssub (val a) (val b)) a.length := by
    unfold ssub
    by_cases h : val a < val b
    · rw [hf0 h, if_pos h]
    · rw [hf1 h, if_neg h, take_all (Nat.le_refl _), digs_cut _ hb]
  have hEnd := Lib.hid hend
  clear hend
  obtain ⟨d, hd, hd0, hd1⟩ : ∃ d : Int, lt01 (val a) (val b) = d ∧ (d = 1 → ∀ k, f k = 0) ∧ (d = 0 → ∀ k, f k = val (a.take k) - val (b.take k)) := by
    by_cases h : val a < val b
    · exact ⟨1, if_pos h, fun _ => hf0 h, fun h => absurd h (by decide)⟩
    · exact ⟨0, if_neg h, fun h => absurd h (by decide), fun _ => hf1 h⟩
  have hd01 : d = 0 ∨ d = 1 := by rw [← hd]; unfold lt01; split <;> simp
  rw [hd] at hL
  clear hf0 hf1 hd
  rcases hd01 with rfl | rfl
  · have hf := Lib.hid (hd1 rfl)
    clear hd0 hd1
    go_enter Try.func23, Try.ntmps23
    go_wp2_with (go_at_call 28; refine hL.mono ?_; clear hL; rintro e w' ⟨rfl, rfl⟩)
    go_loopw [5, 7, 8] (fun v q i wr => ∃ k : Nat, k ≤ a.length ∧ i = .int .i64 k ∧ q = .int .u64 (-((val (a.take k) - val (b.take k)) / 2 ^ k)) ∧ wr.ownsRow w.heap.size 22 1 v k ((digs (f k) k).map (Value.int .u64)) ∧ Below w.heap.size w wr) (fun _ _ i _ => a.length - (intOf i).toNat)
    case atStart => exact ⟨0, Nat.zero_le _, rfl, by simp [val], World.ownsRow_nil _ _ _ _, Below.refl _ _⟩
    case round =>
      obtain ⟨k, hk, rfl, rfl, hrow, hB⟩ := hrel
      have b1 := val_nonneg (ha.take k)
      have b2 := val_nonneg (hb.take k)
      have b3 := Int.lt_of_lt_of_le (val_lt (ha.take k)) (p2le (show (a.take k).length ≤ k by rw [List.length_take]; omega))
      have b4 := Int.lt_of_lt_of_le (val_lt (hb.take k)) (p2le (show (b.take k).length ≤ k by rw [List.length_take]; omega))
      have hq01 := quo_neg (n := val (a.take k) - val (b.take k)) (k := k) (by omega) (by omega)
      clear b1 b2 b3 b4
      have hsz := hB.size
      by_cases hlt : k < a.length
      · have hbx := rBit_any A a c k w.heap.size wr (hra.below hB)
        have hby := rBit_any A' b c' k w.heap.size wr (hrb.below hB)
        have hs1 := val_take_succ a k
        have hs2 := val_take_succ b k
        have hx01 := ha.getD k
        have hy01 := hb.getD k
        generalize a[k]?.getD 0 = x at hbx hs1 hx01
        generalize b[k]?.getD 0 = y at hby hs2 hy01
        have hS : val (a.take (k + 1)) - val (b.take (k + 1)) = val (a.take k) - val (b.take k) + 2 ^ k * (x - y) := by rw [hs1, hs2, Int.mul_sub]; omega
        have e1 := digs_step (val (a.take k) - val (b.take k)) (x - y) k
        have e2 := quo_step (val (a.take k) - val (b.take k)) (x - y) k
        rw [← hS] at e1 e2
        generalize (val (a.take k) - val (b.take k)) / 2 ^ k = q at hq01 e1 e2 ⊢
        obtain ⟨bq, rfl⟩ : ∃ bq, q = -bq := ⟨-q, by omega⟩
        rw [Int.neg_neg]
        have hD := Lib.hid (show digs (f (k + 1)) (k + 1) = digs (f k) k ++ [(2 + x - y - bq) % 2] by rw [hf.out, hf.out, e1, show (-bq + (x - y)) % 2 = (2 + x - y - bq) % 2 from by omega])
        have hQ := Lib.hid (show -((-bq + (x - y)) / 2) = 1 - (2 + x - y - bq) / 2 by omega)
        have hE2 := Lib.hid e2
        replace hq01 : bq = 0 ∨ bq = 1 := by omega
        clear hs1 hs2 hS e1 e2
        go_wp2_with (first | (go_at_call 32; refine hbx.mono ?_; clear hbx; rintro e w' ⟨rfl, rfl⟩) | (go_at_call 32; refine hby.mono ?_; clear hby; rintro e w' ⟨rfl, rfl⟩) | (at_builtin; refine wpList_append_own _ rfl _ _ 24 rfl w.heap.size 22 i0 (.int .u64 0) 1 8 Try.underlying24 hi hz0 hz1 hz2 rfl (by decide) _ _ _ rfl (hrow.alloc _) ⟨wr.heap.size, 0, none⟩ 1 1 [.int .u64 ((2 + x - y - bq) % 2)] rfl rfl (cell_one_new _ _ _) (by simp [Value.oneCell']) (by simp only [maxLen]; omega) (by omega) (by simp; omega) ?_; intro v' w2 hown' hgrow _))
        have hB2 : Below w.heap.size w w2 := (hB.alloc hsz _).grown hgrow (by simp; omega) (fun k e => (hrow.lt k e).1)
        go_roundw
        case rel => exact ⟨k + 1, by omega, by simp, by rw [hE2.out, hQ.out], by rw [hD.out]; simpa using hown', hB2⟩
        case measure => simp [intOf]; omega
      · obtain rfl : k = a.length := by omega
        rw [hEnd.out] at hrow
        go_wp2
        go_ret
        obtain ⟨A2, c2, rfl, hR⟩ := own_form hrow
        exact ⟨A2, c2, rfl, hR, hB⟩
  · have hf := Lib.hid (hd0 rfl)
    clear hd0 hd1
    go_enter Try.func23, Try.ntmps23
    go_wp2_with (go_at_call 28; refine hL.mono ?_; clear hL; rintro e w' ⟨rfl, rfl⟩)
    go_loopw [5, 7, 8] (fun v q i wr => ∃ k : Nat, k ≤ a.length ∧ i = .int .i64 k ∧ q = .int .u64 (-((val (a.take k) - val (b.take k)) / 2 ^ k)) ∧ wr.ownsRow w.heap.size 22 1 v k ((digs (f k) k).map (Value.int .u64)) ∧ Below w.heap.size w wr) (fun _ _ i _ => a.length - (intOf i).toNat)
    case atStart => exact ⟨0, Nat.zero_le _, rfl, by simp [val], World.ownsRow_nil _ _ _ _, Below.refl _ _⟩
    case round =>
      obtain ⟨k, hk, rfl, rfl, hrow, hB⟩ := hrel
      have b1 := val_nonneg (ha.take k)
      have b2 := val_nonneg (hb.take k)
      have b3 := Int.lt_of_lt_of_le (val_lt (ha.take k)) (p2le (show (a.take k).length ≤ k by rw [List.length_take]; omega))
      have b4 := Int.lt_of_lt_of_le (val_lt (hb.take k)) (p2le (show (b.take k).length ≤ k by rw [List.length_take]; omega))
      have hq01 := quo_neg (n := val (a.take k) - val (b.take k)) (k := k) (by omega) (by omega)
      clear b1 b2 b3 b4
      have hsz := hB.size
      by_cases hlt : k < a.length
      · have hbx := rBit_any A a c k w.heap.size wr (hra.below hB)
        have hby := rBit_any A' b c' k w.heap.size wr (hrb.below hB)
        have hs1 := val_take_succ a k
        have hs2 := val_take_succ b k
        have hx01 := ha.getD k
        have hy01 := hb.getD k
        generalize a[k]?.getD 0 = x at hbx hs1 hx01
        generalize b[k]?.getD 0 = y at hby hs2 hy01
        have hS : val (a.take (k + 1)) - val (b.take (k + 1)) = val (a.take k) - val (b.take k) + 2 ^ k * (x - y) := by rw [hs1, hs2, Int.mul_sub]; omega
        have e1 := digs_step (val (a.take k) - val (b.take k)) (x - y) k
        have e2 := quo_step (val (a.take k) - val (b.take k)) (x - y) k
        rw [← hS] at e1 e2
        generalize (val (a.take k) - val (b.take k)) / 2 ^ k = q at hq01 e1 e2 ⊢
        obtain ⟨bq, rfl⟩ : ∃ bq, q = -bq := ⟨-q, by omega⟩
        rw [Int.neg_neg]
        have hD := Lib.hid (show digs (f (k + 1)) (k + 1) = digs (f k) k ++ [0] by rw [hf.out, hf.out, digs_succ, Int.zero_ediv]; rfl)
        have hQ := Lib.hid (show -((-bq + (x - y)) / 2) = 1 - (2 + x - y - bq) / 2 by omega)
        have hE2 := Lib.hid e2
        replace hq01 : bq = 0 ∨ bq = 1 := by omega
        clear hs1 hs2 hS e1 e2
        go_wp2_with (first | (go_at_call 32; refine hbx.mono ?_; clear hbx; rintro e w' ⟨rfl, rfl⟩) | (go_at_call 32; refine hby.mono ?_; clear hby; rintro e w' ⟨rfl, rfl⟩) | (at_builtin; refine wpList_append_own _ rfl _ _ 24 rfl w.heap.size 22 i0 (.int .u64 0) 1 8 Try.underlying24 hi hz0 hz1 hz2 rfl (by decide) _ _ _ rfl (hrow.alloc _) ⟨wr.heap.size, 0, none⟩ 1 1 [.int .u64 (0)] rfl rfl (cell_one_new _ _ _) (by simp [Value.oneCell']) (by simp only [maxLen]; omega) (by omega) (by simp; omega) ?_; intro v' w2 hown' hgrow _))
        have hB2 : Below w.heap.size w w2 := (hB.alloc hsz _).grown hgrow (by simp; omega) (fun k e => (hrow.lt k e).1)
        go_roundw
        case rel => exact ⟨k + 1, by omega, by simp, by rw [hE2.out, hQ.out], by rw [hD.out]; simpa using hown', hB2⟩
        case measure => simp [intOf]; omega
      · obtain rfl : k = a.length := by omega
        rw [hEnd.out] at hrow
        go_wp2
        go_ret
        obtain ⟨A2, c2, rfl, hR⟩ := own_form hrow
        exact ⟨A2, c2, rfl, hR, hB⟩

end Go.Proofs.Ytcjibadnhhnpmaa
