/- SaturatingSub of package bits: the bits of the difference, or zeros where the subtrahend is greater, as many as the minuend has, in memory of its own; nothing that lay is changed. Conditions: bit vectors of at most 1000 bits. -/
import Derived.Test.YtcjibadnhhnpmaaBAdd
import Derived.Test.YtcjibadnhhnpmaaBLess
namespace Go.Proofs.Ytcjibadnhhnpmaa
open Go.RowKit Go.Shelf BitMath
attribute [local go_sem] Oper.semAt_some

/-- The difference, or 0 where it is negative. -/
def ssub (x y : Int) : Int := if x < y then 0 else x - y

theorem digs_take (n : Int) {k m : Nat} (h : k ≤ m) : (digs n m).take k = digs n k := by
  unfold digs upto
  rw [← List.map_take, List.take_range, Nat.min_eq_left h]

theorem digs_zero (k : Nat) : digs 0 k = List.replicate k 0 := (eq_digs (Bits.replicate k) (by simp) (by rw [val_replicate]; simp)).symm

theorem sub_less (A A' : Option Addr) (c c' : Nat) (a b : List Int) (ha : Bits a) (hb : Bits b) (la : a.length ≤ 1000) (lb : b.length ≤ 1000) (w : World) (hra : Rd w.heap.size w A a) (hrb : Rd w.heap.size w A' b) (hlt : val a < val b) :
    Calls Try.prog 22 #[.slice A a.length c, .slice A' b.length c'] w fun e w' => Row w e w' (digs (ssub (val a) (val b)) a.length) := by
  obtain ⟨i0, hi, hz0, hz1, hz2⟩ := info_parts info_u64
  have hb8 : i0.bytes * a.length ≤ 281474976710656 := by rw [hz2]; omega
  have hB8 := Lib.hid hb8
  clear hb8
  have hL : Calls Try.prog 24 #[.slice A a.length c, .slice A' b.length c'] w fun e w' => e = .returned (.int .u64 1) ∧ Below w.heap.size w w' := by
    have := less_any A A' c c' a b ha hb la lb w hra hrb
    rwa [show lt01 (val a) (val b) = 1 from if_pos hlt] at this
  have he : ssub (val a) (val b) = 0 := if_pos hlt
  rw [he, digs_zero]
  clear hlt he
  go_enter Try.func22, Try.ntmps22
  go_wp2_with (first
    | (go_at_call 24; refine hL.mono ?_; clear hL; rintro e wl ⟨rfl, hbl⟩)
    | (at_make; refine wpList_make_full _ rfl _ _ 24 rfl wl.heap.size 22 i0 (.int .u64 0) 1 Try.underlying24 hi hz0 hz1 .i64 .i64 _ _ a.length rfl rfl rfl rfl hB8.out (by simp only [maxLen]; omega) (Nat.le_refl _) ?_; intro w1 hown1 hgrow1))
  go_ret
  refine ⟨_, _, by simp; exact ⟨rfl, rfl⟩, ?_, hbl.grown hgrow1 hbl.size (fun k e => by cases e)⟩
  simp only [Value.cells, toList_madeCells_one, Nat.mul_one] at hown1
  exact Rd.of_own (base := wl.heap.size) (n := a.length) (c := a.length) (by simpa using hown1)

set_option maxRecDepth 100000 in
set_option maxHeartbeats 4000000 in
theorem sub_ge (A A' : Option Addr) (c c' : Nat) (a b : List Int) (ha : Bits a) (hb : Bits b) (la : a.length ≤ 1000) (lb : b.length ≤ 1000) (w : World) (hra : Rd w.heap.size w A a) (hrb : Rd w.heap.size w A' b) (hge : val b ≤ val a) :
    Calls Try.prog 22 #[.slice A a.length c, .slice A' b.length c'] w fun e w' => Row w e w' (digs (ssub (val a) (val b)) a.length) := by
  obtain ⟨i0, hi, hz0, hz1, hz2⟩ := info_parts info_u64
  have hb8 : i0.bytes * (max a.length b.length) ≤ 281474976710656 := by rw [hz2]; omega
  have hB8 := Lib.hid hb8
  clear hb8
  have hL : Calls Try.prog 24 #[.slice A a.length c, .slice A' b.length c'] w fun e w' => e = .returned (.int .u64 0) ∧ Below w.heap.size w w' := by
    have := less_any A A' c c' a b ha hb la lb w hra hrb
    rwa [show lt01 (val a) (val b) = 0 from if_neg (by omega)] at this
  have he : ssub (val a) (val b) = val a - val b := if_neg (by omega)
  rw [he]
  clear he hge
  refine (callsIn_wide (n := 3)).1 ?_
  refine callsIn_of_wp_marks Try.func22 rfl trivial ?_ rfl
  simp only [Try.ntmps22, List.size_toArray, List.length_cons, List.length_nil, Nat.reduceAdd, Nat.reduceSub, Array.replicate_succ, Array.replicate_zero, List.push_toArray, List.append_toArray, List.nil_append, List.cons_append]
  gi_wp2_with (first
    | (refine ⟨trivial, ?_⟩; gi_at_call 24; refine (callsIn_wide.2 hL).mono ?_; clear hL; rintro e wl ⟨rfl, hbl⟩)
    | (gi_at_make; refine wpListIn_make_own _ rfl _ _ 24 rfl w.heap.size 22 i0 (.int .u64 0) 1 Try.underlying24 hi hz0 hz1 .i64 .i64 _ (max a.length b.length) rfl rfl (by omega) hB8.out (by simp only [maxLen]; omega) hbl.size ?_; intro w1 hown1 hgrow1)
    | (refine ⟨trivial, ?_⟩; gi_at_call 31; refine (pairs_in _ _ _ _ _ _ _ _).mono ?_; rintro e w' ⟨rfl, rfl⟩))
  all_goals
    have hb1 : Below w.heap.size w w1 := hbl.grown hgrow1 hbl.size (fun k e => by cases e)
    have hwl := hbl.size
    have hg1 : wl.heap.size < w1.heap.size := (hown1.lt wl.heap.size rfl).2
    obtain ⟨V0, hV0⟩ : ∃ V0, V0 = Value.slice (some ⟨wl.heap.size, 0, none⟩) 0 (max a.length b.length) := ⟨_, rfl⟩
    have b0 := (((Boxed.new w1 24 V0).alloc (.cells #[.int .u64 0] 22)).alloc (.cells #[.slice A a.length c] 24)).alloc (.cells #[.slice A' b.length c'] 24)
    have b1 := ((Boxed.new (w1.alloc (.cells #[V0] 24)) 22 (.int .u64 0)).alloc (.cells #[.slice A a.length c] 24)).alloc (.cells #[.slice A' b.length c'] 24)
    have ba := (Boxed.new ((w1.alloc (.cells #[V0] 24)).alloc (.cells #[.int .u64 0] 22)) 24 (.slice A a.length c)).alloc (.cells #[.slice A' b.length c'] 24)
    have bb := Boxed.new (((w1.alloc (.cells #[V0] 24)).alloc (.cells #[.int .u64 0] 22)).alloc (.cells #[.slice A a.length c] 24)) 24 (.slice A' b.length c')
    have r0 := (((hown1.alloc (.cells #[V0] 24)).alloc (.cells #[.int .u64 0] 22)).alloc (.cells #[.slice A a.length c] 24)).alloc (.cells #[.slice A' b.length c'] 24)
    have hB0 : Below w.heap.size w ((((w1.alloc (.cells #[V0] 24)).alloc (.cells #[.int .u64 0] 22)).alloc (.cells #[.slice A a.length c] 24)).alloc (.cells #[.slice A' b.length c'] 24)) :=
      (((hb1.alloc hb1.size _).alloc (by simp; omega) _).alloc (by simp; omega) _).alloc (by simp; omega) _
    simp only [World.size_alloc] at b1 ba bb
    subst hV0
    refine wpIn_rangeFunc_ownG rfl (by omega) (gf := 34) (lb := #[.pointer (some ⟨w1.heap.size + 1 + 1, 0, none⟩), .pointer (some ⟨w1.heap.size + 1 + 1 + 1, 0, none⟩)]) rfl trivial (enters_of Try.func34 (by kernel_rfl) rfl)
      (pairs_stops (3 - 1) (by omega) (w1.heap.size + 1 + 1) (w1.heap.size + 1 + 1 + 1) w.heap.size A A' c c' a b ha hb la lb _ (by simp; omega) ba bb (hra.below hB0) (hrb.below hB0)) (fun h k => h.trans k) (KeepsAB.book (by simp; omega) (by simp <;> omega) (by simp <;> omega)) (Below.refl _ _) (fun _ => rfl)
      (fun pre W => ((Boxed W w1.heap.size 24 (.slice (some ⟨wl.heap.size, 0, none⟩) pre.length (max a.length b.length)) ∧ W.ownsRow w.heap.size 22 1 (.slice (some ⟨wl.heap.size, 0, none⟩) pre.length (max a.length b.length)) pre.length ((digs (v1 pre - v2 pre) pre.length).map (Value.int .u64))) ∧
        Boxed W (w1.heap.size + 1) 22 (.int .u64 (-((v1 pre - v2 pre) / 2 ^ pre.length))) ∧ Boxed W (w1.heap.size + 1 + 1) 24 (.slice A a.length c) ∧ Boxed W (w1.heap.size + 1 + 1 + 1) 24 (.slice A' b.length c')) ∧ Below w.heap.size w W)
      (fun _ _ _ => False)
      (OwnFrom.and (OwnFrom.and (OwnFrom.and (Own.from (boxed_own _ _ _) _) (Own.from (rowed_own _ _ _ _ _) _)) (OwnFrom.and (Own.from (boxed_own _ _ _) _) (OwnFrom.and (Own.from (boxed_own _ _ _) _) (Own.from (boxed_own _ _ _) _)))) (ownFrom_below (Nat.le_refl _) (by simp; omega)))
      (fun _ _ _ _ _ hs _ _ => hs)
      ⟨⟨⟨b0, r0⟩, by simpa [v1, v2, val] using b1, ba, bb⟩, hB0⟩
      ?_ ?assign ?body ?done ?stop
    case assign =>
      intro l x W K hK
      gi_wp2
      exact hK
    case body =>
      rintro l pre ⟨⟨x, y⟩, hxy⟩ W ⟨⟨⟨hv, hrow⟩, h1, h2, h3⟩, hB⟩ hlt
      have d1 := v1_bd pre
      have d2 := v2_bd pre
      have hq01 := quo_neg (n := v1 pre - v2 pre) (k := pre.length) (by omega) (by omega)
      have hS : v1 (pre ++ [⟨(x, y), hxy⟩]) - v2 (pre ++ [⟨(x, y), hxy⟩]) = v1 pre - v2 pre + 2 ^ pre.length * (x - y) := by rw [v1_snoc, v2_snoc, Int.mul_sub]; omega
      have e1 := digs_step (v1 pre - v2 pre) (x - y) pre.length
      have e2 := quo_step (v1 pre - v2 pre) (x - y) pre.length
      rw [← hS] at e1 e2
      clear hS d1 d2
      generalize (v1 pre - v2 pre) / 2 ^ pre.length = q at h1 hq01 e1 e2
      obtain ⟨bq, rfl⟩ : ∃ bq, q = -bq := ⟨-q, by omega⟩
      rw [Int.neg_neg] at h1
      obtain ⟨dg, hdg⟩ : ∃ dg, (-bq + (x - y)) % 2 = dg := ⟨_, rfl⟩
      obtain ⟨nc, hnc⟩ : ∃ nc, -((-bq + (x - y)) / 2) = nc := ⟨_, rfl⟩
      rw [hdg] at e1
      rw [show (-bq + (x - y)) / 2 = -nc from by omega] at e2
      replace hq01 : bq = 0 ∨ bq = 1 := by omega
      have hE1 := Lib.hid e1
      have hE2 := Lib.hid e2
      have hl1 : (pre ++ [(⟨(x, y), hxy⟩ : BB)]).length = pre.length + 1 := by simp
      have hL := Lib.hid hl1
      clear e1 e2 hl1
      have hx : x = 0 ∨ x = 1 := hxy.1
      have hy : y = 0 ∨ y = 1 := hxy.2
      have hc := hv.cell
      have hc1 := h1.cell
      have hsz := hB.size
      have hd : dg = 0 ∨ dg = 1 := by omega
      have hn : nc = 0 ∨ nc = 1 := by omega
      rcases hx with rfl | rfl <;> rcases hy with rfl | rfl <;> rcases hq01 with rfl | rfl <;> rcases hd with rfl | rfl <;> rcases hn with rfl | rfl <;> first | (exfalso; revert hdg; decide) | (exfalso; revert hnc; decide) | skip
      all_goals
        clear hdg hnc
        gi_wp2_with (first
          | (gi_at_builtin; refine wpListIn_append_fits _ rfl _ _ 24 rfl w.heap.size 22 i0 1 Try.underlying24 hi hz1 wl.heap.size pre.length (max a.length b.length) _ rfl (hrow.alloc _) ⟨W.heap.size, 0, none⟩ 1 1 [.int .u64 0] rfl rfl (cell_one_new _ _ _) (by simp [Value.oneCell']) (by omega) ?_; intro w2 hown2 hgrow2; have R := fun q' : Value => round_end (v' := Value.slice (some ⟨wl.heap.size, 0, none⟩) (pre.length + 1) (max a.length b.length)) (q' := q') hrow hv h1 h2 h3 hsz hwl hg1 (by omega) (by omega) (by omega) hown2 hgrow2; obtain ⟨k0, k1, k2⟩ := (R undef).1; have f0 := k0.cell; have f1 := k0.frozen; have f2 := k2.cell; have f3 := k2.frozen; have hR := Lib.hid R; clear R k0 k1 k2 hown2 hgrow2)
          | (gi_at_builtin; refine wpListIn_append_fits _ rfl _ _ 24 rfl w.heap.size 22 i0 1 Try.underlying24 hi hz1 wl.heap.size pre.length (max a.length b.length) _ rfl (hrow.alloc _) ⟨W.heap.size, 0, none⟩ 1 1 [.int .u64 1] rfl rfl (cell_one_new _ _ _) (by simp [Value.oneCell']) (by omega) ?_; intro w2 hown2 hgrow2; have R := fun q' : Value => round_end (v' := Value.slice (some ⟨wl.heap.size, 0, none⟩) (pre.length + 1) (max a.length b.length)) (q' := q') hrow hv h1 h2 h3 hsz hwl hg1 (by omega) (by omega) (by omega) hown2 hgrow2; obtain ⟨k0, k1, k2⟩ := (R undef).1; have f0 := k0.cell; have f1 := k0.frozen; have f2 := k2.cell; have f3 := k2.frozen; have hR := Lib.hid R; clear R k0 k1 k2 hown2 hgrow2))
        obtain ⟨_, r0, r1, r2, r3, r4, r5, r6⟩ := hR.out _
        refine ⟨r5.from _, r6, ⟨⟨by rw [hL.out]; exact r0, ?_⟩, ?_, r3, r4⟩, hB.trans r6.1⟩
        · rw [hL.out, hE1.out]; simpa using r1
        · rw [hL.out, hE2.out, Int.neg_neg]; exact r2
    case done =>
      rintro D ys W hD rfl ⟨⟨⟨hv, hrow⟩, h1, _, _⟩, hB⟩ hK
      rw [upto_length] at hv hrow h1
      rw [v1_upto, v2_upto, take_all (by omega), take_all (by omega)] at hrow h1
      clear h1
      have hc := hv.cell
      have hsz := hB.size
      have hmx : a.length ≤ max a.length b.length := Nat.le_max_left _ _
      simp only [World.size_alloc] at hD
      gi_wp2
      refine ⟨by simp, .inl ⟨_, _, rfl, run_takeDeferred hK, ?_⟩⟩
      refine ⟨_, results_tmp rfl _ _ _, some ⟨wl.heap.size, 0, none⟩, max a.length b.length, by rw [digs_length]; rfl, ?_, hB.trans (belowK_b (w := w) (Nat.le_refl _) W D _ _ (by omega) hK rfl rfl)⟩
      have R := (Rd.of_own (base := w.heap.size) (n := max a.length b.length) (c := max a.length b.length) (ownsRow_putObj hrow (.deferred none) hK rfl)).take a.length
      rw [digs_take _ hmx] at R
      exact R
    case stop =>
      rintro D c pre W _ _ h _
      exact h.elim

theorem sub_any (A A' : Option Addr) (c c' : Nat) (a b : List Int) (ha : Bits a) (hb : Bits b) (la : a.length ≤ 1000) (lb : b.length ≤ 1000) (w : World) (hra : Rd w.heap.size w A a) (hrb : Rd w.heap.size w A' b) :
    Calls Try.prog 22 #[.slice A a.length c, .slice A' b.length c'] w fun e w' => Row w e w' (digs (ssub (val a) (val b)) a.length) := by
  rcases Int.lt_or_le (val a) (val b) with h | h
  · exact sub_less A A' c c' a b ha hb la lb w hra hrb h
  · exact sub_ge A A' c c' a b ha hb la lb w hra hrb h

end Go.Proofs.Ytcjibadnhhnpmaa
