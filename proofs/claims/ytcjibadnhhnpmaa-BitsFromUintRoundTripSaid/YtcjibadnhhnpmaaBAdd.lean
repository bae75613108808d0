/- Add of package bits: the bits of the sum, one more than the longer operand has, in memory of its own; nothing that lay is changed. Conditions: bit vectors of at most 1000 bits. -/
import Derived.Maps.AppendAt
import Derived.Test.YtcjibadnhhnpmaaBPairs
namespace Go.Proofs.Ytcjibadnhhnpmaa
open Go.RowKit Go.Shelf BitMath
attribute [local go_sem] Oper.semAt_some

theorem info_u64 : (Try.prog.info? 22).map (fun i => (i.zero, i.size, i.bytes)) = some (some (.int .u64 0), 1, 8) := by kernel_rfl

/-- A round that appends to a row with room and stores into two boxes: what lies behind it. -/
theorem round_end {W w2 : World} {n₀ g B0 B1 Ba Bb k cap : Nat} {tmp : Obj} {v v' q q' va vb : Value} {xs ys : List Value}
    (hrow : W.ownsRow n₀ 22 1 (.slice (some ⟨g, 0, none⟩) k cap) k xs) (hv : Boxed W B0 24 v) (h1 : Boxed W B1 22 q) (ha : Boxed W Ba 24 va) (hb : Boxed W Bb 24 vb)
    (hn : n₀ ≤ W.heap.size) (hg : n₀ ≤ g) (g0 : g < B0) (g1 : B0 < B1) (g2 : B1 < Ba) (g3 : Ba < Bb) 
    (hown : w2.ownsRow n₀ 22 1 (.slice (some ⟨g, 0, none⟩) (k + 1) cap) (k + 1) ys) (hgrow : (W.alloc tmp).grownBy w2 (some g)) :
    (Boxed w2 B0 24 v ∧ Boxed w2 B1 22 q ∧ Boxed (w2.setCell ⟨B0, 0, none⟩ v') B1 22 q) ∧
    Boxed ((w2.setCell ⟨B0, 0, none⟩ v').setCell ⟨B1, 0, none⟩ q') B0 24 v' ∧ ((w2.setCell ⟨B0, 0, none⟩ v').setCell ⟨B1, 0, none⟩ q').ownsRow n₀ 22 1 (.slice (some ⟨g, 0, none⟩) (k + 1) cap) (k + 1) ys ∧
    Boxed ((w2.setCell ⟨B0, 0, none⟩ v').setCell ⟨B1, 0, none⟩ q') B1 22 q' ∧ Boxed ((w2.setCell ⟨B0, 0, none⟩ v').setCell ⟨B1, 0, none⟩ q') Ba 24 va ∧ Boxed ((w2.setCell ⟨B0, 0, none⟩ v').setCell ⟨B1, 0, none⟩ q') Bb 24 vb ∧
    KeepsOthers W ((w2.setCell ⟨B0, 0, none⟩ v').setCell ⟨B1, 0, none⟩ q') ∧ KeepsAB n₀ Ba Bb W ((w2.setCell ⟨B0, 0, none⟩ v').setCell ⟨B1, 0, none⟩ q') := by
  have kept : ∀ {B : Nat} {t : TypeId} {u : Value}, g < B → Boxed W B t u → Boxed w2 B t u := fun hB h => (h.alloc tmp).kept hgrow (by simp; omega)
  have kept2 : ∀ {B : Nat} {t : TypeId} {u : Value}, B1 < B → Boxed W B t u → Boxed ((w2.setCell ⟨B0, 0, none⟩ v').setCell ⟨B1, 0, none⟩ q') B t u := fun hB h => ((kept (by omega) h).other (by omega) _).other (by omega) _
  refine ⟨⟨kept (by omega) hv, kept (by omega) h1, (kept (by omega) h1).other (by omega) _⟩, ((kept (by omega) hv).set v').other (by omega) _, ?_, ((kept (by omega) h1).other (by omega) _).set q', kept2 (by omega) ha, kept2 (by omega) hb, ?_, ?_, fun u h => kept2 (by omega) h, fun u h => kept2 (by omega) h⟩
  · exact (hown.kept (grownBy_setCell' w2 B0 v') (.inr (by simp [Value.ownBlock]; omega))).kept (grownBy_setCell' _ B1 q') (.inr (by simp [Value.ownBlock]; omega))
  · refine (((KeepsOthers.alloc W tmp).trans (KeepsOthers.of_grownBy hgrow fun j o ej hj => ?_)).trans (KeepsOthers.setCell _ _ _)).trans (KeepsOthers.setCell _ _ _)
    rcases (hrow.alloc tmp).2 with ⟨h, _⟩ | ⟨g', cap', cur, h, _, hgb, _⟩
    · cases h
    · cases h; cases ej; rw [hgb] at hj; cases hj; rfl
  · exact ((((Below.refl n₀ W).alloc hn tmp).grown hgrow (by simp; omega) fun j ej => by cases ej; exact hg).setCell (p := ⟨B0, 0, none⟩) (by show n₀ ≤ B0; omega) v').setCell (p := ⟨B1, 0, none⟩) (by show n₀ ≤ B1; omega) q'

/-- 'The box holds a slice that owns ..' speaks of cells alone. -/
theorem rowed_own {β : Type} (n₀ g : Nat) (k cap : β → Nat) (f : β → List Value) : Own (fun s W => W.ownsRow n₀ 22 1 (.slice (some ⟨g, 0, none⟩) (k s) (cap s)) (k s) (f s)) := by
  rintro s X Y row hr hg hrow
  refine hr.kept hg ?_
  rcases hr.2 with ⟨h, _⟩ | ⟨g', cap', cur, h, _, hgb, _⟩
  · cases h
  · cases h
    refine .inr fun e' => ?_
    obtain ⟨o, ho, hc⟩ := hrow g (by simpa [Value.ownBlock] using e'.symm)
    rw [hgb] at ho; cases ho; cases hc

theorem Rd.of_own {w : World} {base : Nat} {A : Option Addr} {n c : Nat} {xs : List Int} (h : w.ownsRow base 22 1 (.slice A n c) n (xs.map (Value.int .u64))) : Rd w.heap.size w A xs := fun hn => by
  have hl : xs.length = n := by simpa using h.1
  have hpos : 0 < n := by rw [← hl]; exact List.length_pos_iff.2 hn
  rcases h.2 with ⟨_, h0⟩ | ⟨g, cap, cur, hv, _, hh, _⟩
  · omega
  · injection hv with hA _ _
    subst hA
    refine ⟨g, 0, rfl, (Array.getElem?_eq_some_iff.1 hh).1, fun j x hx => ?_⟩
    have := h.cells (g := g) rfl j (.int .u64 x) (by rw [List.getElem?_map, hx]; rfl)
    rw [show (⟨g, 0 + j, none⟩ : Addr) = (⟨g, 0, none⟩ : Addr).add j from by unfold Addr.add; split <;> simp_all]
    exact this

set_option maxRecDepth 100000 in
set_option maxHeartbeats 4000000 in
theorem add_any (A A' : Option Addr) (c c' : Nat) (a b : List Int) (ha : Bits a) (hb : Bits b) (la : a.length ≤ 1000) (lb : b.length ≤ 1000) (w : World) (hra : Rd w.heap.size w A a) (hrb : Rd w.heap.size w A' b) :
    Calls Try.prog 19 #[.slice A a.length c, .slice A' b.length c'] w fun e w' => Row w e w' (digs (val a + val b) (max a.length b.length + 1)) := by
  obtain ⟨i0, hi, hz0, hz1, hz2⟩ := info_parts info_u64
  have hb8 : i0.bytes * (max a.length b.length + 1) ≤ 281474976710656 := by rw [hz2]; omega
  have hB8 := Lib.hid hb8
  clear hb8
  refine (callsIn_wide (n := 3)).1 ?_
  refine callsIn_of_wp_marks Try.func19 rfl trivial ?_ rfl
  simp only [Try.ntmps19, List.size_toArray, List.length_cons, List.length_nil, Nat.reduceAdd, Nat.reduceSub, Array.replicate_succ, Array.replicate_zero, List.push_toArray, List.append_toArray, List.nil_append, List.cons_append]
  gi_wp2_with (first
    | (gi_at_make; refine wpListIn_make_own _ rfl _ _ 24 rfl w.heap.size 22 i0 (.int .u64 0) 1 Try.underlying24 hi hz0 hz1 .i64 .i64 _ (max a.length b.length + 1) rfl rfl (by omega) hB8.out (by simp only [maxLen]; omega) (Nat.le_refl _) ?_; intro w1 hown1 hgrow1)
    | (refine ⟨trivial, ?_⟩; gi_at_call 31; refine (pairs_in _ _ _ _ _ _ _ _).mono ?_; rintro e w' ⟨rfl, rfl⟩))
  all_goals
    have hb1 : Below w.heap.size w w1 := (Below.refl _ w).grown hgrow1 (Nat.le_refl _) (fun k e => by cases e)
    have hg1 : w.heap.size < w1.heap.size := (hown1.lt w.heap.size rfl).2
    obtain ⟨V0, hV0⟩ : ∃ V0, V0 = Value.slice (some ⟨w.heap.size, 0, none⟩) 0 (max a.length b.length + 1) := ⟨_, rfl⟩
    have b0 := (((Boxed.new w1 24 V0).alloc (.cells #[.int .u64 0] 22)).alloc (.cells #[.slice A a.length c] 24)).alloc (.cells #[.slice A' b.length c'] 24)
    have b1 := ((Boxed.new (w1.alloc (.cells #[V0] 24)) 22 (.int .u64 0)).alloc (.cells #[.slice A a.length c] 24)).alloc (.cells #[.slice A' b.length c'] 24)
    have ba := (Boxed.new ((w1.alloc (.cells #[V0] 24)).alloc (.cells #[.int .u64 0] 22)) 24 (.slice A a.length c)).alloc (.cells #[.slice A' b.length c'] 24)
    have bb := Boxed.new (((w1.alloc (.cells #[V0] 24)).alloc (.cells #[.int .u64 0] 22)).alloc (.cells #[.slice A a.length c] 24)) 24 (.slice A' b.length c')
    have r0 := (((hown1.alloc (.cells #[V0] 24)).alloc (.cells #[.int .u64 0] 22)).alloc (.cells #[.slice A a.length c] 24)).alloc (.cells #[.slice A' b.length c'] 24)
    have hB0 : Below w.heap.size w ((((w1.alloc (.cells #[V0] 24)).alloc (.cells #[.int .u64 0] 22)).alloc (.cells #[.slice A a.length c] 24)).alloc (.cells #[.slice A' b.length c'] 24)) :=
      (((hb1.alloc hb1.size _).alloc (by simp; omega) _).alloc (by simp; omega) _).alloc (by simp; omega) _
    simp only [World.size_alloc] at b1 ba bb
    subst hV0
    refine wpIn_rangeFunc_ownG rfl (by omega) (gf := 34) (lb := #[.pointer (some ⟨w1.heap.size + 1 + 1, 0, none⟩), .pointer (some ⟨w1.heap.size + 1 + 1 + 1, 0, none⟩)]) rfl trivial (enters_of Try.func34 (by kernel_rfl) rfl)
      (pairs_stops (3 - 1) (by omega) (w1.heap.size + 1 + 1) (w1.heap.size + 1 + 1 + 1) w.heap.size A A' c c' a b ha hb la lb _ (by simp; omega) ba bb (hra.below hB0) (hrb.below hB0)) (fun h k => h.trans k) (KeepsAB.book (by simp; omega) (by simp <;> omega) (by simp <;> omega)) (Below.refl _ _) (fun _ => rfl)
      (fun pre W => ((Boxed W w1.heap.size 24 (.slice (some ⟨w.heap.size, 0, none⟩) pre.length (max a.length b.length + 1)) ∧ W.ownsRow w.heap.size 22 1 (.slice (some ⟨w.heap.size, 0, none⟩) pre.length (max a.length b.length + 1)) pre.length ((digs (v1 pre + v2 pre) pre.length).map (Value.int .u64))) ∧
        Boxed W (w1.heap.size + 1) 22 (.int .u64 ((v1 pre + v2 pre) / 2 ^ pre.length)) ∧ Boxed W (w1.heap.size + 1 + 1) 24 (.slice A a.length c) ∧ Boxed W (w1.heap.size + 1 + 1 + 1) 24 (.slice A' b.length c')) ∧ Below w.heap.size w W)
      (fun _ _ _ => False)
      (OwnFrom.and (OwnFrom.and (OwnFrom.and (Own.from (boxed_own _ _ _) _) (Own.from (rowed_own _ _ _ _ _) _)) (OwnFrom.and (Own.from (boxed_own _ _ _) _) (OwnFrom.and (Own.from (boxed_own _ _ _) _) (Own.from (boxed_own _ _ _) _)))) (ownFrom_below (Nat.le_refl _) (by simp; omega)))
      (fun _ _ _ _ _ hs _ _ => hs)
      ⟨⟨⟨b0, r0⟩, b1, ba, bb⟩, hB0⟩
      ?_ ?assign ?body ?done ?stop
    case assign =>
      intro l x W K hK
      gi_wp2
      exact hK
    case body =>
      rintro l pre ⟨⟨x, y⟩, hxy⟩ W ⟨⟨⟨hv, hrow⟩, h1, h2, h3⟩, hB⟩ hlt
      have d1 := v1_bd pre
      have d2 := v2_bd pre
      have hq01 := quo_bd (n := v1 pre + v2 pre) (k := pre.length) (by omega) (by rw [p2s]; omega)
      have hS : v1 (pre ++ [⟨(x, y), hxy⟩]) + v2 (pre ++ [⟨(x, y), hxy⟩]) = v1 pre + v2 pre + 2 ^ pre.length * (x + y) := by rw [v1_snoc, v2_snoc, Int.mul_add]; omega
      have e1 := digs_step (v1 pre + v2 pre) (x + y) pre.length
      have e2 := quo_step (v1 pre + v2 pre) (x + y) pre.length
      rw [← hS] at e1 e2
      clear hS d1 d2
      generalize (v1 pre + v2 pre) / 2 ^ pre.length = q at h1 hq01 e1 e2
      obtain ⟨dg, hdg⟩ : ∃ dg, (q + (x + y)) % 2 = dg := ⟨_, rfl⟩
      obtain ⟨nc, hnc⟩ : ∃ nc, (q + (x + y)) / 2 = nc := ⟨_, rfl⟩
      rw [hdg] at e1
      rw [hnc] at e2
      have hE1 := Lib.hid e1
      have hE2 := Lib.hid e2
      have hl1 : (pre ++ [(⟨(x, y), hxy⟩ : BB)]).length = pre.length + 1 := by simp
      have hL := Lib.hid hl1
      clear e1 e2 hl1
      have hx : x = 0 ∨ x = 1 := hxy.1
      have hy : y = 0 ∨ y = 1 := hxy.2
      have hc := hv.cell
      have hc1 := h1.cell
      have hsz := hB.size
      have hd : dg = 0 ∨ dg = 1 := by omega
      have hn : nc = 0 ∨ nc = 1 := by omega
      rcases hx with rfl | rfl <;> rcases hy with rfl | rfl <;> rcases hq01 with rfl | rfl <;> rcases hd with rfl | rfl <;> rcases hn with rfl | rfl <;> first | (exfalso; revert hdg; decide) | (exfalso; revert hnc; decide) | skip
      all_goals
        clear hdg hnc
        gi_wp2_with (first
          | (gi_at_builtin; refine wpListIn_append_fits _ rfl _ _ 24 rfl w.heap.size 22 i0 1 Try.underlying24 hi hz1 w.heap.size pre.length (max a.length b.length + 1) _ rfl (hrow.alloc _) ⟨W.heap.size, 0, none⟩ 1 1 [.int .u64 0] rfl rfl (cell_one_new _ _ _) (by simp [Value.oneCell']) (by omega) ?_; intro w2 hown2 hgrow2; have R := fun q' : Value => round_end (v' := Value.slice (some ⟨w.heap.size, 0, none⟩) (pre.length + 1) (max a.length b.length + 1)) (q' := q') hrow hv h1 h2 h3 hsz (Nat.le_refl _) hg1 (by omega) (by omega) (by omega) hown2 hgrow2; obtain ⟨k0, k1, k2⟩ := (R undef).1; have f0 := k0.cell; have f1 := k0.frozen; have f2 := k2.cell; have f3 := k2.frozen; have hR := Lib.hid R; clear R k0 k1 k2 hown2 hgrow2)
          | (gi_at_builtin; refine wpListIn_append_fits _ rfl _ _ 24 rfl w.heap.size 22 i0 1 Try.underlying24 hi hz1 w.heap.size pre.length (max a.length b.length + 1) _ rfl (hrow.alloc _) ⟨W.heap.size, 0, none⟩ 1 1 [.int .u64 1] rfl rfl (cell_one_new _ _ _) (by simp [Value.oneCell']) (by omega) ?_; intro w2 hown2 hgrow2; have R := fun q' : Value => round_end (v' := Value.slice (some ⟨w.heap.size, 0, none⟩) (pre.length + 1) (max a.length b.length + 1)) (q' := q') hrow hv h1 h2 h3 hsz (Nat.le_refl _) hg1 (by omega) (by omega) (by omega) hown2 hgrow2; obtain ⟨k0, k1, k2⟩ := (R undef).1; have f0 := k0.cell; have f1 := k0.frozen; have f2 := k2.cell; have f3 := k2.frozen; have hR := Lib.hid R; clear R k0 k1 k2 hown2 hgrow2))
        obtain ⟨_, r0, r1, r2, r3, r4, r5, r6⟩ := hR.out _
        refine ⟨r5.from _, r6, ⟨⟨by rw [hL.out]; exact r0, ?_⟩, ?_, r3, r4⟩, hB.trans r6.1⟩
        · rw [hL.out, hE1.out]; simpa using r1
        · rw [hL.out, hE2.out]; exact r2
    case done =>
      rintro D ys W hD rfl ⟨⟨⟨hv, hrow⟩, h1, _, _⟩, hB⟩ hK
      rw [upto_length] at hv hrow h1
      rw [v1_upto, v2_upto, take_all (by omega), take_all (by omega)] at hrow h1
      have a1 := val_nonneg ha
      have a2 := val_nonneg hb
      have a3 := Int.lt_of_lt_of_le (val_lt ha) (p2le (Nat.le_max_left a.length b.length))
      have a4 := Int.lt_of_lt_of_le (val_lt hb) (p2le (Nat.le_max_right a.length b.length))
      have hq01 := quo_bd (n := val a + val b) (k := max a.length b.length) (by omega) (by rw [p2s]; omega)
      have e1 := digs_succ (val a + val b) (max a.length b.length)
      generalize (val a + val b) / 2 ^ max a.length b.length = q at h1 hq01 e1
      rw [show q % 2 = q from by omega] at e1
      have hE1 := Lib.hid e1
      clear a1 a2 a3 a4 e1
      have hc := hv.cell
      have hc1 := h1.cell
      have hsz := hB.size
      simp only [World.size_alloc] at hD
      gi_wp2_with (gi_at_builtin; refine wpListIn_append_fits _ rfl _ _ 24 rfl w.heap.size 22 i0 1 Try.underlying24 hi hz1 w.heap.size (max a.length b.length) (max a.length b.length + 1) _ rfl (hrow.alloc _) ⟨W.heap.size, 0, none⟩ 1 1 [.int .u64 q] rfl rfl (cell_one_new _ _ _) (by simp [Value.oneCell']) (by omega) ?_; intro w2 hown2 hgrow2)
      have hK2 : w2.heap[D]? = some (.deferred (some [])) := (hgrow2.block D (by have := (Array.getElem?_eq_some_iff.1 hK).1; simp; omega) (by simp; omega)).trans ((Below.heap_alloc W _ D (Array.getElem?_eq_some_iff.1 hK).1).trans hK)
      have hB2 : Below w.heap.size w w2 := (hB.alloc hsz _).grown hgrow2 (by simp; omega) (fun k e => by cases e; exact Nat.le_refl _)
      refine ⟨by simp, .inl ⟨_, _, rfl, run_takeDeferred hK2, ?_⟩⟩
      refine ⟨_, results_tmp rfl _ _ _, some ⟨w.heap.size, 0, none⟩, max a.length b.length + 1, by rw [digs_length]; rfl, ?_, hB2.trans (belowK_b (w := w) (Nat.le_refl _) w2 D _ _ (by omega) hK2 rfl rfl)⟩
      rw [hE1.out]
      exact Rd.of_own (base := w.heap.size) (n := max a.length b.length + 1) (c := max a.length b.length + 1) (by simpa using ownsRow_putObj hown2 (.deferred none) hK2 rfl)
    case stop =>
      rintro D c pre W _ _ h _
      exact h.elim

end Go.Proofs.Ytcjibadnhhnpmaa
