/- Less and Equal of package bits: 1 or 0, as the values compare; nothing that lay is changed. Conditions: bit vectors of at most 1000 bits. -/
import Derived.Test.YtcjibadnhhnpmaaBPairs
namespace Go.Proofs.Ytcjibadnhhnpmaa
open Go.RowKit Go.Shelf BitMath
attribute [local go_sem] Oper.semAt_some

/-- 1 where x is less than y, and 0 elsewhere. -/
def lt01 (x y : Int) : Int := if x < y then 1 else 0
/-- 1 where x is y, and 0 elsewhere. -/
def eq01 (x y : Int) : Int := if x = y then 1 else 0

theorem lt01_step (pre : List BB) (x y : Int) (h) : lt01 (v1 (pre ++ [⟨(x, y), h⟩])) (v2 (pre ++ [⟨(x, y), h⟩])) = if x = y then lt01 (v1 pre) (v2 pre) else y := by
  rw [v1_snoc, v2_snoc]
  have h1 := v1_bd pre
  have h2 := v2_bd pre
  generalize v1 pre = a at *
  generalize v2 pre = b at *
  generalize (2 : Int) ^ pre.length = p at *
  have hx : x = 0 ∨ x = 1 := h.1
  have hy : y = 0 ∨ y = 1 := h.2
  unfold lt01
  rcases hx with rfl | rfl <;> rcases hy with rfl | rfl <;> simp <;> omega

set_option maxRecDepth 100000 in
set_option maxHeartbeats 2000000 in
theorem less_any (A A' : Option Addr) (c c' : Nat) (a b : List Int) (ha : Bits a) (hb : Bits b) (la : a.length ≤ 1000) (lb : b.length ≤ 1000) (w : World) (hra : Rd w.heap.size w A a) (hrb : Rd w.heap.size w A' b) :
    Calls Try.prog 24 #[.slice A a.length c, .slice A' b.length c'] w fun e w' => e = .returned (.int .u64 (lt01 (val a) (val b))) ∧ Below w.heap.size w w' := by
  refine (callsIn_wide (n := 3)).1 ?_
  refine callsIn_of_wp_marks Try.func24 rfl trivial ?_ rfl
  simp only [Try.ntmps24, List.size_toArray, List.length_cons, List.length_nil, Nat.reduceAdd, Nat.reduceSub, Array.replicate_succ, Array.replicate_zero, List.push_toArray, List.append_toArray, List.nil_append, List.cons_append]
  gi_wp2_with (refine ⟨trivial, ?_⟩; gi_at_call 31; refine (pairs_in _ _ _ _ _ _ _ _).mono ?_; rintro e w' ⟨rfl, rfl⟩)
  have b0 := ((Boxed.new w 22 (.int .u64 0)).alloc (.cells #[.slice A a.length c] 24)).alloc (.cells #[.slice A' b.length c'] 24)
  have ba := (Boxed.new (w.alloc (.cells #[.int .u64 0] 22)) 24 (.slice A a.length c)).alloc (.cells #[.slice A' b.length c'] 24)
  have bb := Boxed.new ((w.alloc (.cells #[.int .u64 0] 22)).alloc (.cells #[.slice A a.length c] 24)) 24 (.slice A' b.length c')
  simp only [World.size_alloc] at ba bb
  have hB0 : Below w.heap.size w (((w.alloc (.cells #[.int .u64 0] 22)).alloc (.cells #[.slice A a.length c] 24)).alloc (.cells #[.slice A' b.length c'] 24)) :=
    (((Below.refl _ w).alloc (Nat.le_refl _) _).alloc (by simp) _).alloc (by simp; omega) _
  refine wpIn_rangeFunc_ownG rfl (by omega) (gf := 34) (lb := #[.pointer (some ⟨w.heap.size + 1, 0, none⟩), .pointer (some ⟨w.heap.size + 1 + 1, 0, none⟩)]) rfl trivial (enters_of Try.func34 (by kernel_rfl) rfl)
    (pairs_stops (3 - 1) (by omega) (w.heap.size + 1) (w.heap.size + 1 + 1) w.heap.size A A' c c' a b ha hb la lb _ (by simp <;> omega) ba bb (hra.below hB0) (hrb.below hB0)) (fun h k => h.trans k) (KeepsAB.book (by simp <;> omega) (by simp <;> omega) (by simp <;> omega)) (Below.refl _ _) (fun _ => rfl)
    (fun pre W => (Boxed W w.heap.size 22 (.int .u64 (lt01 (v1 pre) (v2 pre))) ∧ Boxed W (w.heap.size + 1) 24 (.slice A a.length c) ∧ Boxed W (w.heap.size + 1 + 1) 24 (.slice A' b.length c')) ∧ Below w.heap.size w W)
    (fun _ _ _ => False)
    (OwnFrom.and (OwnFrom.and (Own.from (boxed_own _ _ _) _) (OwnFrom.and (Own.from (boxed_own _ _ _) _) (Own.from (boxed_own _ _ _) _))) (ownFrom_below (Nat.le_refl _) (by simp; omega)))
    (fun _ _ _ _ _ hs _ _ => hs)
    ⟨⟨b0, ba, bb⟩, hB0⟩
    (fun x => { tmps := #[.slice A a.length c, .slice A' b.length c', undef, undef, .int .u64 0, .pointer (some ⟨w.heap.size, 0, none⟩), .int .u64 x.1.1, .int .u64 x.1.2, .slice A a.length c, .slice A' b.length c', .func (.func 34) #[] #[.pointer (some ⟨w.heap.size + 1, 0, none⟩), .pointer (some ⟨w.heap.size + 1 + 1, 0, none⟩)], .int .u64 x.1.1, .int .u64 x.1.2, undef, undef, undef, undef, undef], defers := [] }) ?assign ?body ?done ?stop
  case assign =>
    intro l x W K hK
    gi_wp2
    exact hK
  case body =>
    rintro l pre ⟨⟨x, y⟩, hxy⟩ W ⟨⟨h0, h1, h2⟩, hB⟩ _
    have hstep := Lib.hid (lt01_step pre x y hxy)
    have hx : x = 0 ∨ x = 1 := hxy.1
    have hy : y = 0 ∨ y = 1 := hxy.2
    have hc := h0.cell
    have hf := h0.frozen
    rcases hx with rfl | rfl <;> rcases hy with rfl | rfl
    · gi_wp2
      have e := hstep.out
      exact ⟨KeepsFrom.refl _ _, KeepsAB.refl _ _ _ _, ⟨by rw [e]; exact h0, h1, h2⟩, hB⟩
    · gi_wp2
      have e := hstep.out
      exact ⟨(KeepsOthers.setCell _ _ _).from _, ⟨(Below.refl w.heap.size W).setCell (p := ⟨w.heap.size, 0, none⟩) (Nat.le_refl _) _, fun _ h => h.other (by omega) _, fun _ h => h.other (by omega) _⟩,
        ⟨by rw [e]; exact h0.set _, h1.other (by omega) _, h2.other (by omega) _⟩, hB.setCell (p := ⟨w.heap.size, 0, none⟩) (Nat.le_refl _) _⟩
    · gi_wp2
      have e := hstep.out
      exact ⟨(KeepsOthers.setCell _ _ _).from _, ⟨(Below.refl w.heap.size W).setCell (p := ⟨w.heap.size, 0, none⟩) (Nat.le_refl _) _, fun _ h => h.other (by omega) _, fun _ h => h.other (by omega) _⟩,
        ⟨by rw [e]; exact h0.set _, h1.other (by omega) _, h2.other (by omega) _⟩, hB.setCell (p := ⟨w.heap.size, 0, none⟩) (Nat.le_refl _) _⟩
    · gi_wp2
      have e := hstep.out
      exact ⟨KeepsFrom.refl _ _, KeepsAB.refl _ _ _ _, ⟨by rw [e]; exact h0, h1, h2⟩, hB⟩
  case done =>
    rintro D ys W hD rfl ⟨⟨h0, _, _⟩, hB⟩ hK
    rw [v1_upto, v2_upto, take_all (by omega), take_all (by omega)] at h0
    have hc := h0.cell
    gi_wp2
    refine ⟨by simp, .inl ⟨_, _, rfl, run_takeDeferred hK, ?_⟩⟩
    exact ⟨_, results_tmp rfl _ _ _, rfl, hB.trans (belowK_b (w := w) (Nat.le_refl _) W D _ _ (by simp at hD; omega) hK rfl rfl)⟩
  case stop =>
    rintro D c pre W _ _ h _
    exact h.elim

theorem eq_of_take {a b : List Int} (ha : Bits a) (hb : Bits b) (k : Nat) (h : val (a.take k) ≠ val (b.take k)) : val a ≠ val b := fun e => h (by rw [val_take_emod ha, val_take_emod hb, e])

set_option maxRecDepth 100000 in
set_option maxHeartbeats 2000000 in
theorem equal_any (A A' : Option Addr) (c c' : Nat) (a b : List Int) (ha : Bits a) (hb : Bits b) (la : a.length ≤ 1000) (lb : b.length ≤ 1000) (w : World) (hra : Rd w.heap.size w A a) (hrb : Rd w.heap.size w A' b) :
    Calls Try.prog 25 #[.slice A a.length c, .slice A' b.length c'] w fun e w' => e = .returned (.int .u64 (eq01 (val a) (val b))) ∧ Below w.heap.size w w' := by
  refine (callsIn_wide (n := 3)).1 ?_
  refine callsIn_of_wp_marks Try.func25 rfl trivial ?_ rfl
  simp only [Try.ntmps25, List.size_toArray, List.length_cons, List.length_nil, Nat.reduceAdd, Nat.reduceSub, Array.replicate_succ, Array.replicate_zero, List.push_toArray, List.append_toArray, List.nil_append, List.cons_append]
  gi_wp2_with (refine ⟨trivial, ?_⟩; gi_at_call 31; refine (pairs_in _ _ _ _ _ _ _ _).mono ?_; rintro e w' ⟨rfl, rfl⟩)
  have b0 := ((Boxed.new w 22 (.int .u64 0)).alloc (.cells #[.slice A a.length c] 24)).alloc (.cells #[.slice A' b.length c'] 24)
  have ba := (Boxed.new (w.alloc (.cells #[.int .u64 0] 22)) 24 (.slice A a.length c)).alloc (.cells #[.slice A' b.length c'] 24)
  have bb := Boxed.new ((w.alloc (.cells #[.int .u64 0] 22)).alloc (.cells #[.slice A a.length c] 24)) 24 (.slice A' b.length c')
  simp only [World.size_alloc] at ba bb
  have hB0 : Below w.heap.size w (((w.alloc (.cells #[.int .u64 0] 22)).alloc (.cells #[.slice A a.length c] 24)).alloc (.cells #[.slice A' b.length c'] 24)) :=
    (((Below.refl _ w).alloc (Nat.le_refl _) _).alloc (by simp) _).alloc (by simp; omega) _
  refine wpIn_rangeFunc_ownG rfl (by omega) (gf := 34) (lb := #[.pointer (some ⟨w.heap.size + 1, 0, none⟩), .pointer (some ⟨w.heap.size + 1 + 1, 0, none⟩)]) rfl trivial (enters_of Try.func34 (by kernel_rfl) rfl)
    (pairs_stops (3 - 1) (by omega) (w.heap.size + 1) (w.heap.size + 1 + 1) w.heap.size A A' c c' a b ha hb la lb _ (by simp <;> omega) ba bb (hra.below hB0) (hrb.below hB0)) (fun h k => h.trans k) (KeepsAB.book (by simp <;> omega) (by simp <;> omega) (by simp <;> omega)) (Below.refl _ _) (fun _ => rfl)
    (fun pre W => (v1 pre = v2 pre ∧ Boxed W w.heap.size 22 (.int .u64 0) ∧ Boxed W (w.heap.size + 1) 24 (.slice A a.length c) ∧ Boxed W (w.heap.size + 1 + 1) 24 (.slice A' b.length c')) ∧ Below w.heap.size w W)
    (fun j pre W => (j = .ret ∧ v1 pre ≠ v2 pre ∧ Boxed W w.heap.size 22 (.int .u64 0)) ∧ Below w.heap.size w W)
    (OwnFrom.and (OwnFrom.and (ownFrom_pure _ _) (OwnFrom.and (Own.from (boxed_own _ _ _) _) (OwnFrom.and (Own.from (boxed_own _ _ _) _) (Own.from (boxed_own _ _ _) _)))) (ownFrom_below (Nat.le_refl _) (by simp; omega)))
    (fun _ => OwnFrom.and (OwnFrom.and (ownFrom_pure _ _) (OwnFrom.and (ownFrom_pure _ _) (Own.from (boxed_own _ _ _) _))) (ownFrom_below (Nat.le_refl _) (by simp; omega)))
    ⟨⟨rfl, b0, ba, bb⟩, hB0⟩
    (fun x => { tmps := #[.slice A a.length c, .slice A' b.length c', undef, undef, .pointer (some ⟨w.heap.size, 0, none⟩), .int .u64 x.1.1, .int .u64 x.1.2, .slice A a.length c, .slice A' b.length c', .func (.func 34) #[] #[.pointer (some ⟨w.heap.size + 1, 0, none⟩), .pointer (some ⟨w.heap.size + 1 + 1, 0, none⟩)], .int .u64 x.1.1, .int .u64 x.1.2, undef, undef, undef], defers := [] }) ?assign ?body ?done ?stop
  case assign =>
    intro l x W K hK
    gi_wp2
    exact hK
  case body =>
    rintro l pre ⟨⟨x, y⟩, hxy⟩ W ⟨⟨hv, h0, h1, h2⟩, hB⟩ _
    have hs1 := Lib.hid (v1_snoc pre x y hxy)
    have hs2 := Lib.hid (v2_snoc pre x y hxy)
    have hp := p2 pre.length
    have hV := Lib.hid hv
    clear hv
    have hx : x = 0 ∨ x = 1 := hxy.1
    have hy : y = 0 ∨ y = 1 := hxy.2
    have hc := h0.cell
    have hf := h0.frozen
    rcases hx with rfl | rfl <;> rcases hy with rfl | rfl
    · gi_wp2
      exact ⟨KeepsFrom.refl _ _, KeepsAB.refl _ _ _ _, ⟨by rw [hs1.out, hs2.out, hV.out], h0, h1, h2⟩, hB⟩
    · gi_wp2
      exact ⟨(KeepsOthers.setCell _ _ _).from _, ⟨rfl, by rw [hs1.out, hs2.out, hV.out]; omega, h0.set _⟩, hB.setCell (p := ⟨w.heap.size, 0, none⟩) (Nat.le_refl _) _⟩
    · gi_wp2
      exact ⟨(KeepsOthers.setCell _ _ _).from _, ⟨rfl, by rw [hs1.out, hs2.out, hV.out]; omega, h0.set _⟩, hB.setCell (p := ⟨w.heap.size, 0, none⟩) (Nat.le_refl _) _⟩
    · gi_wp2
      exact ⟨KeepsFrom.refl _ _, KeepsAB.refl _ _ _ _, ⟨by rw [hs1.out, hs2.out, hV.out], h0, h1, h2⟩, hB⟩
  case done =>
    rintro D ys W hD rfl ⟨⟨hv, h0, _, _⟩, hB⟩ hK
    rw [v1_upto, v2_upto, take_all (by omega), take_all (by omega)] at hv
    have he : eq01 (val a) (val b) = 1 := if_pos hv
    have hE := Lib.hid he
    clear he hv
    have hc := h0.cell
    have hf := h0.frozen
    gi_wp2
    have hK' := (KeepsOthers.setCell W ⟨w.heap.size, 0, none⟩ (.int .u64 1)).same D _ hK rfl
    refine ⟨by simp, .inl ⟨_, _, rfl, run_takeDeferred hK', ?_⟩⟩
    have hc5 := cell_kept (World.cell?_setCell_same' W ⟨w.heap.size, 0, none⟩ (.int .u64 1) (by rw [hc]; rfl)) (grownBy_putObj' _ D (.deferred none)) (fun r e => by cases e; exact ⟨_, hK', rfl⟩)
    refine ⟨.int .u64 1, ?_, by rw [hE.out], (hB.setCell (p := ⟨w.heap.size, 0, none⟩) (Nat.le_refl _) _).trans (belowK_b (w := w) (Nat.le_refl _) _ D _ _ (by simp at hD; omega) hK' rfl rfl)⟩
    simp [results, Try.f25, go_sem, hc5]
  case stop =>
    rintro D j pre W hD ⟨k, hk, rfl⟩ ⟨⟨rfl, hv, h0⟩, hB⟩ hK
    rw [v1_upto, v2_upto] at hv
    have he : eq01 (val a) (val b) = 0 := if_neg (eq_of_take ha hb k hv)
    have hE := Lib.hid he
    clear he hv
    gi_wp2
    refine ⟨by simp, .inl ⟨_, _, rfl, run_takeDeferred hK, ?_⟩⟩
    have hc5 := cell_kept h0.cell (grownBy_putObj' _ D (.deferred none)) (fun r e => by cases e; exact ⟨_, hK, rfl⟩)
    refine ⟨.int .u64 0, ?_, by rw [hE.out], hB.trans (belowK_b (w := w) (Nat.le_refl _) W D _ _ (by simp at hD; omega) hK rfl rfl)⟩
    simp [results, Try.f25, go_sem, hc5]

end Go.Proofs.Ytcjibadnhhnpmaa
