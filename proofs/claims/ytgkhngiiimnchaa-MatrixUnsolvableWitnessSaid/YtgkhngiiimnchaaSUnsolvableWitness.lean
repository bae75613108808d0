/- If Solve returns a vector, it is a solution; if it returns ErrNotFound, there is a vector that proves that the system has no solution. No conditions. -/
import Derived.Test.YtgkhngiiimnchaaRGen
namespace Go.Proofs.Ytgkhngiiimnchaa.matrixUnsolvableWitness
open Go.ChangeShapes Go.WideShapes Go.ChangeAt Go.RowKit PolyMath FieldMath MatMath

set_option maxRecDepth 100000 in
set_option maxHeartbeats 4000000 in
theorem walk_unfair (p : Int) (Am : Option Addr) (cm : Nat) (m : List (List Int)) (Ab : Option Addr) (cb : Nat) (b : List Int) (_wm : ∀ r ∈ m, Words r) (_lm : m.length ≤ 9223372036854775807) (_wb : Words b) (hf : fairB p m 8 = false) (w : World) (sm : Sll w Am cm m) (sb : Sl w Ab cb b) :
    Calls Try.prog 7 #[.int .u64 p, .slice Am m.length cm, .slice Ab b.length cb] w fun e w' => e = .returned (.bool true) ∧ Below w.heap.size w w' := by
  have gf := fun W (h : Sll W Am cm m) => fair_any p Am cm 8 m (by omega) W h
  rw [hf] at gf
  go_enter Try.func7, Try.ntmps7
  have hB := Below.refl w.heap.size w
  go_wp2_with fail
  refine (gf _ sm).mono ?_
  rintro e w1 ⟨rfl, hb⟩
  replace sm := sm.next hb
  replace sb := sb.next hb
  replace hB := hB.trans (hb.mono hB.size)
  clear hb
  go_wp2_with fail
  refine (awake_any _).mono ?_
  rintro e w2 ⟨rfl, hb⟩
  replace sm := sm.next hb
  replace sb := sb.next hb
  replace hB := hB.trans (hb.mono hB.size)
  clear hb
  go_wp2_with fail
  go_ret
  exact ⟨rfl, hB⟩

set_option maxRecDepth 100000 in
set_option maxHeartbeats 4000000 in
theorem walk_nob (p : Int) (Am : Option Addr) (cm : Nat) (m : List (List Int)) (Ab : Option Addr) (cb : Nat) (b : List Int) (_wm : ∀ r ∈ m, Words r) (_lm : m.length ≤ 9223372036854775807) (_wb : Words b) (hf : fairB p m 8 = true) (hl : belB p b 8 = false) (w : World) (sm : Sll w Am cm m) (sb : Sl w Ab cb b) :
    Calls Try.prog 7 #[.int .u64 p, .slice Am m.length cm, .slice Ab b.length cb] w fun e w' => e = .returned (.bool true) ∧ Below w.heap.size w w' := by
  have gf := fun W (h : Sll W Am cm m) => fair_any p Am cm 8 m (by omega) W h
  rw [hf] at gf
  have gl := fun W (h : Sl W Ab cb b) => below_any p Ab cb 8 b (by omega) W h
  rw [hl] at gl
  go_enter Try.func7, Try.ntmps7
  have hB := Below.refl w.heap.size w
  go_wp2_with fail
  refine (gf _ sm).mono ?_
  rintro e w1 ⟨rfl, hb⟩
  replace sm := sm.next hb
  replace sb := sb.next hb
  replace hB := hB.trans (hb.mono hB.size)
  clear hb
  go_wp2_with fail
  refine (gl _ sb).mono ?_
  rintro e w' ⟨rfl, rfl⟩
  go_wp2_with fail
  refine (awake_any _).mono ?_
  rintro e w3 ⟨rfl, hb⟩
  replace sm := sm.next hb
  replace sb := sb.next hb
  replace hB := hB.trans (hb.mono hB.size)
  clear hb
  go_wp2_with fail
  go_ret
  exact ⟨rfl, hB⟩

set_option maxRecDepth 100000 in
set_option maxHeartbeats 4000000 in
theorem walk_bad1 (p : Int) (Am : Option Addr) (cm : Nat) (m : List (List Int)) (Ab : Option Addr) (cb : Nat) (b : List Int) (wm : ∀ r ∈ m, Words r) (_lm : m.length ≤ 9223372036854775807) (wb : Words b) (hf : fairB p m 8 = true) (hl : belB p b 8 = true) (hr : rect m = false) (w : World) (sm : Sll w Am cm m) (sb : Sl w Ab cb b) :
    Calls Try.prog 7 #[.int .u64 p, .slice Am m.length cm, .slice Ab b.length cb] w fun e w' => e = .returned (.bool true) ∧ Below w.heap.size w w' := by
  obtain ⟨hp, hz, hE, hN, hL⟩ := fair_is (by omega) wm hf
  obtain ⟨hbE, hbl⟩ := bel_is wb hl
  have hg := hp.good
  have hbd := hp.bd
  have gf := fun W (h : Sll W Am cm m) => fair_any p Am cm 8 m (by omega) W h
  rw [hf] at gf
  have gl := fun W (h : Sl W Ab cb b) => below_any p Ab cb 8 b (by omega) W h
  rw [hl] at gl
  go_enter Try.func7, Try.ntmps7
  have hB := Below.refl w.heap.size w
  go_wp2_with fail
  refine (gf _ sm).mono ?_
  rintro e w1 ⟨rfl, hb⟩
  replace sm := sm.next hb
  replace sb := sb.next hb
  replace hB := hB.trans (hb.mono hB.size)
  clear hb
  go_wp2_with fail
  refine (gl _ sb).mono ?_
  rintro e w' ⟨rfl, rfl⟩
  go_wp2_with fail
  refine (solve_bad1 p Am Ab cm cb m b hz hr _ sm).mono ?_
  rintro e w3 ⟨rfl, hb⟩
  replace sm := sm.next hb
  replace sb := sb.next hb
  replace hB := hB.trans (hb.mono hB.size)
  clear hb
  go_wp2_with fail
  refine (awake_any _).mono ?_
  rintro e w4 ⟨rfl, hb⟩
  replace sm := sm.next hb
  replace sb := sb.next hb
  replace hB := hB.trans (hb.mono hB.size)
  clear hb
  go_wp2_with fail
  go_ret
  exact ⟨rfl, hB⟩

set_option maxRecDepth 100000 in
set_option maxHeartbeats 4000000 in
theorem walk_bad2 (p : Int) (Am : Option Addr) (cm : Nat) (m : List (List Int)) (Ab : Option Addr) (cb : Nat) (b : List Int) (wm : ∀ r ∈ m, Words r) (_lm : m.length ≤ 9223372036854775807) (wb : Words b) (hf : fairB p m 8 = true) (hl : belB p b 8 = true) (hr : rect m = true) (hn : m.length ≠ b.length) (w : World) (sm : Sll w Am cm m) (sb : Sl w Ab cb b) :
    Calls Try.prog 7 #[.int .u64 p, .slice Am m.length cm, .slice Ab b.length cb] w fun e w' => e = .returned (.bool true) ∧ Below w.heap.size w w' := by
  obtain ⟨hp, hz, hE, hN, hL⟩ := fair_is (by omega) wm hf
  obtain ⟨hbE, hbl⟩ := bel_is wb hl
  have hg := hp.good
  have hbd := hp.bd
  have gf := fun W (h : Sll W Am cm m) => fair_any p Am cm 8 m (by omega) W h
  rw [hf] at gf
  have gl := fun W (h : Sl W Ab cb b) => below_any p Ab cb 8 b (by omega) W h
  rw [hl] at gl
  go_enter Try.func7, Try.ntmps7
  have hB := Below.refl w.heap.size w
  go_wp2_with fail
  refine (gf _ sm).mono ?_
  rintro e w1 ⟨rfl, hb⟩
  replace sm := sm.next hb
  replace sb := sb.next hb
  replace hB := hB.trans (hb.mono hB.size)
  clear hb
  go_wp2_with fail
  refine (gl _ sb).mono ?_
  rintro e w' ⟨rfl, rfl⟩
  go_wp2_with fail
  refine (solve_bad2 p Am Ab cm cb m b hz hr hn _ sm).mono ?_
  rintro e w3 ⟨rfl, hb⟩
  replace sm := sm.next hb
  replace sb := sb.next hb
  replace hB := hB.trans (hb.mono hB.size)
  clear hb
  go_wp2_with fail
  refine (awake_any _).mono ?_
  rintro e w4 ⟨rfl, hb⟩
  replace sm := sm.next hb
  replace sb := sb.next hb
  replace hB := hB.trans (hb.mono hB.size)
  clear hb
  go_wp2_with fail
  go_ret
  exact ⟨rfl, hB⟩

set_option maxRecDepth 100000 in
set_option maxHeartbeats 4000000 in
theorem walk_some (p : Int) (Am : Option Addr) (cm : Nat) (m : List (List Int)) (Ab : Option Addr) (cb : Nat) (b : List Int) (wm : ∀ r ∈ m, Words r) (_lm : m.length ≤ 9223372036854775807) (wb : Words b) (x : List Int) (hf : fairB p m 8 = true) (hl : belB p b 8 = true) (hr : rect m = true) (hn : m.length = b.length) (hs : slv p m b = some x) (w : World) (sm : Sll w Am cm m) (sb : Sl w Ab cb b) :
    Calls Try.prog 7 #[.int .u64 p, .slice Am m.length cm, .slice Ab b.length cb] w fun e w' => e = .returned (.bool true) ∧ Below w.heap.size w w' := by
  obtain ⟨hp, hz, hE, hN, hL⟩ := fair_is (by omega) wm hf
  obtain ⟨hbE, hbl⟩ := bel_is wb hl
  have hg := hp.good
  have hbd := hp.bd
  have gf := fun W (h : Sll W Am cm m) => fair_any p Am cm 8 m (by omega) W h
  rw [hf] at gf
  have gl := fun W (h : Sl W Ab cb b) => below_any p Ab cb 8 b (by omega) W h
  rw [hl] at gl
  obtain ⟨h1, h2, h3⟩ := slv_some hg hr hE hbE hn hs
  have gs' : ∀ W, Sll W Am cm m → Sl W Ab cb b → Calls Try.prog 25 #[.int .u64 p, .slice Am m.length cm, .slice Ab b.length cb] W fun e w' => RowE W e w' x := fun W h1 h2 => (solve_any p hp Am Ab cm cb m b hz hE hbE hr hn W h1 h2).mono fun e w' hx => by
    rcases hx with ⟨y, q1, q2⟩ | ⟨q1, q2⟩
    · rw [hs] at q1; injection q1 with q1; subst q1; exact q2
    · rw [hs] at q1; cases q1
  have ga : ∀ W A c, Sll W Am cm m → Sl W A c x → Calls Try.prog 15 #[.int .u64 p, .slice Am m.length cm, .slice A x.length c] W fun e w' => RowE W e w' b := fun W A c q1 q2 => by
    have := apply_ok p hp Am A cm c m x hz hE h3 hr h2.symm W q1 q2
    rwa [h1] at this
  clear h1 h2 hs hn
  go_enter Try.func7, Try.ntmps7
  have hB := Below.refl w.heap.size w
  go_wp2_with fail
  refine (gf _ sm).mono ?_
  rintro e w1 ⟨rfl, hb⟩
  replace sm := sm.next hb
  replace sb := sb.next hb
  replace hB := hB.trans (hb.mono hB.size)
  clear hb
  go_wp2_with fail
  refine (gl _ sb).mono ?_
  rintro e w' ⟨rfl, rfl⟩
  go_wp2_with fail
  refine (gs' _ sm sb).mono ?_
  rintro e w3 ⟨Ax, cx, rfl, sx, hb⟩
  replace sm := sm.next hb
  replace sb := sb.next hb
  replace hB := hB.trans (hb.mono hB.size)
  clear hb
  go_wp2_with fail
  refine (ga _ _ _ sm sx).mono ?_
  rintro e w4 ⟨Ac, cc, rfl, sc, hb⟩
  replace sm := sm.next hb
  replace sb := sb.next hb
  replace sx := sx.next hb
  replace hB := hB.trans (hb.mono hB.size)
  clear hb
  go_wp2_with fail
  refine (awake_any _).mono ?_
  rintro e w5 ⟨rfl, hb⟩
  replace sm := sm.next hb
  replace sb := sb.next hb
  replace sx := sx.next hb
  replace sc := sc.next hb
  replace hB := hB.trans (hb.mono hB.size)
  clear hb
  go_wp2_with fail
  refine (sameL_b _ _ b _ _ _ sc sb (by omega)).mono ?_
  rintro e w6 ⟨rfl, hb⟩
  replace sm := sm.next hb
  replace sb := sb.next hb
  replace sx := sx.next hb
  replace sc := sc.next hb
  replace hB := hB.trans (hb.mono hB.size)
  clear hb
  go_wp2_with fail
  go_ret
  exact ⟨rfl, hB⟩

set_option maxRecDepth 100000 in
set_option maxHeartbeats 4000000 in
theorem walk_none0 (p : Int) (Am : Option Addr) (cm : Nat) (m : List (List Int)) (Ab : Option Addr) (cb : Nat) (b : List Int) (wm : ∀ r ∈ m, Words r) (_lm : m.length ≤ 9223372036854775807) (wb : Words b) (hf : fairB p m 8 = true) (hl : belB p b 8 = true) (hr : rect m = true) (hn : m.length = b.length) (hs : slv p m b = none) (hz9 : ncol m = 0) (w : World) (sm : Sll w Am cm m) (sb : Sl w Ab cb b) :
    Calls Try.prog 7 #[.int .u64 p, .slice Am m.length cm, .slice Ab b.length cb] w fun e w' => e = .returned (.bool true) ∧ Below w.heap.size w w' := by
  obtain ⟨hp, hz, hE, hN, hL⟩ := fair_is (by omega) wm hf
  obtain ⟨hbE, hbl⟩ := bel_is wb hl
  have hg := hp.good
  have hbd := hp.bd
  have gf := fun W (h : Sll W Am cm m) => fair_any p Am cm 8 m (by omega) W h
  rw [hf] at gf
  have gl := fun W (h : Sl W Ab cb b) => below_any p Ab cb 8 b (by omega) W h
  rw [hl] at gl
  have gs' : ∀ W, Sll W Am cm m → Sl W Ab cb b → Calls Try.prog 25 #[.int .u64 p, .slice Am m.length cm, .slice Ab b.length cb] W fun e w' => e = .returned (.tuple #[.slice none 0 0, .int .i64 6]) ∧ Below W.heap.size W w' := fun W h1 h2 => (solve_any p hp Am Ab cm cb m b hz hE hbE hr hn W h1 h2).mono fun e w' hx => by
    rcases hx with ⟨y, q1, q2⟩ | ⟨q1, q2⟩
    · rw [hs] at q1; cases q1
    · rw [hs] at q1; exact q2
  obtain ⟨h0, hT, y, hy, hyl, hyE, hyd⟩ := wit_math hg hr hE hbE hn hs
  obtain ⟨j0, hj0, hy0, hy1, hy2⟩ := info_parts info_sl
  obtain ⟨i0, hi0, hz0, hz1, hz2⟩ := info_parts info_u64
  have hnc : ncol m ≤ 8 := hL 0
  have hc0 : ((ncol m : Int) == 0) = true := beq_iff_eq.2 (by omega)
  have h0' : (0 : Int) < m.length := by omega
  obtain ⟨n1, hn1⟩ : ∃ n1, n1 = ncol m + 1 := ⟨_, rfl⟩
  have hn1' : n1 ≤ 9 := by omega
  have hb8 : Hid (i0.bytes * n1 ≤ 281474976710656) := Lib.hid (by rw [hz2]; omega)
  have zT : Sized (trn m ++ [b]) := hT.sized (by omega) (by omega)
  have hU := unitL_el (p := p) (by omega) n1 (ncol m)
  have gS : ∀ W A c B cv, Sll W A c (trn m ++ [b]) → Sl W B cv (unitL n1 (n1 - 1)) → Calls Try.prog 25 #[.int .u64 p, .slice A n1 c, .slice B n1 cv] W fun e w' => ∃ Ay cy, e = .returned (.tuple #[.slice Ay b.length cy, .int .i64 0]) ∧ Sl w' Ay cy y ∧ Below W.heap.size W w' := fun W A c B cv q1 q2 => by
    rw [show n1 - 1 = ncol m by omega] at q2
    have := solve_any p hp A B c cv (trn m ++ [b]) (unitL n1 (ncol m)) zT hT.els hU hT.isRect (by rw [hT.rows, unitL_len, hn1]) W q1 q2
    rw [hT.rows, unitL_len, ← hn1] at this
    refine this.mono fun e w' hx => ?_
    subst hn1
    rcases hx with ⟨y', p1, Ay, cy, p2, p3, p4⟩ | ⟨p1, _⟩
    · rw [hy] at p1
      injection p1 with p1
      subst p1
      exact ⟨Ay, cy, by rw [p2, hyl, hn], p3, p4⟩
    · rw [hy] at p1; cases p1
  have gD : ∀ W A c, Sl W A c y → Sl W Ab cb b → Calls Try.prog 30 #[.int .u64 p, .slice A b.length c, .slice Ab b.length cb] W fun e w' => e = .returned (.int .u64 1) ∧ Below W.heap.size W w' := fun W A c q1 q2 => by
    have := rDot_any p hp A Ab c cb b.length y b hyE hbE (by omega) rfl (by omega) W q1 q2
    rw [hyd] at this
    exact this.mono fun e w' ⟨q3, k, q4⟩ => ⟨q3, by rw [q4]; exact below_drewN (Below.refl _ W) k⟩
  have HN1 := Lib.hid hn1
  have hn1a : 0 < n1 := by omega
  have HN := Lib.hid hn
  have hTl : Hid ((trn m ++ [b]).length = n1) := Lib.hid (by rw [hT.rows, hn1])
  clear hn1 hn hs hy hyl hyd
  go_enter Try.func7, Try.ntmps7
  have hB := Below.refl w.heap.size w
  go_wp2_with fail
  refine (gf _ sm).mono ?_
  rintro e w1 ⟨rfl, hb⟩
  replace sm := sm.next hb
  replace sb := sb.next hb
  replace hB := hB.trans (hb.mono hB.size)
  clear hb
  go_wp2_with fail
  refine (gl _ sb).mono ?_
  rintro e w' ⟨rfl, rfl⟩
  go_wp2_with fail
  refine (gs' _ sm sb).mono ?_
  rintro e w3 ⟨rfl, hb⟩
  replace sm := sm.next hb
  replace sb := sb.next hb
  replace hB := hB.trans (hb.mono hB.size)
  clear hb
  go_wp2_with fail
  refine (rTurn_any Am cm m hz hr _ sm).mono ?_
  rintro e w4 ⟨vt, vst, rfl, hMt, hb⟩
  have hBt := hb
  have sbo := sb
  have hBo := hB
  replace sm := sm.next hb
  replace sb := sb.next hb
  replace hB := hB.trans (hb.mono hB.size)
  clear hb
  have hMt2 : MP w3.heap.size w4 vt (ncol m) (ncol m) vst (trn m) := by have := hMt; rw [trn_len] at this; exact this
  obtain ⟨At, ct, hvt⟩ := row_form hMt2.head
  subst hvt
  obtain ⟨bm, om, A0, c0, hAm, hbm, hcm0, _⟩ := sm.rowAt (i := 0) (L := ncol m) h0 rfl
  rw [Nat.add_zero] at hcm0
  subst hAm
  have hcol0 : ncol m = 0 := hz9
  have hhd : Hid ((w4.alloc (.cells #[.slice Ab b.length cb] 24)).ownsRow w3.heap.size 24 1 (.slice none 0 0) 0 []) := Lib.hid (World.ownsRow_nil _ _ _ _)
  have hlen0 : trn m = [] := List.eq_nil_of_length_eq_zero (by rw [trn_len]; exact hcol0)
  have hsz3 : w3.heap.size ≤ w4.heap.size := by have := hBt.size; exact this
  have sb3 := sb.push (.cells #[.slice Ab b.length cb] 24)
  have sbB := Lib.hid (show b ≠ [] → ∀ ad, Ab = some ad → ad.block < w3.heap.size from fun h ad e => by obtain ⟨x1, x2, x3, x4, _⟩ := sbo.rd ad e h; subst x3; exact x4)
  clear hMt hMt2
  go_wp2_with (first | (at_make; refine wpList_make_full _ rfl _ _ 24 rfl w5.heap.size 22 i0 (.int .u64 0) 1 Try.underlying24 hi0 hz0 hz1 .i64 .i64 _ _ n1 rfl rfl (by omega) (by omega) hb8.out (by simp only [maxLen]; omega) (Nat.le_refl _) ?_; intro w6 hown6 hgrow6; simp only [Value.cells, toList_madeCells_one, Nat.mul_one] at hown6; have hO6 : OwnAt w6 w5.heap.size w5.heap.size n1 n1 (List.replicate n1 0) := (by unfold OwnAt; simpa using hown6); have hfz6 := hO6.frozen (n1 - 1); have hlt6 := hO6.lt; have hcell6 := hO6.cell (i := n1 - 1) (x := 0) (by rw [List.getElem?_replicate, if_pos (by omega)]); have hb6 : Below w5.heap.size w5 w6 := (Below.refl _ w5).grown hgrow6 (Nat.le_refl _) (fun k e => by cases e); have hO6H := Lib.hid hO6; clear hown6 hO6) | (at_builtin; refine wpList_append_own _ rfl _ _ 23 rfl w3.heap.size 24 j0 (.slice none 0 0) 1 24 Try.underlying23 hj0 hy0 hy1 hy2 rfl (by decide) _ _ _ rfl hhd.out ⟨w4.heap.size, 0, none⟩ 1 1 [.slice Ab b.length cb] rfl rfl (cell_one_new _ _ _) (by simp [Value.oneCell']) (by simp only [maxLen]; omega) (by omega) (by simp; omega) ?_; intro v5 w5 hown5 hgrow5 _; have hT5 : ∃ A5 c5, v5 = .slice A5 n1 c5 ∧ Sll w5 A5 c5 (trn m ++ [b]) := (by have hown5' : w5.ownsRow w3.heap.size 24 1 v5 n1 [.slice Ab b.length cb] := (by rw [HN1.out, hcol0]; exact hown5); refine sll_heads hown5' ?_ hTl.out; rw [hlen0]; have h9 : HeadsOf w5 ([] ++ [.slice Ab b.length cb]) ([] ++ [b]) := HeadsOf.snoc (fun j hj => absurd hj (Nat.not_lt_zero _)) rfl (sb3.grownN hgrow5 (fun _ _ _ e => by cases e)); exact h9); obtain ⟨A5, c5, hv5, sT⟩ := hT5; subst hv5; have hB5 : Below w3.heap.size w3 w5 := (hBt.alloc hsz3 _).grown hgrow5 (by simp; omega) (fun x e => (World.ownsRow.lt hhd.out x e).1); clear hown5 hgrow5))
  have sW := (hO6H.out.put (n1 - 1) 1).sl
  have hb7 : Below w5.heap.size w5 (w6.setCell ⟨w5.heap.size, n1 - 1, none⟩ (.int .u64 1)) := hb6.setCell (p := ⟨w5.heap.size, n1 - 1, none⟩) (Nat.le_refl _) _
  have sT7 := sT.next hb7
  have sb7 := (sbo.next hB5).next hb7
  have hB7 : Below w.heap.size w (w6.setCell ⟨w5.heap.size, n1 - 1, none⟩ (.int .u64 1)) := (hBo.trans (hB5.mono hBo.size)).trans (hb7.mono (Nat.le_trans hBo.size hB5.size))
  clear hb7 hb6 hO6H hcell6 hfz6 sb3 sm sT
  refine (gS _ _ _ _ _ sT7 sW).mono ?_
  rintro e w8 ⟨Ay, cy, rfl, sy, hb⟩
  replace sb7 := sb7.next hb
  replace hB7 := hB7.trans (hb.mono hB7.size)
  clear hb
  go_wp2_with fail
  refine (awake_any _).mono ?_
  rintro e w9 ⟨rfl, hb⟩
  replace sb7 := sb7.next hb
  replace sy := sy.next hb
  replace hB7 := hB7.trans (hb.mono hB7.size)
  clear hb
  go_wp2_with fail
  refine (gD _ _ _ sy sb7).mono ?_
  rintro e w10 ⟨rfl, hb⟩
  replace hB7 := hB7.trans (hb.mono hB7.size)
  go_wp2_with fail
  go_ret
  exact ⟨rfl, hB7⟩

set_option maxRecDepth 100000 in
set_option maxHeartbeats 4000000 in
theorem walk_none1 (p : Int) (Am : Option Addr) (cm : Nat) (m : List (List Int)) (Ab : Option Addr) (cb : Nat) (b : List Int) (wm : ∀ r ∈ m, Words r) (_lm : m.length ≤ 9223372036854775807) (wb : Words b) (hf : fairB p m 8 = true) (hl : belB p b 8 = true) (hr : rect m = true) (hn : m.length = b.length) (hs : slv p m b = none) (_hz9 : ncol m ≠ 0) (w : World) (sm : Sll w Am cm m) (sb : Sl w Ab cb b) :
    Calls Try.prog 7 #[.int .u64 p, .slice Am m.length cm, .slice Ab b.length cb] w fun e w' => e = .returned (.bool true) ∧ Below w.heap.size w w' := by
  obtain ⟨hp, hz, hE, hN, hL⟩ := fair_is (by omega) wm hf
  obtain ⟨hbE, hbl⟩ := bel_is wb hl
  have hg := hp.good
  have hbd := hp.bd
  have gf := fun W (h : Sll W Am cm m) => fair_any p Am cm 8 m (by omega) W h
  rw [hf] at gf
  have gl := fun W (h : Sl W Ab cb b) => below_any p Ab cb 8 b (by omega) W h
  rw [hl] at gl
  have gs' : ∀ W, Sll W Am cm m → Sl W Ab cb b → Calls Try.prog 25 #[.int .u64 p, .slice Am m.length cm, .slice Ab b.length cb] W fun e w' => e = .returned (.tuple #[.slice none 0 0, .int .i64 6]) ∧ Below W.heap.size W w' := fun W h1 h2 => (solve_any p hp Am Ab cm cb m b hz hE hbE hr hn W h1 h2).mono fun e w' hx => by
    rcases hx with ⟨y, q1, q2⟩ | ⟨q1, q2⟩
    · rw [hs] at q1; cases q1
    · rw [hs] at q1; exact q2
  obtain ⟨h0, hT, y, hy, hyl, hyE, hyd⟩ := wit_math hg hr hE hbE hn hs
  obtain ⟨j0, hj0, hy0, hy1, hy2⟩ := info_parts info_sl
  obtain ⟨i0, hi0, hz0, hz1, hz2⟩ := info_parts info_u64
  have hnc : ncol m ≤ 8 := hL 0
  have hc0 : ((ncol m : Int) == 0) = false := beq_eq_false_iff_ne.2 (by omega)
  have h0' : (0 : Int) < m.length := by omega
  obtain ⟨n1, hn1⟩ : ∃ n1, n1 = ncol m + 1 := ⟨_, rfl⟩
  have hn1' : n1 ≤ 9 := by omega
  have hb8 : Hid (i0.bytes * n1 ≤ 281474976710656) := Lib.hid (by rw [hz2]; omega)
  have zT : Sized (trn m ++ [b]) := hT.sized (by omega) (by omega)
  have hU := unitL_el (p := p) (by omega) n1 (ncol m)
  have gS : ∀ W A c B cv, Sll W A c (trn m ++ [b]) → Sl W B cv (unitL n1 (n1 - 1)) → Calls Try.prog 25 #[.int .u64 p, .slice A n1 c, .slice B n1 cv] W fun e w' => ∃ Ay cy, e = .returned (.tuple #[.slice Ay b.length cy, .int .i64 0]) ∧ Sl w' Ay cy y ∧ Below W.heap.size W w' := fun W A c B cv q1 q2 => by
    rw [show n1 - 1 = ncol m by omega] at q2
    have := solve_any p hp A B c cv (trn m ++ [b]) (unitL n1 (ncol m)) zT hT.els hU hT.isRect (by rw [hT.rows, unitL_len, hn1]) W q1 q2
    rw [hT.rows, unitL_len, ← hn1] at this
    refine this.mono fun e w' hx => ?_
    subst hn1
    rcases hx with ⟨y', p1, Ay, cy, p2, p3, p4⟩ | ⟨p1, _⟩
    · rw [hy] at p1
      injection p1 with p1
      subst p1
      exact ⟨Ay, cy, by rw [p2, hyl, hn], p3, p4⟩
    · rw [hy] at p1; cases p1
  have gD : ∀ W A c, Sl W A c y → Sl W Ab cb b → Calls Try.prog 30 #[.int .u64 p, .slice A b.length c, .slice Ab b.length cb] W fun e w' => e = .returned (.int .u64 1) ∧ Below W.heap.size W w' := fun W A c q1 q2 => by
    have := rDot_any p hp A Ab c cb b.length y b hyE hbE (by omega) rfl (by omega) W q1 q2
    rw [hyd] at this
    exact this.mono fun e w' ⟨q3, k, q4⟩ => ⟨q3, by rw [q4]; exact below_drewN (Below.refl _ W) k⟩
  have HN1 := Lib.hid hn1
  have hn1a : 0 < n1 := by omega
  have HN := Lib.hid hn
  have hTl : Hid ((trn m ++ [b]).length = n1) := Lib.hid (by rw [hT.rows, hn1])
  clear hn1 hn hs hy hyl hyd
  go_enter Try.func7, Try.ntmps7
  have hB := Below.refl w.heap.size w
  go_wp2_with fail
  refine (gf _ sm).mono ?_
  rintro e w1 ⟨rfl, hb⟩
  replace sm := sm.next hb
  replace sb := sb.next hb
  replace hB := hB.trans (hb.mono hB.size)
  clear hb
  go_wp2_with fail
  refine (gl _ sb).mono ?_
  rintro e w' ⟨rfl, rfl⟩
  go_wp2_with fail
  refine (gs' _ sm sb).mono ?_
  rintro e w3 ⟨rfl, hb⟩
  replace sm := sm.next hb
  replace sb := sb.next hb
  replace hB := hB.trans (hb.mono hB.size)
  clear hb
  go_wp2_with fail
  refine (rTurn_any Am cm m hz hr _ sm).mono ?_
  rintro e w4 ⟨vt, vst, rfl, hMt, hb⟩
  have hBt := hb
  have sbo := sb
  have hBo := hB
  replace sm := sm.next hb
  replace sb := sb.next hb
  replace hB := hB.trans (hb.mono hB.size)
  clear hb
  have hMt2 : MP w3.heap.size w4 vt (ncol m) (ncol m) vst (trn m) := by have := hMt; rw [trn_len] at this; exact this
  obtain ⟨At, ct, hvt⟩ := row_form hMt2.head
  subst hvt
  obtain ⟨bm, om, A0, c0, hAm, hbm, hcm0, _⟩ := sm.rowAt (i := 0) (L := ncol m) h0 rfl
  rw [Nat.add_zero] at hcm0
  subst hAm
  have hMa := hMt2.next ((Below.refl _ w4).alloc (Nat.le_refl _) (.cells #[.slice Ab b.length cb] 24))
  have hhd := Lib.hid hMa.head
  have hheads := Lib.hid hMa.heads
  have hvl : vst.length = (trn m).length := by rw [hMt2.vlen, trn_len]
  have hsz3 : w3.heap.size ≤ w4.heap.size := by have := hBt.size; exact this
  have sb3 := sb.push (.cells #[.slice Ab b.length cb] 24)
  have sbB := Lib.hid (show b ≠ [] → ∀ ad, Ab = some ad → ad.block < w3.heap.size from fun h ad e => by obtain ⟨x1, x2, x3, x4, _⟩ := sbo.rd ad e h; subst x3; exact x4)
  clear hMt hMt2 hMa
  go_wp2_with (first | (at_make; refine wpList_make_full _ rfl _ _ 24 rfl w5.heap.size 22 i0 (.int .u64 0) 1 Try.underlying24 hi0 hz0 hz1 .i64 .i64 _ _ n1 rfl rfl (by omega) (by omega) hb8.out (by simp only [maxLen]; omega) (Nat.le_refl _) ?_; intro w6 hown6 hgrow6; simp only [Value.cells, toList_madeCells_one, Nat.mul_one] at hown6; have hO6 : OwnAt w6 w5.heap.size w5.heap.size n1 n1 (List.replicate n1 0) := (by unfold OwnAt; simpa using hown6); have hfz6 := hO6.frozen (n1 - 1); have hlt6 := hO6.lt; have hcell6 := hO6.cell (i := n1 - 1) (x := 0) (by rw [List.getElem?_replicate, if_pos (by omega)]); have hb6 : Below w5.heap.size w5 w6 := (Below.refl _ w5).grown hgrow6 (Nat.le_refl _) (fun k e => by cases e); have hO6H := Lib.hid hO6; clear hown6 hO6) | (at_builtin; refine wpList_append_own _ rfl _ _ 23 rfl w3.heap.size 24 j0 (.slice none 0 0) 1 24 Try.underlying23 hj0 hy0 hy1 hy2 rfl (by decide) _ _ _ rfl hhd.out ⟨w4.heap.size, 0, none⟩ 1 1 [.slice Ab b.length cb] rfl rfl (cell_one_new _ _ _) (by simp [Value.oneCell']) (by simp only [maxLen]; omega) (by omega) (by simp; omega) ?_; intro v5 w5 hown5 hgrow5 _; have hT5 : ∃ A5 c5, v5 = .slice A5 n1 c5 ∧ Sll w5 A5 c5 (trn m ++ [b]) := (by have hown5' : w5.ownsRow w3.heap.size 24 1 v5 n1 (vst ++ [.slice Ab b.length cb]) := (by rw [HN1.out]; exact hown5); refine sll_heads hown5' ?_ hTl.out; exact (HeadsOf.grown hheads.out hhd.out hgrow5).snoc hvl (sb3.grownN hgrow5 (fun h9 ad e e2 => by have h8 := sbB.out h9 ad e; have h7 := (World.ownsRow.lt hhd.out ad.block e2.symm).1; omega))); obtain ⟨A5, c5, hv5, sT⟩ := hT5; subst hv5; have hB5 : Below w3.heap.size w3 w5 := (hBt.alloc hsz3 _).grown hgrow5 (by simp; omega) (fun x e => (World.ownsRow.lt hhd.out x e).1); clear hown5 hgrow5))
  have sW := (hO6H.out.put (n1 - 1) 1).sl
  have hb7 : Below w5.heap.size w5 (w6.setCell ⟨w5.heap.size, n1 - 1, none⟩ (.int .u64 1)) := hb6.setCell (p := ⟨w5.heap.size, n1 - 1, none⟩) (Nat.le_refl _) _
  have sT7 := sT.next hb7
  have sb7 := (sbo.next hB5).next hb7
  have hB7 : Below w.heap.size w (w6.setCell ⟨w5.heap.size, n1 - 1, none⟩ (.int .u64 1)) := (hBo.trans (hB5.mono hBo.size)).trans (hb7.mono (Nat.le_trans hBo.size hB5.size))
  clear hb7 hb6 hO6H hcell6 hfz6 sb3 sm sT
  refine (gS _ _ _ _ _ sT7 sW).mono ?_
  rintro e w8 ⟨Ay, cy, rfl, sy, hb⟩
  replace sb7 := sb7.next hb
  replace hB7 := hB7.trans (hb.mono hB7.size)
  clear hb
  go_wp2_with fail
  refine (awake_any _).mono ?_
  rintro e w9 ⟨rfl, hb⟩
  replace sb7 := sb7.next hb
  replace sy := sy.next hb
  replace hB7 := hB7.trans (hb.mono hB7.size)
  clear hb
  go_wp2_with fail
  refine (gD _ _ _ sy sb7).mono ?_
  rintro e w10 ⟨rfl, hb⟩
  replace hB7 := hB7.trans (hb.mono hB7.size)
  go_wp2_with fail
  go_ret
  exact ⟨rfl, hB7⟩

set_option maxRecDepth 100000 in
set_option maxHeartbeats 4000000 in
theorem walk (p : Int) (Am : Option Addr) (cm : Nat) (m : List (List Int)) (Ab : Option Addr) (cb : Nat) (b : List Int) (wm : ∀ r ∈ m, Words r) (lm : m.length ≤ 9223372036854775807) (wb : Words b)  (w : World) (sm : Sll w Am cm m) (sb : Sl w Ab cb b) :
    Calls Try.prog 7 #[.int .u64 p, .slice Am m.length cm, .slice Ab b.length cb] w fun e w' => e = .returned (.bool true) ∧ Below w.heap.size w w' := by
  cases hf : fairB p m 8 with
  | false => exact walk_unfair p Am cm m Ab cb b wm lm wb hf w sm sb
  | true =>
    cases hl : belB p b 8 with
    | false => exact walk_nob p Am cm m Ab cb b wm lm wb hf hl w sm sb
    | true =>
      cases hr : rect m with
      | false => exact walk_bad1 p Am cm m Ab cb b wm lm wb hf hl hr w sm sb
      | true =>
        by_cases hn : m.length = b.length
        · cases hs : slv p m b with
          | some x => exact walk_some p Am cm m Ab cb b wm lm wb x hf hl hr hn hs w sm sb
          | none =>
            by_cases hz9 : ncol m = 0
            · exact walk_none0 p Am cm m Ab cb b wm lm wb hf hl hr hn hs hz9 w sm sb
            · exact walk_none1 p Am cm m Ab cb b wm lm wb hf hl hr hn hs hz9 w sm sb
        · exact walk_bad2 p Am cm m Ab cb b wm lm wb hf hl hr hn w sm sb

set_option maxRecDepth 100000 in
theorem lifted (os : Os) (started : os.Started) (H : Type) (enc : TypeId × Value → H) :
    ReturnsInHanded {} Try.checked os 7 .any (Rows.matrixUnsolvableWitnessSpec.pre6 enc Try.prog Try.f7 Rows.matrixUnsolvableWitnessRow.domain false) (Rows.matrixUnsolvableWitnessSpec.post enc Try.prog Try.f7 false true false false) := by
  refine returnsInHanded_of_change (C := Try.checked) own started (by kernel_rfl) Try.func7
    (ChangeSpec.witness6 (enc := enc) (C := Try.checked) false ⟨#[], #[.int .u64 0, .slice none 0 0, .slice none 0 0], []⟩ 8 (by kernel_rfl) (by kernel_rfl) (by kernel_rfl) (by kernel_rfl)) ?_
  intro W base args ds gs before hval0 hW hcnd _
  have hval : ∀ (j : Nat) t v, Try.f7.params[j]? = some t → args[j]? = some v → Value.okWide Try.prog W .any base t v := hval0
  have hW' := hW
  obtain ⟨p, q, hA0, hV, rfl, hfz, hnd⟩ := hW
  have hA : DataW.TrodAll enc Try.prog W 0 (fun _ => true) true Try.f7.params.toList args.toList ds p := hA0
  rw [Try.params7] at hA hval
  obtain ⟨v0, v1, v2, d0, d1, d2, p0, p1, p2, rfl, rfl, rfl, t0, t1, t2⟩ := trodAll_three hA
  obtain ⟨rfl, rfl⟩ := trodVars_none hV
  clear hA0 hval0
  simp only [List.append_nil] at hW'
  have l0 : ∀ x ∈ p0, x.block < W.heap.size := fun x hx => hW'.lt x (by simp [hx])
  obtain ⟨x0, rfl, _⟩ := arg_word (hval 0 22 v0 rfl rfl) t0
  have l1 : ∀ x ∈ p1, x.block < W.heap.size := fun x hx => hW'.lt x (by simp [hx])
  obtain ⟨A1, x1, c1, rfl, r1, b1, n1⟩ := arg_ll (hval 1 23 v1 rfl rfl) t1 l1
  have l2 : ∀ x ∈ p2, x.block < W.heap.size := fun x hx => hW'.lt x (by simp [hx])
  obtain ⟨A2, x2, c2, rfl, r2, b2⟩ := arg_sl (hval 2 24 v2 rfl rfl) t2 l2
  refine (walk x0 A1 c1 x1 A2 c2 x2 b1 n1 b2 W r1 r2).mono fun e W' ⟨he, hb⟩ => ?_
  subst he
  exact ⟨_, rfl, post_of_below (pa := p0 ++ (p1 ++ p2)) (pv := []) hW' (fun _ _ _ => (trodAll_cons_mk (shut_bool Try.underlying4 _) trodAll_mk0)) (fun sp hsp => trodAll_mk3 (stay_word t0 hb l0 sp (fun x hx => hsp x (by simp [hx]))) (stay_ll t1 hb l1 sp (fun x hx => hsp x (by simp [hx]))) (stays t2 hb l2 sp (fun x hx => hsp x (by simp [hx])))) (fun _ _ => rfl) (by simp)
    hb (ok_one (by kernel_rfl) rfl (okWide_bool_mk Try.underlying4 _))⟩

theorem over : Rows.matrixUnsolvableWitnessRow.holds Try.pinned (OpenSpec.ofChange Rows.matrixUnsolvableWitnessSpec) :=
  OpenClaim.holds_of_wide 7 Try.f7 rfl rfl rfl rfl rfl rfl rfl ⟨rfl, rfl, rfl, rfl, rfl⟩ rfl rfl rfl rfl rfl (by kernel_rfl) Try.func7 (by kernel_rfl)
    (of_decide_eq_true (by kernel_rfl)) (by unfold Func.isWrapper; first | (rw [if_pos (by decide +kernel)]; kernel_rfl) | (rw [if_neg (by decide +kernel)]; exact ⟨rfl, rfl⟩))
    (fun os started H enc _ => lifted os started H enc)

theorem proved : Rows.MatrixUnsolvableWitnessSaid := over
end Go.Proofs.Ytgkhngiiimnchaa.matrixUnsolvableWitness
