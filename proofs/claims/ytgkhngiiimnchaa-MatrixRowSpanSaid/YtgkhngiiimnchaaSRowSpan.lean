/- Appending a linear combination of the rows does not change the rank, and Solve finds its coefficients. No conditions. -/
import Derived.Test.YtgkhngiiimnchaaRGen
namespace Go.Proofs.Ytgkhngiiimnchaa.matrixRowSpan
open Go.ChangeShapes Go.WideShapes Go.ChangeAt Go.RowKit PolyMath FieldMath MatMath

set_option maxRecDepth 100000 in
set_option maxHeartbeats 4000000 in
theorem walk_unfair (p : Int) (Am : Option Addr) (cm : Nat) (m : List (List Int)) (Av : Option Addr) (cv : Nat) (v : List Int) (_wm : ∀ r ∈ m, Words r) (lm : m.length ≤ 9223372036854775807) (_wv : Words v) (hf : fairB p m 10 = false) (w : World) (sm : Sll w Am cm m) (sv : Sl w Av cv v) :
    Calls Try.prog 10 #[.int .u64 p, .slice Am m.length cm, .slice Av v.length cv] w fun e w' => e = .returned (.bool true) ∧ Below w.heap.size w w' := by
  have gr := fun W (h : Sll W Am cm m) => rRect_b Am cm m lm W h
  have gf := fun W (h : Sll W Am cm m) => fair_any p Am cm 10 m (by omega) W h
  rw [hf] at gf
  go_enter Try.func10, Try.ntmps10
  have hB := Below.refl w.heap.size w
  go_wp2_with fail
  refine (gr _ sm).mono ?_
  rintro e w1 ⟨rfl, hb⟩
  replace sm := sm.next hb
  replace sv := sv.next hb
  replace hB := hB.trans (hb.mono hB.size)
  clear hb
  go_wp2_with fail
  refine (gf _ sm).mono ?_
  rintro e w2 ⟨rfl, hb⟩
  replace sm := sm.next hb
  replace sv := sv.next hb
  replace hB := hB.trans (hb.mono hB.size)
  clear hb
  go_wp2_with fail
  refine (awake_any _).mono ?_
  rintro e w3 ⟨rfl, hb⟩
  replace sm := sm.next hb
  replace sv := sv.next hb
  replace hB := hB.trans (hb.mono hB.size)
  clear hb
  go_wp2_with fail
  go_ret
  exact ⟨rfl, hB⟩

set_option maxRecDepth 100000 in
set_option maxHeartbeats 4000000 in
theorem walk_nov (p : Int) (Am : Option Addr) (cm : Nat) (m : List (List Int)) (Av : Option Addr) (cv : Nat) (v : List Int) (_wm : ∀ r ∈ m, Words r) (lm : m.length ≤ 9223372036854775807) (_wv : Words v) (hf : fairB p m 10 = true) (hl : belB p v 10 = false) (w : World) (sm : Sll w Am cm m) (sv : Sl w Av cv v) :
    Calls Try.prog 10 #[.int .u64 p, .slice Am m.length cm, .slice Av v.length cv] w fun e w' => e = .returned (.bool true) ∧ Below w.heap.size w w' := by
  have gr := fun W (h : Sll W Am cm m) => rRect_b Am cm m lm W h
  have gf := fun W (h : Sll W Am cm m) => fair_any p Am cm 10 m (by omega) W h
  rw [hf] at gf
  have gl := fun W (h : Sl W Av cv v) => below_any p Av cv 10 v (by omega) W h
  rw [hl] at gl
  go_enter Try.func10, Try.ntmps10
  have hB := Below.refl w.heap.size w
  go_wp2_with fail
  refine (gr _ sm).mono ?_
  rintro e w1 ⟨rfl, hb⟩
  replace sm := sm.next hb
  replace sv := sv.next hb
  replace hB := hB.trans (hb.mono hB.size)
  clear hb
  go_wp2_with fail
  refine (gf _ sm).mono ?_
  rintro e w2 ⟨rfl, hb⟩
  replace sm := sm.next hb
  replace sv := sv.next hb
  replace hB := hB.trans (hb.mono hB.size)
  clear hb
  go_wp2_with fail
  refine (gl _ sv).mono ?_
  rintro e w' ⟨rfl, rfl⟩
  go_wp2_with fail
  refine (awake_any _).mono ?_
  rintro e w4 ⟨rfl, hb⟩
  replace sm := sm.next hb
  replace sv := sv.next hb
  replace hB := hB.trans (hb.mono hB.size)
  clear hb
  go_wp2_with fail
  go_ret
  exact ⟨rfl, hB⟩

set_option maxRecDepth 100000 in
set_option maxHeartbeats 4000000 in
theorem walk_notrect (p : Int) (Am : Option Addr) (cm : Nat) (m : List (List Int)) (Av : Option Addr) (cv : Nat) (v : List Int) (_wm : ∀ r ∈ m, Words r) (lm : m.length ≤ 9223372036854775807) (_wv : Words v) (hf : fairB p m 10 = true) (hl : belB p v 10 = true) (hr : rect m = false) (w : World) (sm : Sll w Am cm m) (sv : Sl w Av cv v) :
    Calls Try.prog 10 #[.int .u64 p, .slice Am m.length cm, .slice Av v.length cv] w fun e w' => e = .returned (.bool true) ∧ Below w.heap.size w w' := by
  have gr := fun W (h : Sll W Am cm m) => rRect_b Am cm m lm W h
  have gf := fun W (h : Sll W Am cm m) => fair_any p Am cm 10 m (by omega) W h
  rw [hf] at gf
  have gl := fun W (h : Sl W Av cv v) => below_any p Av cv 10 v (by omega) W h
  rw [hl] at gl
  rw [hr] at gr
  go_enter Try.func10, Try.ntmps10
  have hB := Below.refl w.heap.size w
  go_wp2_with fail
  refine (gr _ sm).mono ?_
  rintro e w1 ⟨rfl, hb⟩
  replace sm := sm.next hb
  replace sv := sv.next hb
  replace hB := hB.trans (hb.mono hB.size)
  clear hb
  go_wp2_with fail
  refine (gf _ sm).mono ?_
  rintro e w2 ⟨rfl, hb⟩
  replace sm := sm.next hb
  replace sv := sv.next hb
  replace hB := hB.trans (hb.mono hB.size)
  clear hb
  go_wp2_with fail
  refine (gl _ sv).mono ?_
  rintro e w' ⟨rfl, rfl⟩
  go_wp2_with fail
  refine (awake_any _).mono ?_
  rintro e w4 ⟨rfl, hb⟩
  replace sm := sm.next hb
  replace sv := sv.next hb
  replace hB := hB.trans (hb.mono hB.size)
  clear hb
  go_wp2_with fail
  go_ret
  exact ⟨rfl, hB⟩

set_option maxRecDepth 100000 in
set_option maxHeartbeats 4000000 in
theorem walk_nil (p : Int) (Am : Option Addr) (cm : Nat) (m : List (List Int)) (Av : Option Addr) (cv : Nat) (v : List Int) (_wm : ∀ r ∈ m, Words r) (lm : m.length ≤ 9223372036854775807) (_wv : Words v) (hf : fairB p m 10 = true) (hl : belB p v 10 = true) (hr : rect m = true) (h0 : m.length = 0) (w : World) (sm : Sll w Am cm m) (sv : Sl w Av cv v) :
    Calls Try.prog 10 #[.int .u64 p, .slice Am m.length cm, .slice Av v.length cv] w fun e w' => e = .returned (.bool true) ∧ Below w.heap.size w w' := by
  have gr := fun W (h : Sll W Am cm m) => rRect_b Am cm m lm W h
  have gf := fun W (h : Sll W Am cm m) => fair_any p Am cm 10 m (by omega) W h
  rw [hf] at gf
  have gl := fun W (h : Sl W Av cv v) => below_any p Av cv 10 v (by omega) W h
  rw [hl] at gl
  rw [hr] at gr
  have h0' : ((m.length : Int) == 0) = true := beq_iff_eq.2 (by omega)
  have H0 := Lib.hid h0
  clear h0
  go_enter Try.func10, Try.ntmps10
  have hB := Below.refl w.heap.size w
  go_wp2_with fail
  refine (gr _ sm).mono ?_
  rintro e w1 ⟨rfl, hb⟩
  replace sm := sm.next hb
  replace sv := sv.next hb
  replace hB := hB.trans (hb.mono hB.size)
  clear hb
  go_wp2_with fail
  refine (gf _ sm).mono ?_
  rintro e w2 ⟨rfl, hb⟩
  replace sm := sm.next hb
  replace sv := sv.next hb
  replace hB := hB.trans (hb.mono hB.size)
  clear hb
  go_wp2_with fail
  refine (gl _ sv).mono ?_
  rintro e w' ⟨rfl, rfl⟩
  go_wp2_with fail
  refine (awake_any _).mono ?_
  rintro e w4 ⟨rfl, hb⟩
  replace sm := sm.next hb
  replace sv := sv.next hb
  replace hB := hB.trans (hb.mono hB.size)
  clear hb
  go_wp2_with fail
  go_ret
  exact ⟨rfl, hB⟩

set_option maxRecDepth 100000 in
set_option maxHeartbeats 4000000 in
theorem walk_len (p : Int) (Am : Option Addr) (cm : Nat) (m : List (List Int)) (Av : Option Addr) (cv : Nat) (v : List Int) (_wm : ∀ r ∈ m, Words r) (lm : m.length ≤ 9223372036854775807) (_wv : Words v) (hf : fairB p m 10 = true) (hl : belB p v 10 = true) (hr : rect m = true) (h0 : m.length ≠ 0) (hn : v.length ≠ m.length) (w : World) (sm : Sll w Am cm m) (sv : Sl w Av cv v) :
    Calls Try.prog 10 #[.int .u64 p, .slice Am m.length cm, .slice Av v.length cv] w fun e w' => e = .returned (.bool true) ∧ Below w.heap.size w w' := by
  have gr := fun W (h : Sll W Am cm m) => rRect_b Am cm m lm W h
  have gf := fun W (h : Sll W Am cm m) => fair_any p Am cm 10 m (by omega) W h
  rw [hf] at gf
  have gl := fun W (h : Sl W Av cv v) => below_any p Av cv 10 v (by omega) W h
  rw [hl] at gl
  rw [hr] at gr
  have h0' : ((m.length : Int) == 0) = false := beq_eq_false_iff_ne.2 (by omega)
  have hn' : ((v.length : Int) != m.length) = true := bne_iff_ne.2 (by omega)
  go_enter Try.func10, Try.ntmps10
  have hB := Below.refl w.heap.size w
  go_wp2_with fail
  refine (gr _ sm).mono ?_
  rintro e w1 ⟨rfl, hb⟩
  replace sm := sm.next hb
  replace sv := sv.next hb
  replace hB := hB.trans (hb.mono hB.size)
  clear hb
  go_wp2_with fail
  refine (gf _ sm).mono ?_
  rintro e w2 ⟨rfl, hb⟩
  replace sm := sm.next hb
  replace sv := sv.next hb
  replace hB := hB.trans (hb.mono hB.size)
  clear hb
  go_wp2_with fail
  refine (gl _ sv).mono ?_
  rintro e w' ⟨rfl, rfl⟩
  go_wp2_with fail
  refine (awake_any _).mono ?_
  rintro e w4 ⟨rfl, hb⟩
  replace sm := sm.next hb
  replace sv := sv.next hb
  replace hB := hB.trans (hb.mono hB.size)
  clear hb
  go_wp2_with fail
  go_ret
  exact ⟨rfl, hB⟩

set_option maxRecDepth 100000 in
set_option maxHeartbeats 4000000 in
theorem walk_nocol (p : Int) (Am : Option Addr) (cm : Nat) (m : List (List Int)) (Av : Option Addr) (cv : Nat) (v : List Int) (_wm : ∀ r ∈ m, Words r) (lm : m.length ≤ 9223372036854775807) (_wv : Words v) (hf : fairB p m 10 = true) (hl : belB p v 10 = true) (hr : rect m = true) (h0 : m.length ≠ 0) (hn : v.length = m.length) (h1 : ncol m = 0) (w : World) (sm : Sll w Am cm m) (sv : Sl w Av cv v) :
    Calls Try.prog 10 #[.int .u64 p, .slice Am m.length cm, .slice Av v.length cv] w fun e w' => e = .returned (.bool true) ∧ Below w.heap.size w w' := by
  have gr := fun W (h : Sll W Am cm m) => rRect_b Am cm m lm W h
  have gf := fun W (h : Sll W Am cm m) => fair_any p Am cm 10 m (by omega) W h
  rw [hf] at gf
  have gl := fun W (h : Sl W Av cv v) => below_any p Av cv 10 v (by omega) W h
  rw [hl] at gl
  have hRN : rectN m = 0 := by unfold rectN; rw [hr]; exact h1
  rw [hr, hRN] at gr
  have h0' : ((m.length : Int) == 0) = false := beq_eq_false_iff_ne.2 (by omega)
  have hn' : ((v.length : Int) != m.length) = false := by rw [hn]; simp
  have HN := Lib.hid hn
  clear hn
  go_enter Try.func10, Try.ntmps10
  have hB := Below.refl w.heap.size w
  go_wp2_with fail
  refine (gr _ sm).mono ?_
  rintro e w1 ⟨rfl, hb⟩
  replace sm := sm.next hb
  replace sv := sv.next hb
  replace hB := hB.trans (hb.mono hB.size)
  clear hb
  go_wp2_with fail
  refine (gf _ sm).mono ?_
  rintro e w2 ⟨rfl, hb⟩
  replace sm := sm.next hb
  replace sv := sv.next hb
  replace hB := hB.trans (hb.mono hB.size)
  clear hb
  go_wp2_with fail
  refine (gl _ sv).mono ?_
  rintro e w' ⟨rfl, rfl⟩
  go_wp2_with fail
  refine (awake_any _).mono ?_
  rintro e w4 ⟨rfl, hb⟩
  replace sm := sm.next hb
  replace sv := sv.next hb
  replace hB := hB.trans (hb.mono hB.size)
  clear hb
  go_wp2_with fail
  go_ret
  exact ⟨rfl, hB⟩

set_option maxRecDepth 100000 in
set_option maxHeartbeats 4000000 in
theorem walk_main (p : Int) (Am : Option Addr) (cm : Nat) (m : List (List Int)) (Av : Option Addr) (cv : Nat) (v : List Int) (wm : ∀ r ∈ m, Words r) (lm : m.length ≤ 9223372036854775807) (wv : Words v) (hf : fairB p m 10 = true) (hl : belB p v 10 = true) (hr : rect m = true) (h0 : m.length ≠ 0) (hn : v.length = m.length) (h1 : ncol m ≠ 0) (w : World) (sm : Sll w Am cm m) (sv : Sl w Av cv v) :
    Calls Try.prog 10 #[.int .u64 p, .slice Am m.length cm, .slice Av v.length cv] w fun e w' => e = .returned (.bool true) ∧ Below w.heap.size w w' := by
  obtain ⟨hp, hz, hE, hN, hL⟩ := fair_is (by omega) wm hf
  obtain ⟨hvE, hvl⟩ := bel_is wv hl
  have hg := hp.good
  have hbd := hp.bd
  have gr := fun W (h : Sll W Am cm m) => rRect_b Am cm m lm W h
  have gf := fun W (h : Sll W Am cm m) => fair_any p Am cm 10 m (by omega) W h
  rw [hf] at gf
  have gl := fun W (h : Sl W Av cv v) => below_any p Av cv 10 v (by omega) W h
  rw [hl] at gl
  have hRN : rectN m = ncol m := by unfold rectN; rw [hr]; rfl
  rw [hr, hRN] at gr
  have h0' : ((m.length : Int) == 0) = false := beq_eq_false_iff_ne.2 (by omega)
  have h1' : ((ncol m : Int) == 0) = false := beq_eq_false_iff_ne.2 (by omega)
  have hn' : ((v.length : Int) != m.length) = false := by rw [hn]; simp
  have hT := trn_mat (p := p) (by omega) (mat_of hr hE) (by omega)
  have hnc : ncol m ≤ 10 := hL 0
  have zT : Sized (trn m) := hT.sized (by omega) (by omega)
  obtain ⟨hM, hrk, x, hx, hxa, hxl, hxE⟩ := span_math hg hr hE hvE hn (show 0 < m.length by omega) (show 0 < ncol m by omega)
  have hTc : ncol (trn m) = m.length := hT.cols (by omega)
  obtain ⟨j0, hj0, hy0, hy1, hy2⟩ := info_parts info_sl
  have gt := fun W (h : Sll W Am cm m) => rTurn_any Am cm m hz hr W h
  have ga := fun W A c B d (h1 : Sll W A c (trn m)) (h2 : Sl W B d v) => apply_ok p hp A B c d (trn m) v zT hT.els hvE hT.isRect (by rw [hTc, hn]) W h1 h2
  have gk := fun W (h : Sll W Am cm m) => rank_ok p hp Am cm m hz hE hr W h
  have zM : Sized (m ++ [app p (trn m) v]) := hM.sized (by omega) (by omega)
  have gk2 := fun W A c (h : Sll W A c (m ++ [app p (trn m) v])) => rank_ok p hp A c (m ++ [app p (trn m) v]) zM hM.els hM.isRect W h
  rw [hrk] at gk2
  have htE := app_el (p := p) (by omega) (trn m) v
  have htl : (app p (trn m) v).length = ncol m := by rw [app_len, trn_len]
  have gs : ∀ W A c B d, Sll W A c (trn m) → Sl W B d (app p (trn m) v) → Calls Try.prog 25 #[.int .u64 p, .slice A (trn m).length c, .slice B (app p (trn m) v).length d] W fun e w' => RowE W e w' x := fun W A c B d q1 q2 => by
    refine (solve_any p hp A B c d (trn m) (app p (trn m) v) zT hT.els htE hT.isRect (by rw [trn_len, htl]) W q1 q2).mono fun e w' q3 => ?_
    rcases q3 with ⟨y, q4, q5⟩ | ⟨q4, _⟩
    · rw [hx] at q4; injection q4 with q4; subst q4; exact q5
    · rw [hx] at q4; cases q4
  have ga2 : ∀ W A c B d, Sll W A c (trn m) → Sl W B d x → Calls Try.prog 15 #[.int .u64 p, .slice A (trn m).length c, .slice B x.length d] W fun e w' => RowE W e w' (app p (trn m) v) := fun W A c B d q1 q2 => by
    have := apply_ok p hp A B c d (trn m) x zT hT.els hxE hT.isRect (by rw [hTc, hxl]) W q1 q2
    rwa [hxa] at this
  have hml : Hid ((m ++ [app p (trn m) v]).length = m.length + 1) := Lib.hid (by rw [List.length_append]; rfl)
  have hln : Hid (m.length = m.length * 1) := Lib.hid (by omega)
  rw [hml.out] at gk2
  have htb : (app p (trn m) v).length ≤ 10 := by omega
  have HN := Lib.hid hn
  generalize app p (trn m) v = tt at *
  generalize rnk p m = RK at *
  clear hx hxa hxl hrk hn htl hRN hTc
  go_enter Try.func10, Try.ntmps10
  have hB := Below.refl w.heap.size w
  go_wp2_with fail
  refine (gr _ sm).mono ?_
  rintro e w1 ⟨rfl, hb⟩
  replace sm := sm.next hb
  replace sv := sv.next hb
  replace hB := hB.trans (hb.mono hB.size)
  clear hb
  go_wp2_with fail
  refine (gf _ sm).mono ?_
  rintro e w2 ⟨rfl, hb⟩
  replace sm := sm.next hb
  replace sv := sv.next hb
  replace hB := hB.trans (hb.mono hB.size)
  clear hb
  go_wp2_with fail
  refine (gl _ sv).mono ?_
  rintro e w' ⟨rfl, rfl⟩
  go_wp2_with fail
  refine (gt _ sm).mono ?_
  rintro e w4 ⟨vt, vst, rfl, hMt, hb⟩
  replace sm := sm.next hb
  replace sv := sv.next hb
  replace hB := hB.trans (hb.mono hB.size)
  clear hb
  obtain ⟨At, ct, hvt, st⟩ := hMt.form
  subst hvt
  clear hMt
  go_wp2_with fail
  refine (ga _ _ _ _ _ st sv).mono ?_
  rintro e w5 ⟨A5, c5, rfl, s5, hb⟩
  replace sm := sm.next hb
  replace sv := sv.next hb
  replace hB := hB.trans (hb.mono hB.size)
  clear hb st
  obtain ⟨bm, om, A0, c0, hAm, hbm, hcm0, _⟩ := sm.rowAt (i := 0) (L := ncol m) (by omega) rfl
  subst hAm
  obtain ⟨vs, hvl2, hcells, hheads⟩ := sm.vals
  have hlit := own_litT w5
  have hon := Lib.hid (hheads.one hvl2)
  have hnw : Hid (∀ j u, vs[j]? = some u → (w5.alloc (.cells #[] 24)).cell? ((⟨bm, om, none⟩ : Addr).add j) = some u) := Lib.hid fun j u hu => (World.cell?_alloc_some _ _ _ (by rw [hcells j u hu]; rfl)).trans (hcells j u hu)
  have hvln : Hid (vs.length = m.length * 1) := Lib.hid (by omega)
  have HH := Lib.hid hheads
  have hvl3 := Lib.hid hvl2
  clear hcells hheads hvl2
  go_wp2_with (first | (at_builtin; refine wpList_append_own _ rfl _ _ 23 rfl w5.heap.size 24 j0 (.slice none 0 0) 1 24 Try.underlying23 hj0 hy0 hy1 hy2 rfl (by decide) _ _ _ rfl hown6H.out ⟨w6.heap.size, 0, none⟩ 1 1 [.slice A5 tt.length c5] rfl rfl (cell_one_new _ _ _) (by simp [Value.oneCell']) (by simp only [maxLen]; omega) (by omega) (by simp; omega) ?_; intro v7 w7 hown7 hgrow7 _) | (at_builtin; refine wpList_append_own _ rfl _ _ 23 rfl w5.heap.size 24 j0 (.slice none 0 0) 1 24 Try.underlying23 hj0 hy0 hy1 hy2 rfl (by decide) _ _ _ rfl hlit.out ⟨bm, om, none⟩ m.length cm vs rfl hvln.out hnw.out hon.out (by simp only [maxLen]; omega) (by omega) (by simp) ?_; intro v6 w6 hown6 hgrow6 _; rw [Nat.zero_add, List.nil_append] at hown6; have hB6 : Below w5.heap.size w5 w6 := ((Below.refl _ w5).alloc (Nat.le_refl _) _).grown hgrow6 (by simp) (fun k e => (hlit.out.lt k e).1); have hsz6 := hB6.size; obtain ⟨A6, c6, hv6⟩ := row_form hown6; subst hv6; have hown6H := Lib.hid (own_belowN hown6 ((Below.refl _ w6).alloc (Nat.le_refl _) (.cells #[.slice A5 tt.length c5] 24))); clear hown6 hgrow6))
  have hB7 : Below w5.heap.size w5 w7 := (hB6.alloc hsz6 _).grown hgrow7 (by simp; omega) (fun x e => (World.ownsRow.lt hown6H.out x e).1)
  have heads7 := (HH.out.next hB7).snoc hvl3.out (s5.next hB7)
  obtain ⟨A7, c7, hv7, s7⟩ := sll_heads hown7 heads7 hml.out
  subst hv7
  replace sm := sm.next hB7
  replace s5 := s5.next hB7
  replace hB := hB.trans (hB7.mono hB.size)
  clear heads7 hown7 hgrow7 hB7 hown6H HH sv
  refine (gk _ sm).mono ?_
  rintro e w8 ⟨rfl, hb⟩
  replace sm := sm.next hb
  replace s5 := s5.next hb
  replace s7 := s7.next hb
  replace hB := hB.trans (hb.mono hB.size)
  clear hb
  go_wp2_with fail
  refine (gk2 _ _ _ s7).mono ?_
  rintro e w9 ⟨rfl, hb⟩
  replace sm := sm.next hb
  replace s5 := s5.next hb
  replace hB := hB.trans (hb.mono hB.size)
  clear hb s7
  go_wp2_with fail
  refine (gt _ sm).mono ?_
  rintro e w10 ⟨vt, vst, rfl, hMt, hb⟩
  replace sm := sm.next hb
  replace s5 := s5.next hb
  replace hB := hB.trans (hb.mono hB.size)
  clear hb
  obtain ⟨At, ct, hvt, st⟩ := hMt.form
  subst hvt
  clear hMt
  go_wp2_with fail
  refine (gs _ _ _ _ _ st s5).mono ?_
  rintro e w11 ⟨Ax, cx, rfl, sx, hb⟩
  replace sm := sm.next hb
  replace s5 := s5.next hb
  replace hB := hB.trans (hb.mono hB.size)
  clear hb st
  go_wp2_with fail
  refine (gt _ sm).mono ?_
  rintro e w12 ⟨vt2, vst2, rfl, hMt, hb⟩
  replace sm := sm.next hb
  replace s5 := s5.next hb
  replace sx := sx.next hb
  replace hB := hB.trans (hb.mono hB.size)
  clear hb
  obtain ⟨At2, ct2, hvt2, st2⟩ := hMt.form
  subst hvt2
  clear hMt
  go_wp2_with fail
  refine (ga2 _ _ _ _ _ st2 sx).mono ?_
  rintro e w13 ⟨Ay, cy, rfl, sy, hb⟩
  replace sm := sm.next hb
  replace s5 := s5.next hb
  replace hB := hB.trans (hb.mono hB.size)
  clear hb st2 sx
  go_wp2_with fail
  refine (awake_any _).mono ?_
  rintro e w14 ⟨rfl, hb⟩
  replace sm := sm.next hb
  replace s5 := s5.next hb
  replace sy := sy.next hb
  replace hB := hB.trans (hb.mono hB.size)
  clear hb
  go_wp2_with fail
  refine (sameL_b _ _ tt _ _ _ sy s5 (by omega)).mono ?_
  rintro e w15 ⟨rfl, hb⟩
  replace sm := sm.next hb
  replace s5 := s5.next hb
  replace sy := sy.next hb
  replace hB := hB.trans (hb.mono hB.size)
  clear hb
  go_wp2_with fail
  go_ret
  exact ⟨rfl, hB⟩

set_option maxRecDepth 100000 in
set_option maxHeartbeats 4000000 in
theorem walk (p : Int) (Am : Option Addr) (cm : Nat) (m : List (List Int)) (Av : Option Addr) (cv : Nat) (v : List Int) (wm : ∀ r ∈ m, Words r) (lm : m.length ≤ 9223372036854775807) (wv : Words v)  (w : World) (sm : Sll w Am cm m) (sv : Sl w Av cv v) :
    Calls Try.prog 10 #[.int .u64 p, .slice Am m.length cm, .slice Av v.length cv] w fun e w' => e = .returned (.bool true) ∧ Below w.heap.size w w' := by
  cases hf : fairB p m 10 with
  | false => exact walk_unfair p Am cm m Av cv v wm lm wv hf w sm sv
  | true =>
    cases hl : belB p v 10 with
    | false => exact walk_nov p Am cm m Av cv v wm lm wv hf hl w sm sv
    | true =>
      cases hr : rect m with
      | false => exact walk_notrect p Am cm m Av cv v wm lm wv hf hl hr w sm sv
      | true =>
        by_cases h0 : m.length = 0
        · exact walk_nil p Am cm m Av cv v wm lm wv hf hl hr h0 w sm sv
        · by_cases hn : v.length = m.length
          · by_cases h1 : ncol m = 0
            · exact walk_nocol p Am cm m Av cv v wm lm wv hf hl hr h0 hn h1 w sm sv
            · exact walk_main p Am cm m Av cv v wm lm wv hf hl hr h0 hn h1 w sm sv
          · exact walk_len p Am cm m Av cv v wm lm wv hf hl hr h0 hn w sm sv

set_option maxRecDepth 100000 in
theorem lifted (os : Os) (started : os.Started) (H : Type) (enc : TypeId × Value → H) :
    ReturnsInHanded {} Try.checked os 10 .any (Rows.matrixRowSpanSpec.pre6 enc Try.prog Try.f10 Rows.matrixRowSpanRow.domain false) (Rows.matrixRowSpanSpec.post enc Try.prog Try.f10 false true false false) := by
  refine returnsInHanded_of_change (C := Try.checked) own started (by kernel_rfl) Try.func10
    (ChangeSpec.witness6 (enc := enc) (C := Try.checked) false ⟨#[], #[.int .u64 0, .slice none 0 0, .slice none 0 0], []⟩ 8 (by kernel_rfl) (by kernel_rfl) (by kernel_rfl) (by kernel_rfl)) ?_
  intro W base args ds gs before hval0 hW hcnd _
  have hval : ∀ (j : Nat) t v, Try.f10.params[j]? = some t → args[j]? = some v → Value.okWide Try.prog W .any base t v := hval0
  have hW' := hW
  obtain ⟨p, q, hA0, hV, rfl, hfz, hnd⟩ := hW
  have hA : DataW.TrodAll enc Try.prog W 0 (fun _ => true) true Try.f10.params.toList args.toList ds p := hA0
  rw [Try.params10] at hA hval
  obtain ⟨v0, v1, v2, d0, d1, d2, p0, p1, p2, rfl, rfl, rfl, t0, t1, t2⟩ := trodAll_three hA
  obtain ⟨rfl, rfl⟩ := trodVars_none hV
  clear hA0 hval0
  simp only [List.append_nil] at hW'
  have l0 : ∀ x ∈ p0, x.block < W.heap.size := fun x hx => hW'.lt x (by simp [hx])
  obtain ⟨x0, rfl, _⟩ := arg_word (hval 0 22 v0 rfl rfl) t0
  have l1 : ∀ x ∈ p1, x.block < W.heap.size := fun x hx => hW'.lt x (by simp [hx])
  obtain ⟨A1, x1, c1, rfl, r1, b1, n1⟩ := arg_ll (hval 1 23 v1 rfl rfl) t1 l1
  have l2 : ∀ x ∈ p2, x.block < W.heap.size := fun x hx => hW'.lt x (by simp [hx])
  obtain ⟨A2, x2, c2, rfl, r2, b2⟩ := arg_sl (hval 2 24 v2 rfl rfl) t2 l2
  refine (walk x0 A1 c1 x1 A2 c2 x2 b1 n1 b2 W r1 r2).mono fun e W' ⟨he, hb⟩ => ?_
  subst he
  exact ⟨_, rfl, post_of_below (pa := p0 ++ (p1 ++ p2)) (pv := []) hW' (fun _ _ _ => (trodAll_cons_mk (shut_bool Try.underlying4 _) trodAll_mk0)) (fun sp hsp => trodAll_mk3 (stay_word t0 hb l0 sp (fun x hx => hsp x (by simp [hx]))) (stay_ll t1 hb l1 sp (fun x hx => hsp x (by simp [hx]))) (stays t2 hb l2 sp (fun x hx => hsp x (by simp [hx])))) (fun _ _ => rfl) (by simp)
    hb (ok_one (by kernel_rfl) rfl (okWide_bool_mk Try.underlying4 _))⟩

theorem over : Rows.matrixRowSpanRow.holds Try.pinned (OpenSpec.ofChange Rows.matrixRowSpanSpec) :=
  OpenClaim.holds_of_wide 10 Try.f10 rfl rfl rfl rfl rfl rfl rfl ⟨rfl, rfl, rfl, rfl, rfl⟩ rfl rfl rfl rfl rfl (by kernel_rfl) Try.func10 (by kernel_rfl)
    (of_decide_eq_true (by kernel_rfl)) (by unfold Func.isWrapper; first | (rw [if_pos (by decide +kernel)]; kernel_rfl) | (rw [if_neg (by decide +kernel)]; exact ⟨rfl, rfl⟩))
    (fun os started H enc _ => lifted os started H enc)

theorem proved : Rows.MatrixRowSpanSaid := over
end Go.Proofs.Ytgkhngiiimnchaa.matrixRowSpan
