/- A matrix and its transpose have the same rank and the same determinant. No conditions. -/
import Derived.Test.YtgkhngiiimnchaaRMath
namespace Go.Proofs.Ytgkhngiiimnchaa.matrixTranspose
open Go.ChangeShapes Go.WideShapes Go.ChangeAt Go.RowKit PolyMath FieldMath MatMath

set_option maxRecDepth 100000 in
set_option maxHeartbeats 4000000 in
theorem walk_unfair (p : Int) (Am : Option Addr) (cm : Nat) (m : List (List Int)) (_wm : ∀ r ∈ m, Words r) (lm : m.length ≤ 9223372036854775807) (hf : fairB p m 10 = false) (w : World) (sm : Sll w Am cm m) :
    Calls Try.prog 9 #[.int .u64 p, .slice Am m.length cm] w fun e w' => e = .returned (.bool true) ∧ Below w.heap.size w w' := by
  have gf := fun W (h : Sll W Am cm m) => fair_any p Am cm 10 m (by omega) W h
  rw [hf] at gf
  have gr := fun W (h : Sll W Am cm m) => rRect_b Am cm m lm W h
  go_enter Try.func9, Try.ntmps9
  have hB := Below.refl w.heap.size w
  go_wp2_with fail
  refine (gr _ sm).mono ?_
  rintro e w1 ⟨rfl, hb⟩
  replace sm := sm.next hb
  replace hB := hB.trans (hb.mono hB.size)
  clear hb
  go_wp2_with fail
  refine (gf _ sm).mono ?_
  rintro e w2 ⟨rfl, hb⟩
  replace sm := sm.next hb
  replace hB := hB.trans (hb.mono hB.size)
  clear hb
  go_wp2_with fail
  refine (awake_any _).mono ?_
  rintro e w3 ⟨rfl, hb⟩
  replace sm := sm.next hb
  replace hB := hB.trans (hb.mono hB.size)
  clear hb
  go_wp2_with fail
  go_ret
  exact ⟨rfl, hB⟩

set_option maxRecDepth 100000 in
set_option maxHeartbeats 4000000 in
theorem walk_notrect (p : Int) (Am : Option Addr) (cm : Nat) (m : List (List Int)) (_wm : ∀ r ∈ m, Words r) (lm : m.length ≤ 9223372036854775807) (hf : fairB p m 10 = true) (hr : rect m = false) (w : World) (sm : Sll w Am cm m) :
    Calls Try.prog 9 #[.int .u64 p, .slice Am m.length cm] w fun e w' => e = .returned (.bool true) ∧ Below w.heap.size w w' := by
  have gf := fun W (h : Sll W Am cm m) => fair_any p Am cm 10 m (by omega) W h
  rw [hf] at gf
  have gr := fun W (h : Sll W Am cm m) => rRect_b Am cm m lm W h
  rw [hr] at gr
  go_enter Try.func9, Try.ntmps9
  have hB := Below.refl w.heap.size w
  go_wp2_with fail
  refine (gr _ sm).mono ?_
  rintro e w1 ⟨rfl, hb⟩
  replace sm := sm.next hb
  replace hB := hB.trans (hb.mono hB.size)
  clear hb
  go_wp2_with fail
  refine (gf _ sm).mono ?_
  rintro e w2 ⟨rfl, hb⟩
  replace sm := sm.next hb
  replace hB := hB.trans (hb.mono hB.size)
  clear hb
  go_wp2_with fail
  refine (awake_any _).mono ?_
  rintro e w3 ⟨rfl, hb⟩
  replace sm := sm.next hb
  replace hB := hB.trans (hb.mono hB.size)
  clear hb
  go_wp2_with fail
  go_ret
  exact ⟨rfl, hB⟩

set_option maxRecDepth 100000 in
set_option maxHeartbeats 4000000 in
theorem walk_nil (p : Int) (Am : Option Addr) (cm : Nat) (m : List (List Int)) (_wm : ∀ r ∈ m, Words r) (lm : m.length ≤ 9223372036854775807) (hf : fairB p m 10 = true) (hr : rect m = true) (h0 : m.length = 0) (w : World) (sm : Sll w Am cm m) :
    Calls Try.prog 9 #[.int .u64 p, .slice Am m.length cm] w fun e w' => e = .returned (.bool true) ∧ Below w.heap.size w w' := by
  have gf := fun W (h : Sll W Am cm m) => fair_any p Am cm 10 m (by omega) W h
  rw [hf] at gf
  have gr := fun W (h : Sll W Am cm m) => rRect_b Am cm m lm W h
  rw [hr] at gr
  have h0' : ((m.length : Int) == 0) = true := beq_iff_eq.2 (by omega)
  have H0 := Lib.hid h0
  clear h0
  go_enter Try.func9, Try.ntmps9
  have hB := Below.refl w.heap.size w
  go_wp2_with fail
  refine (gr _ sm).mono ?_
  rintro e w1 ⟨rfl, hb⟩
  replace sm := sm.next hb
  replace hB := hB.trans (hb.mono hB.size)
  clear hb
  go_wp2_with fail
  refine (gf _ sm).mono ?_
  rintro e w2 ⟨rfl, hb⟩
  replace sm := sm.next hb
  replace hB := hB.trans (hb.mono hB.size)
  clear hb
  go_wp2_with fail
  refine (awake_any _).mono ?_
  rintro e w3 ⟨rfl, hb⟩
  replace sm := sm.next hb
  replace hB := hB.trans (hb.mono hB.size)
  clear hb
  go_wp2_with fail
  go_ret
  exact ⟨rfl, hB⟩

set_option maxRecDepth 100000 in
set_option maxHeartbeats 4000000 in
theorem walk_nocol (p : Int) (Am : Option Addr) (cm : Nat) (m : List (List Int)) (_wm : ∀ r ∈ m, Words r) (lm : m.length ≤ 9223372036854775807) (hf : fairB p m 10 = true) (hr : rect m = true) (h0 : m.length ≠ 0) (h1 : ncol m = 0) (w : World) (sm : Sll w Am cm m) :
    Calls Try.prog 9 #[.int .u64 p, .slice Am m.length cm] w fun e w' => e = .returned (.bool true) ∧ Below w.heap.size w w' := by
  have gf := fun W (h : Sll W Am cm m) => fair_any p Am cm 10 m (by omega) W h
  rw [hf] at gf
  have gr := fun W (h : Sll W Am cm m) => rRect_b Am cm m lm W h
  have hRN : rectN m = 0 := by unfold rectN; rw [hr]; exact h1
  rw [hr, hRN] at gr
  have h0' : ((m.length : Int) == 0) = false := beq_eq_false_iff_ne.2 (by omega)
  go_enter Try.func9, Try.ntmps9
  have hB := Below.refl w.heap.size w
  go_wp2_with fail
  refine (gr _ sm).mono ?_
  rintro e w1 ⟨rfl, hb⟩
  replace sm := sm.next hb
  replace hB := hB.trans (hb.mono hB.size)
  clear hb
  go_wp2_with fail
  refine (gf _ sm).mono ?_
  rintro e w2 ⟨rfl, hb⟩
  replace sm := sm.next hb
  replace hB := hB.trans (hb.mono hB.size)
  clear hb
  go_wp2_with fail
  refine (awake_any _).mono ?_
  rintro e w3 ⟨rfl, hb⟩
  replace sm := sm.next hb
  replace hB := hB.trans (hb.mono hB.size)
  clear hb
  go_wp2_with fail
  go_ret
  exact ⟨rfl, hB⟩

set_option maxRecDepth 100000 in
set_option maxHeartbeats 4000000 in
theorem walk_sq (p : Int) (Am : Option Addr) (cm : Nat) (m : List (List Int)) (wm : ∀ r ∈ m, Words r) (lm : m.length ≤ 9223372036854775807) (hf : fairB p m 10 = true) (hr : rect m = true) (h0 : m.length ≠ 0) (h1 : ncol m ≠ 0) (hs : squ m = true) (w : World) (sm : Sll w Am cm m) :
    Calls Try.prog 9 #[.int .u64 p, .slice Am m.length cm] w fun e w' => e = .returned (.bool true) ∧ Below w.heap.size w w' := by
  obtain ⟨hp, hz, hE, hN, hL⟩ := fair_is (by omega) wm hf
  have hg := hp.good
  have gf := fun W (h : Sll W Am cm m) => fair_any p Am cm 10 m (by omega) W h
  rw [hf] at gf
  have gr := fun W (h : Sll W Am cm m) => rRect_b Am cm m lm W h
  have hRN : rectN m = ncol m := by unfold rectN; rw [hr]; rfl
  rw [hr, hRN] at gr
  have h0' : ((m.length : Int) == 0) = false := beq_eq_false_iff_ne.2 (by omega)
  have h1' : ((ncol m : Int) == 0) = false := beq_eq_false_iff_ne.2 (by omega)
  have hbd := hp.bd
  obtain ⟨t1, t2, t3⟩ := trn_rank hg hr hE (by omega) (by omega)
  have T1 := Lib.hid t1
  have hT := trn_mat (p := p) (by omega) (mat_of hr hE) (by omega)
  have hnc : ncol m ≤ 10 := hL 0
  have zT : Sized (trn m) := hT.sized (by omega) (by omega)
  have hTS := trn_squ hr hE (by omega) (show 0 < m.length by omega) (show 0 < ncol m by omega)
  have gk := fun W (h : Sll W Am cm m) => rank_ok p hp Am cm m hz hE hr W h
  have gk2 := fun W A c (h : Sll W A c (trn m)) => rank_ok p hp A c (trn m) zT hT.els hT.isRect W h
  rw [← t1] at gk2
  have t2' : (rnk p m : Int) ≤ m.length := by omega
  have t3' : (rnk p m : Int) ≤ ncol m := by omega
  clear t1 t2 t3 hRN
  generalize rnk p m = RK at *
  rw [hs] at hTS
  have gd := fun W (h : Sll W Am cm m) => det_ok p hp Am cm m hz hE hs W h
  have gd2 := fun W A c (h : Sll W A c (trn m)) => det_ok p hp A c (trn m) zT hT.els hTS W h
  rw [trn_det hg hs hE] at gd2
  generalize dtm p m = D at *
  go_enter Try.func9, Try.ntmps9
  have hB := Below.refl w.heap.size w
  go_wp2_with fail
  refine (gr _ sm).mono ?_
  rintro e w1 ⟨rfl, hb⟩
  replace sm := sm.next hb
  replace hB := hB.trans (hb.mono hB.size)
  clear hb
  go_wp2_with fail
  refine (gf _ sm).mono ?_
  rintro e w2 ⟨rfl, hb⟩
  replace sm := sm.next hb
  replace hB := hB.trans (hb.mono hB.size)
  clear hb
  go_wp2_with fail
  refine (rTurn_any Am cm m hz hr _ sm).mono ?_
  rintro e w3 ⟨vt, vst, rfl, hMt, hb⟩
  replace sm := sm.next hb
  replace hB := hB.trans (hb.mono hB.size)
  clear hb
  obtain ⟨At, ct, hvt, st⟩ := hMt.form
  subst hvt
  clear hMt
  go_wp2_with fail
  refine (gk _ sm).mono ?_
  rintro e w4 ⟨rfl, hb⟩
  replace sm := sm.next hb
  replace st := st.next hb
  replace hB := hB.trans (hb.mono hB.size)
  clear hb
  go_wp2_with fail
  refine (gk2 _ _ _ st).mono ?_
  rintro e w5 ⟨rfl, hb⟩
  replace sm := sm.next hb
  replace st := st.next hb
  replace hB := hB.trans (hb.mono hB.size)
  clear hb
  go_wp2_with fail
  refine (gd _ sm).mono ?_
  rintro e w6 ⟨rfl, hb⟩
  replace sm := sm.next hb
  replace st := st.next hb
  replace hB := hB.trans (hb.mono hB.size)
  clear hb
  go_wp2_with fail
  refine (gd2 _ _ _ st).mono ?_
  rintro e w7 ⟨rfl, hb⟩
  replace sm := sm.next hb
  replace st := st.next hb
  replace hB := hB.trans (hb.mono hB.size)
  clear hb
  go_wp2_with fail
  refine (awake_any _).mono ?_
  rintro e w8 ⟨rfl, hb⟩
  replace sm := sm.next hb
  replace st := st.next hb
  replace hB := hB.trans (hb.mono hB.size)
  clear hb
  go_wp2_with fail
  go_ret
  exact ⟨rfl, hB⟩

set_option maxRecDepth 100000 in
set_option maxHeartbeats 4000000 in
theorem walk_ns (p : Int) (Am : Option Addr) (cm : Nat) (m : List (List Int)) (wm : ∀ r ∈ m, Words r) (lm : m.length ≤ 9223372036854775807) (hf : fairB p m 10 = true) (hr : rect m = true) (h0 : m.length ≠ 0) (h1 : ncol m ≠ 0) (hs : squ m = false) (w : World) (sm : Sll w Am cm m) :
    Calls Try.prog 9 #[.int .u64 p, .slice Am m.length cm] w fun e w' => e = .returned (.bool true) ∧ Below w.heap.size w w' := by
  obtain ⟨hp, hz, hE, hN, hL⟩ := fair_is (by omega) wm hf
  have hg := hp.good
  have gf := fun W (h : Sll W Am cm m) => fair_any p Am cm 10 m (by omega) W h
  rw [hf] at gf
  have gr := fun W (h : Sll W Am cm m) => rRect_b Am cm m lm W h
  have hRN : rectN m = ncol m := by unfold rectN; rw [hr]; rfl
  rw [hr, hRN] at gr
  have h0' : ((m.length : Int) == 0) = false := beq_eq_false_iff_ne.2 (by omega)
  have h1' : ((ncol m : Int) == 0) = false := beq_eq_false_iff_ne.2 (by omega)
  have hbd := hp.bd
  obtain ⟨t1, t2, t3⟩ := trn_rank hg hr hE (by omega) (by omega)
  have T1 := Lib.hid t1
  have hT := trn_mat (p := p) (by omega) (mat_of hr hE) (by omega)
  have hnc : ncol m ≤ 10 := hL 0
  have zT : Sized (trn m) := hT.sized (by omega) (by omega)
  have hTS := trn_squ hr hE (by omega) (show 0 < m.length by omega) (show 0 < ncol m by omega)
  have gk := fun W (h : Sll W Am cm m) => rank_ok p hp Am cm m hz hE hr W h
  have gk2 := fun W A c (h : Sll W A c (trn m)) => rank_ok p hp A c (trn m) zT hT.els hT.isRect W h
  rw [← t1] at gk2
  have t2' : (rnk p m : Int) ≤ m.length := by omega
  have t3' : (rnk p m : Int) ≤ ncol m := by omega
  clear t1 t2 t3 hRN
  generalize rnk p m = RK at *
  rw [hs] at hTS
  have gd := fun W (h : Sll W Am cm m) => det_bad p Am cm m hz hs W h
  have gd2 := fun W A c (h : Sll W A c (trn m)) => det_bad p A c (trn m) zT hTS W h
  go_enter Try.func9, Try.ntmps9
  have hB := Below.refl w.heap.size w
  go_wp2_with fail
  refine (gr _ sm).mono ?_
  rintro e w1 ⟨rfl, hb⟩
  replace sm := sm.next hb
  replace hB := hB.trans (hb.mono hB.size)
  clear hb
  go_wp2_with fail
  refine (gf _ sm).mono ?_
  rintro e w2 ⟨rfl, hb⟩
  replace sm := sm.next hb
  replace hB := hB.trans (hb.mono hB.size)
  clear hb
  go_wp2_with fail
  refine (rTurn_any Am cm m hz hr _ sm).mono ?_
  rintro e w3 ⟨vt, vst, rfl, hMt, hb⟩
  replace sm := sm.next hb
  replace hB := hB.trans (hb.mono hB.size)
  clear hb
  obtain ⟨At, ct, hvt, st⟩ := hMt.form
  subst hvt
  clear hMt
  go_wp2_with fail
  refine (gk _ sm).mono ?_
  rintro e w4 ⟨rfl, hb⟩
  replace sm := sm.next hb
  replace st := st.next hb
  replace hB := hB.trans (hb.mono hB.size)
  clear hb
  go_wp2_with fail
  refine (gk2 _ _ _ st).mono ?_
  rintro e w5 ⟨rfl, hb⟩
  replace sm := sm.next hb
  replace st := st.next hb
  replace hB := hB.trans (hb.mono hB.size)
  clear hb
  go_wp2_with fail
  refine (gd _ sm).mono ?_
  rintro e w6 ⟨rfl, hb⟩
  replace sm := sm.next hb
  replace st := st.next hb
  replace hB := hB.trans (hb.mono hB.size)
  clear hb
  go_wp2_with fail
  refine (gd2 _ _ _ st).mono ?_
  rintro e w7 ⟨rfl, hb⟩
  replace sm := sm.next hb
  replace st := st.next hb
  replace hB := hB.trans (hb.mono hB.size)
  clear hb
  go_wp2_with fail
  refine (awake_any _).mono ?_
  rintro e w8 ⟨rfl, hb⟩
  replace sm := sm.next hb
  replace st := st.next hb
  replace hB := hB.trans (hb.mono hB.size)
  clear hb
  go_wp2_with fail
  go_ret
  exact ⟨rfl, hB⟩

set_option maxRecDepth 100000 in
set_option maxHeartbeats 4000000 in
theorem walk (p : Int) (Am : Option Addr) (cm : Nat) (m : List (List Int)) (wm : ∀ r ∈ m, Words r) (lm : m.length ≤ 9223372036854775807)  (w : World) (sm : Sll w Am cm m) :
    Calls Try.prog 9 #[.int .u64 p, .slice Am m.length cm] w fun e w' => e = .returned (.bool true) ∧ Below w.heap.size w w' := by
  cases hf : fairB p m 10 with
  | false => exact walk_unfair p Am cm m wm lm hf w sm
  | true =>
    cases hr : rect m with
    | false => exact walk_notrect p Am cm m wm lm hf hr w sm
    | true =>
      by_cases h0 : m.length = 0
      · exact walk_nil p Am cm m wm lm hf hr h0 w sm
      · by_cases h1 : ncol m = 0
        · exact walk_nocol p Am cm m wm lm hf hr h0 h1 w sm
        · cases hs : squ m with
          | false => exact walk_ns p Am cm m wm lm hf hr h0 h1 hs w sm
          | true => exact walk_sq p Am cm m wm lm hf hr h0 h1 hs w sm

set_option maxRecDepth 100000 in
theorem lifted (os : Os) (started : os.Started) (H : Type) (enc : TypeId × Value → H) :
    ReturnsInHanded {} Try.checked os 9 .any (Rows.matrixTransposeSpec.pre6 enc Try.prog Try.f9 Rows.matrixTransposeRow.domain false) (Rows.matrixTransposeSpec.post enc Try.prog Try.f9 false true false false) := by
  refine returnsInHanded_of_change (C := Try.checked) own started (by kernel_rfl) Try.func9
    (ChangeSpec.witness6 (enc := enc) (C := Try.checked) false ⟨#[], #[.int .u64 0, .slice none 0 0], []⟩ 8 (by kernel_rfl) (by kernel_rfl) (by kernel_rfl) (by kernel_rfl)) ?_
  intro W base args ds gs before hval0 hW hcnd _
  have hval : ∀ (j : Nat) t v, Try.f9.params[j]? = some t → args[j]? = some v → Value.okWide Try.prog W .any base t v := hval0
  have hW' := hW
  obtain ⟨p, q, hA0, hV, rfl, hfz, hnd⟩ := hW
  have hA : DataW.TrodAll enc Try.prog W 0 (fun _ => true) true Try.f9.params.toList args.toList ds p := hA0
  rw [Try.params9] at hA hval
  obtain ⟨v0, v1, d0, d1, p0, p1, rfl, rfl, rfl, t0, t1⟩ := trodAll_two hA
  obtain ⟨rfl, rfl⟩ := trodVars_none hV
  clear hA0 hval0
  simp only [List.append_nil] at hW'
  have l0 : ∀ x ∈ p0, x.block < W.heap.size := fun x hx => hW'.lt x (by simp [hx])
  obtain ⟨x0, rfl, _⟩ := arg_word (hval 0 22 v0 rfl rfl) t0
  have l1 : ∀ x ∈ p1, x.block < W.heap.size := fun x hx => hW'.lt x (by simp [hx])
  obtain ⟨A1, x1, c1, rfl, r1, b1, n1⟩ := arg_ll (hval 1 23 v1 rfl rfl) t1 l1
  refine (walk x0 A1 c1 x1 b1 n1 W r1).mono fun e W' ⟨he, hb⟩ => ?_
  subst he
  exact ⟨_, rfl, post_of_below (pa := p0 ++ p1) (pv := []) hW' (fun _ _ _ => (trodAll_cons_mk (shut_bool Try.underlying4 _) trodAll_mk0)) (fun sp hsp => trodAll_mk2 (stay_word t0 hb l0 sp (fun x hx => hsp x (by simp [hx]))) (stay_ll t1 hb l1 sp (fun x hx => hsp x (by simp [hx])))) (fun _ _ => rfl) (by simp)
    hb (ok_one (by kernel_rfl) rfl (okWide_bool_mk Try.underlying4 _))⟩

theorem over : Rows.matrixTransposeRow.holds Try.pinned (OpenSpec.ofChange Rows.matrixTransposeSpec) :=
  OpenClaim.holds_of_wide 9 Try.f9 rfl rfl rfl rfl rfl rfl rfl ⟨rfl, rfl, rfl, rfl, rfl⟩ rfl rfl rfl rfl rfl (by kernel_rfl) Try.func9 (by kernel_rfl)
    (of_decide_eq_true (by kernel_rfl)) (by unfold Func.isWrapper; first | (rw [if_pos (by decide +kernel)]; kernel_rfl) | (rw [if_neg (by decide +kernel)]; exact ⟨rfl, rfl⟩))
    (fun os started H enc _ => lifted os started H enc)

theorem proved : Rows.MatrixTransposeSaid := over
end Go.Proofs.Ytgkhngiiimnchaa.matrixTranspose
