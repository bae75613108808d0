/- Inverse returns a two-sided inverse if and only if the determinant is not zero. No conditions. -/
import Derived.Test.YtgkhngiiimnchaaRMath
namespace Go.Proofs.Ytgkhngiiimnchaa.matrixInverse
open Go.ChangeShapes Go.WideShapes Go.ChangeAt Go.RowKit PolyMath FieldMath MatMath

set_option maxRecDepth 100000 in
set_option maxHeartbeats 4000000 in
theorem walk_unfair (p : Int) (Am : Option Addr) (cm : Nat) (m : List (List Int)) (_wm : ∀ r ∈ m, Words r) (_lm : m.length ≤ 9223372036854775807) (hf : fairB p m 10 = false) (w : World) (sm : Sll w Am cm m) :
    Calls Try.prog 6 #[.int .u64 p, .slice Am m.length cm] w fun e w' => e = .returned (.bool true) ∧ Below w.heap.size w w' := by
  have gf := fun W (h : Sll W Am cm m) => fair_any p Am cm 10 m (by omega) W h
  rw [hf] at gf
  go_enter Try.func6, Try.ntmps6
  have hB := Below.refl w.heap.size w
  go_wp2_with fail
  refine (gf _ sm).mono ?_
  rintro e w1 ⟨rfl, hb⟩
  replace sm := sm.next hb
  replace hB := hB.trans (hb.mono hB.size)
  clear hb
  go_wp2_with fail
  refine (awake_any _).mono ?_
  rintro e w2 ⟨rfl, hb⟩
  replace sm := sm.next hb
  replace hB := hB.trans (hb.mono hB.size)
  clear hb
  go_wp2_with fail
  go_ret
  exact ⟨rfl, hB⟩

set_option maxRecDepth 100000 in
set_option maxHeartbeats 4000000 in
theorem walk_notsq (p : Int) (Am : Option Addr) (cm : Nat) (m : List (List Int)) (wm : ∀ r ∈ m, Words r) (_lm : m.length ≤ 9223372036854775807) (hf : fairB p m 10 = true) (hs : squ m = false) (w : World) (sm : Sll w Am cm m) :
    Calls Try.prog 6 #[.int .u64 p, .slice Am m.length cm] w fun e w' => e = .returned (.bool true) ∧ Below w.heap.size w w' := by
  obtain ⟨hp, hz, hE, hN, hL⟩ := fair_is (by omega) wm hf
  have hg := hp.good
  have gf := fun W (h : Sll W Am cm m) => fair_any p Am cm 10 m (by omega) W h
  rw [hf] at gf
  go_enter Try.func6, Try.ntmps6
  have hB := Below.refl w.heap.size w
  go_wp2_with fail
  refine (gf _ sm).mono ?_
  rintro e w1 ⟨rfl, hb⟩
  replace sm := sm.next hb
  replace hB := hB.trans (hb.mono hB.size)
  clear hb
  go_wp2_with fail
  refine (inv_bad p Am cm m hz hs _ sm).mono ?_
  rintro e w2 ⟨rfl, hb⟩
  replace sm := sm.next hb
  replace hB := hB.trans (hb.mono hB.size)
  clear hb
  go_wp2_with fail
  refine (det_bad p Am cm m hz hs _ sm).mono ?_
  rintro e w3 ⟨rfl, hb⟩
  replace sm := sm.next hb
  replace hB := hB.trans (hb.mono hB.size)
  clear hb
  go_wp2_with fail
  refine (awake_any _).mono ?_
  rintro e w4 ⟨rfl, hb⟩
  replace sm := sm.next hb
  replace hB := hB.trans (hb.mono hB.size)
  clear hb
  go_wp2_with fail
  go_ret
  exact ⟨rfl, hB⟩

set_option maxRecDepth 100000 in
set_option maxHeartbeats 4000000 in
theorem walk_none (p : Int) (Am : Option Addr) (cm : Nat) (m : List (List Int)) (wm : ∀ r ∈ m, Words r) (_lm : m.length ≤ 9223372036854775807) (hf : fairB p m 10 = true) (hs : squ m = true) (hi : invM p m = none) (w : World) (sm : Sll w Am cm m) :
    Calls Try.prog 6 #[.int .u64 p, .slice Am m.length cm] w fun e w' => e = .returned (.bool true) ∧ Below w.heap.size w w' := by
  obtain ⟨hp, hz, hE, hN, hL⟩ := fair_is (by omega) wm hf
  have hg := hp.good
  have gf := fun W (h : Sll W Am cm m) => fair_any p Am cm 10 m (by omega) W h
  rw [hf] at gf
  have hd := invM_none hg hs hE hi
  have gi := fun W (h : Sll W Am cm m) => inv_any p hp Am cm m hz hE hs W h
  have gd := fun W (h : Sll W Am cm m) => det_ok p hp Am cm m hz hE hs W h
  rw [hd] at gd
  have gi' : ∀ W, Sll W Am cm m → Calls Try.prog 27 #[.int .u64 p, .slice Am m.length cm] W fun e w' => e = .returned (.tuple #[.slice none 0 0, .int .i64 8]) ∧ Below W.heap.size W w' := fun W h => (gi W h).mono fun e w' hx => by
    rcases hx with ⟨X, h1, _⟩ | ⟨_, h2⟩
    · rw [hi] at h1; cases h1
    · exact h2
  go_enter Try.func6, Try.ntmps6
  have hB := Below.refl w.heap.size w
  go_wp2_with fail
  refine (gf _ sm).mono ?_
  rintro e w1 ⟨rfl, hb⟩
  replace sm := sm.next hb
  replace hB := hB.trans (hb.mono hB.size)
  clear hb
  go_wp2_with fail
  refine (gi' _ sm).mono ?_
  rintro e w2 ⟨rfl, hb⟩
  replace sm := sm.next hb
  replace hB := hB.trans (hb.mono hB.size)
  clear hb
  go_wp2_with fail
  refine (gd _ sm).mono ?_
  rintro e w3 ⟨rfl, hb⟩
  replace sm := sm.next hb
  replace hB := hB.trans (hb.mono hB.size)
  clear hb
  go_wp2_with fail
  refine (awake_any _).mono ?_
  rintro e w4 ⟨rfl, hb⟩
  replace sm := sm.next hb
  replace hB := hB.trans (hb.mono hB.size)
  clear hb
  go_wp2_with fail
  go_ret
  exact ⟨rfl, hB⟩

set_option maxRecDepth 100000 in
set_option maxHeartbeats 4000000 in
theorem walk_some (p : Int) (Am : Option Addr) (cm : Nat) (m : List (List Int)) (wm : ∀ r ∈ m, Words r) (_lm : m.length ≤ 9223372036854775807) (X : List (List Int)) (hf : fairB p m 10 = true) (hs : squ m = true) (hi : invM p m = some X) (w : World) (sm : Sll w Am cm m) :
    Calls Try.prog 6 #[.int .u64 p, .slice Am m.length cm] w fun e w' => e = .returned (.bool true) ∧ Below w.heap.size w w' := by
  obtain ⟨hp, hz, hE, hN, hL⟩ := fair_is (by omega) wm hf
  have hg := hp.good
  have gf := fun W (h : Sll W Am cm m) => fair_any p Am cm 10 m (by omega) W h
  rw [hf] at gf
  obtain ⟨hd, hX, h1', h2'⟩ := invM_some hg hs hE hi
  have h1 := Lib.hid h1'
  have h2 := Lib.hid h2'
  obtain ⟨q1, q2', q3⟩ := squ_iff.1 hs
  have q2 := Lib.hid q2'
  have zX : Sized X := hX.sized (by omega) (by omega)
  have zO : Sized (oneL m.length) := (oneL_mat (p := p) (by have := hp.bd; omega) m.length).sized (by omega) (by omega)
  have gi := fun W (h : Sll W Am cm m) => inv_any p hp Am cm m hz hE hs W h
  have gd := fun W (h : Sll W Am cm m) => det_ok p hp Am cm m hz hE hs W h
  have hdb := dtm_bd hg hs hE
  have hd' : (dtm p m != 0) = true := bne_iff_ne.2 hd
  have gi' : ∀ W, Sll W Am cm m → Calls Try.prog 27 #[.int .u64 p, .slice Am m.length cm] W fun e w' => MatE W e w' X := fun W h => (gi W h).mono fun e w' hx => by
    rcases hx with ⟨Y, h1, h2⟩ | ⟨h1, _⟩
    · rw [hi] at h1; injection h1 with h1; subst h1; exact h2
    · rw [hi] at h1; cases h1
  generalize dtm p m = D at *
  clear q2' h1' h2' hi gi
  go_enter Try.func6, Try.ntmps6
  have hB := Below.refl w.heap.size w
  go_wp2_with fail
  refine (gf _ sm).mono ?_
  rintro e w1 ⟨rfl, hb⟩
  replace sm := sm.next hb
  replace hB := hB.trans (hb.mono hB.size)
  clear hb
  go_wp2_with fail
  refine (gi' _ sm).mono ?_
  rintro e w2 ⟨Ax, cx, rfl, sx, hb⟩
  replace sm := sm.next hb
  replace hB := hB.trans (hb.mono hB.size)
  clear hb
  go_wp2_with fail
  refine (gd _ sm).mono ?_
  rintro e w3 ⟨rfl, hb⟩
  replace sm := sm.next hb
  replace sx := sx.next hb
  replace hB := hB.trans (hb.mono hB.size)
  clear hb
  go_wp2_with fail
  refine (mul_ok p hp Ax Am cx cm X m zX hz hX.els hE hX.isRect q3 (by rw [hX.cols q1]) _ sx sm).mono ?_
  rintro e w4 ⟨A1, c1, rfl, s1, hb⟩
  replace sm := sm.next hb
  replace sx := sx.next hb
  replace hB := hB.trans (hb.mono hB.size)
  clear hb
  go_wp2_with fail
  refine (mul_ok p hp Am Ax cm cx m X hz zX hE hX.els q3 hX.isRect (by rw [hX.rows]; exact q2.out.symm) _ sm sx).mono ?_
  rintro e w5 ⟨A2, c2, rfl, s2, hb⟩
  replace sm := sm.next hb
  replace sx := sx.next hb
  replace s1 := s1.next hb
  replace hB := hB.trans (hb.mono hB.size)
  clear hb
  rw [h1.out] at s1
  rw [h2.out] at s2
  rw [h1.out, h2.out]
  go_wp2_with fail
  refine (rOne_any m.length (by omega) _).mono ?_
  rintro e w6 ⟨v3, vs3, rfl, hM3, hb⟩
  replace sm := sm.next hb
  replace sx := sx.next hb
  replace s1 := s1.next hb
  replace s2 := s2.next hb
  replace hB := hB.trans (hb.mono hB.size)
  clear hb
  obtain ⟨A3, c3, hv3, s3⟩ := hM3.form
  subst hv3
  clear hM3
  go_wp2_with fail
  refine (awake_any _).mono ?_
  rintro e w7 ⟨rfl, hb⟩
  replace sm := sm.next hb
  replace sx := sx.next hb
  replace s1 := s1.next hb
  replace s2 := s2.next hb
  replace s3 := s3.next hb
  replace hB := hB.trans (hb.mono hB.size)
  clear hb
  go_wp2_with fail
  refine (sameM_b _ _ (oneL m.length) _ _ _ s1 s3 zO).mono ?_
  rintro e w8 ⟨rfl, hb⟩
  replace sm := sm.next hb
  replace sx := sx.next hb
  replace s1 := s1.next hb
  replace s2 := s2.next hb
  replace s3 := s3.next hb
  replace hB := hB.trans (hb.mono hB.size)
  clear hb
  go_wp2_with fail
  refine (sameM_b _ _ (oneL m.length) _ _ _ s2 s3 zO).mono ?_
  rintro e w9 ⟨rfl, hb⟩
  replace sm := sm.next hb
  replace sx := sx.next hb
  replace s1 := s1.next hb
  replace s2 := s2.next hb
  replace s3 := s3.next hb
  replace hB := hB.trans (hb.mono hB.size)
  clear hb
  go_wp2_with fail
  go_ret
  exact ⟨rfl, hB⟩

set_option maxRecDepth 100000 in
set_option maxHeartbeats 4000000 in
theorem walk (p : Int) (Am : Option Addr) (cm : Nat) (m : List (List Int)) (wm : ∀ r ∈ m, Words r) (lm : m.length ≤ 9223372036854775807)  (w : World) (sm : Sll w Am cm m) :
    Calls Try.prog 6 #[.int .u64 p, .slice Am m.length cm] w fun e w' => e = .returned (.bool true) ∧ Below w.heap.size w w' := by
  cases hf : fairB p m 10 with
  | false => exact walk_unfair p Am cm m wm lm hf w sm
  | true =>
    cases hs : squ m with
    | false => exact walk_notsq p Am cm m wm lm hf hs w sm
    | true =>
      cases hi : invM p m with
      | none => exact walk_none p Am cm m wm lm hf hs hi w sm
      | some X => exact walk_some p Am cm m wm lm X hf hs hi w sm

set_option maxRecDepth 100000 in
theorem lifted (os : Os) (started : os.Started) (H : Type) (enc : TypeId × Value → H) :
    ReturnsInHanded {} Try.checked os 6 .any (Rows.matrixInverseSpec.pre6 enc Try.prog Try.f6 Rows.matrixInverseRow.domain false) (Rows.matrixInverseSpec.post enc Try.prog Try.f6 false true false false) := by
  refine returnsInHanded_of_change (C := Try.checked) own started (by kernel_rfl) Try.func6
    (ChangeSpec.witness6 (enc := enc) (C := Try.checked) false ⟨#[], #[.int .u64 0, .slice none 0 0], []⟩ 8 (by kernel_rfl) (by kernel_rfl) (by kernel_rfl) (by kernel_rfl)) ?_
  intro W base args ds gs before hval0 hW hcnd _
  have hval : ∀ (j : Nat) t v, Try.f6.params[j]? = some t → args[j]? = some v → Value.okWide Try.prog W .any base t v := hval0
  have hW' := hW
  obtain ⟨p, q, hA0, hV, rfl, hfz, hnd⟩ := hW
  have hA : DataW.TrodAll enc Try.prog W 0 (fun _ => true) true Try.f6.params.toList args.toList ds p := hA0
  rw [Try.params6] at hA hval
  obtain ⟨v0, v1, d0, d1, p0, p1, rfl, rfl, rfl, t0, t1⟩ := trodAll_two hA
  obtain ⟨rfl, rfl⟩ := trodVars_none hV
  clear hA0 hval0
  simp only [List.append_nil] at hW'
  have l0 : ∀ x ∈ p0, x.block < W.heap.size := fun x hx => hW'.lt x (by simp [hx])
  obtain ⟨x0, rfl, _⟩ := arg_word (hval 0 22 v0 rfl rfl) t0
  have l1 : ∀ x ∈ p1, x.block < W.heap.size := fun x hx => hW'.lt x (by simp [hx])
  obtain ⟨A1, x1, c1, rfl, r1, b1, n1⟩ := arg_ll (hval 1 23 v1 rfl rfl) t1 l1
  refine (walk x0 A1 c1 x1 b1 n1 W r1).mono fun e W' ⟨he, hb⟩ => ?_
  subst he
  exact ⟨_, rfl, post_of_below (pa := p0 ++ p1) (pv := []) hW' (fun _ _ _ => (trodAll_cons_mk (shut_bool Try.underlying4 _) trodAll_mk0)) (fun sp hsp => trodAll_mk2 (stay_word t0 hb l0 sp (fun x hx => hsp x (by simp [hx]))) (stay_ll t1 hb l1 sp (fun x hx => hsp x (by simp [hx])))) (fun _ _ => rfl) (by simp)
    hb (ok_one (by kernel_rfl) rfl (okWide_bool_mk Try.underlying4 _))⟩

theorem over : Rows.matrixInverseRow.holds Try.pinned (OpenSpec.ofChange Rows.matrixInverseSpec) :=
  OpenClaim.holds_of_wide 6 Try.f6 rfl rfl rfl rfl rfl rfl rfl ⟨rfl, rfl, rfl, rfl, rfl⟩ rfl rfl rfl rfl rfl (by kernel_rfl) Try.func6 (by kernel_rfl)
    (of_decide_eq_true (by kernel_rfl)) (by unfold Func.isWrapper; first | (rw [if_pos (by decide +kernel)]; kernel_rfl) | (rw [if_neg (by decide +kernel)]; exact ⟨rfl, rfl⟩))
    (fun os started H enc _ => lifted os started H enc)

theorem proved : Rows.MatrixInverseSaid := over
end Go.Proofs.Ytgkhngiiimnchaa.matrixInverse
