/- PolyArithmetic: for every supported prime, polynomials and elements, Eval, Add, Sub, Scale and Mul of package poly answer as the reference does, and the examples of the document hold. No conditions. -/
import Derived.Test.YtcnmiodgdnohfaaPMore
namespace Go.Proofs.Ytcnmiodgdnohfaa.polyArithmetic
open Go.ChangeShapes Go.WideShapes Go.ChangeAt Go.RowKit Go.Joins PolyMath FieldMath

set_option maxRecDepth 100000 in
set_option maxHeartbeats 4000000 in
theorem walk : AskWalk 4 := by
  intro w v P X K A B C ca cb cc xa xb xc hI
  obtain ⟨rfl, hP, hX, hK, wa, wb, wc, sa, sb, sc⟩ := hI
  have hp := fitP_ok P
  have hfit := fun W (h1 : Sl W A ca xa) (h2 : Sl W B cb xb) (h3 : Sl W C cc xc) => fit_row P X K A B C ca cb cc xa xb xc hP.1 hP.2 wa wb wc W h1 h2 h3
  generalize fitP P = p at hp hfit
  have hbd := hp.bd
  have la := wds_len p xa
  have lb := wds_len p xb
  have lc := wds_len p xc
  have ea := wds_el (p := p) (by omega) xa
  have eb := wds_el (p := p) (by omega) xb
  have ec := wds_el (p := p) (by omega) xc
  go_enter Try.func4, Try.ntmps4
  go_wp2_with fail
  refine (hfit _ (sa.push _) (sb.push _) (sc.push _)).mono ?_
  rintro e w1 ⟨A1, c1, A2, c2, A3, c3, rfl, s1, s2, s3, hb⟩
  have hB : Below w.heap.size w w1 := ((Below.refl _ _).alloc (Nat.le_refl _) _).trans (hb.mono (by simp))
  have kx : w1.cell? ⟨w.heap.size, 4, none⟩ = some (.int .u64 X) := by rw [(bcell hb).1 _ _ (by simp)]; go_simp
  have kk : w1.cell? ⟨w.heap.size, 5, none⟩ = some (.int .u64 K) := by rw [(bcell hb).1 _ _ (by simp)]; go_simp
  clear hb hfit sa sb sc wa wb wc
  generalize wds p xa = a at *
  generalize wds p xb = b at *
  generalize wds p xc = c at *
  clear s3 ec lc
  have hxm : 0 ≤ X % p ∧ X % p < p := md X p (by omega)
  have hkm : 0 ≤ K % p ∧ K % p < p := md K p (by omega)
  go_wp2_with fail
  go_quiet (fail)
  replace s1 := s1.next (below_drewN (Below.refl w1.heap.size w1) nq)
  replace s2 := s2.next (below_drewN (Below.refl w1.heap.size w1) nq)
  replace hB := below_drewN hB nq
  clear kx kk hX hK
  generalize w1.drewN nq = w2 at *
  generalize X % p = x at *
  generalize K % p = k at *
  go_wp2_with fail
  refine (awake_any _).mono ?_; rintro e w3 ⟨rfl, hb⟩
  replace s1 := s1.next hb
  replace s2 := s2.next hb
  replace hB := hB.trans (hb.mono hB.size)
  clear hb
  go_wp2_with fail
  refine (eval_any p x hp hxm _ _ a ea (by omega) _ s1).mono ?_; rintro e w4 ⟨rfl, hb⟩
  replace s1 := s1.next hb
  replace s2 := s2.next hb
  replace hB := hB.trans (hb.mono hB.size)
  clear hb
  go_wp2_with fail
  refine (rEval_any p x hp hxm _ _ a ea (by omega) _ s1).mono ?_; rintro e w' ⟨rfl, rfl⟩
  go_wp2_with fail
  refine (add_row p hp _ _ _ _ a b ea eb (by omega) (by omega) _ s1 s2).mono ?_; rintro e w5 ⟨At1, ct1, rfl, t1, hb⟩
  replace s1 := s1.next hb
  replace s2 := s2.next hb
  replace hB := hB.trans (hb.mono hB.size)
  clear hb
  go_wp2_with fail
  refine (rAddP_row p hp _ _ _ _ a b ea eb (by omega) (by omega) _ s1 s2).mono ?_; rintro e w6 ⟨At2, ct2, rfl, t2, hb⟩
  replace s1 := s1.next hb
  replace s2 := s2.next hb
  replace t1 := t1.next hb
  replace hB := hB.trans (hb.mono hB.size)
  clear hb
  go_wp2_with fail
  refine (equal_is _ _ (padd p a b) (padd p a b) _ _ _ t1 t2 (by have := padd_len p (a) (b); omega) (rfl)).mono ?_; rintro e w7 ⟨rfl, hb⟩
  replace s1 := s1.next hb
  replace s2 := s2.next hb
  replace t1 := t1.next hb
  replace t2 := t2.next hb
  replace hB := hB.trans (hb.mono hB.size)
  clear hb
  clear t1
  clear t2
  go_wp2_with fail
  refine (sub_row p hp _ _ _ _ a b ea eb (by omega) (by omega) _ s1 s2).mono ?_; rintro e w8 ⟨At1, ct1, rfl, t1, hb⟩
  replace s1 := s1.next hb
  replace s2 := s2.next hb
  replace hB := hB.trans (hb.mono hB.size)
  clear hb
  go_wp2_with fail
  refine (rSubP_row p hp _ _ _ _ a b ea eb (by omega) (by omega) _ s1 s2).mono ?_; rintro e w9 ⟨At2, ct2, rfl, t2, hb⟩
  replace s1 := s1.next hb
  replace s2 := s2.next hb
  replace t1 := t1.next hb
  replace hB := hB.trans (hb.mono hB.size)
  clear hb
  go_wp2_with fail
  refine (equal_is _ _ (psub p a b) (psub p a b) _ _ _ t1 t2 (by have := psub_len p (a) (b); omega) (rfl)).mono ?_; rintro e w10 ⟨rfl, hb⟩
  replace s1 := s1.next hb
  replace s2 := s2.next hb
  replace t1 := t1.next hb
  replace t2 := t2.next hb
  replace hB := hB.trans (hb.mono hB.size)
  clear hb
  clear t1
  clear t2
  go_wp2_with fail
  refine (scale_row p k hp hkm _ _ a ea (by omega) _ s1).mono ?_; rintro e w11 ⟨At1, ct1, rfl, t1, hb⟩
  replace s1 := s1.next hb
  replace s2 := s2.next hb
  replace hB := hB.trans (hb.mono hB.size)
  clear hb
  go_wp2_with fail
  refine (rScale_row p k hp hkm _ _ a ea (by omega) _ s1).mono ?_; rintro e w12 ⟨At2, ct2, rfl, t2, hb⟩
  replace s1 := s1.next hb
  replace s2 := s2.next hb
  replace t1 := t1.next hb
  replace hB := hB.trans (hb.mono hB.size)
  clear hb
  go_wp2_with fail
  refine (equal_is _ _ (pscl p k a) (pscl p k a) _ _ _ t1 t2 (by have := pscl_len p k a; omega) (rfl)).mono ?_; rintro e w13 ⟨rfl, hb⟩
  replace s1 := s1.next hb
  replace s2 := s2.next hb
  replace t1 := t1.next hb
  replace t2 := t2.next hb
  replace hB := hB.trans (hb.mono hB.size)
  clear hb
  clear t1
  clear t2
  go_wp2_with fail
  refine (mul_row p hp _ _ _ _ a b ea eb (by omega) (by omega) _ s1 s2).mono ?_; rintro e w14 ⟨At1, ct1, rfl, t1, hb⟩
  replace s1 := s1.next hb
  replace s2 := s2.next hb
  replace hB := hB.trans (hb.mono hB.size)
  clear hb
  go_wp2_with fail
  refine (rMulP_row p hp _ _ _ _ a b ea eb (by omega) (by omega) _ s1 s2).mono ?_; rintro e w15 ⟨At2, ct2, rfl, t2, hb⟩
  replace s1 := s1.next hb
  replace s2 := s2.next hb
  replace t1 := t1.next hb
  replace hB := hB.trans (hb.mono hB.size)
  clear hb
  go_wp2_with fail
  refine (equal_is _ _ (pmul p a b) (pmul p a b) _ _ _ t1 t2 (by have := pmul_len p (a) (b); omega) (rfl)).mono ?_; rintro e w16 ⟨rfl, hb⟩
  replace s1 := s1.next hb
  replace s2 := s2.next hb
  replace t1 := t1.next hb
  replace t2 := t2.next hb
  replace hB := hB.trans (hb.mono hB.size)
  clear hb
  go_wp2_with fail
  go_ret
  exact ⟨rfl, hB⟩

set_option maxRecDepth 100000 in
theorem lifted (os : Os) (started : os.Started) (H : Type) (enc : TypeId × Value → H) :
    ReturnsInHanded {} Try.checked os 4 .any (Rows.polyArithmeticSpec.pre6 enc Try.prog Try.f4 Rows.polyArithmeticRow.domain false) (Rows.polyArithmeticSpec.post enc Try.prog Try.f4 false true false false) := by
  refine returnsInHanded_of_change (C := Try.checked) own started (by kernel_rfl) Try.func4
    (ChangeSpec.witness6 (enc := enc) (C := Try.checked) false ⟨#[], #[.agg #[.int .u64 0, .slice none 0 0, .slice none 0 0, .slice none 0 0, .int .u64 0, .int .u64 0]], []⟩ 8 (by kernel_rfl) (by kernel_rfl) (by kernel_rfl) (by kernel_rfl)) ?_
  intro W base args ds gs before hval0 hW hcnd _
  have hval : ∀ (j : Nat) t v, Try.f4.params[j]? = some t → args[j]? = some v → Value.okWide Try.prog W .any base t v := hval0
  have hW' := hW
  obtain ⟨p, q, hA0, hV, rfl, hfz, hnd⟩ := hW
  have hA : DataW.TrodAll enc Try.prog W 0 (fun _ => true) true Try.f4.params.toList args.toList ds p := hA0
  rw [Try.params4] at hA hval
  obtain ⟨v0, d0, rfl, rfl, h0⟩ := trodAll_one hA
  obtain ⟨rfl, rfl⟩ := trodVars_none hV
  clear hA0 hval0
  simp only [List.append_nil] at hW'
  have l0 : ∀ x ∈ p, x.block < W.heap.size := fun x hx => hW'.lt x (by simp [hx])
  obtain ⟨P, X, K, A, B, C, ca, cb, cc, xa, xb, xc, hI⟩ := open_ask (hval 0 31 v0 rfl rfl) h0 l0
  refine (walk W v0 P X K A B C ca cb cc xa xb xc hI).mono fun e W' ⟨he, hb⟩ => ?_
  subst he
  exact ⟨_, rfl, post_of_below (pa := p) (pv := []) hW' (fun _ _ _ => (trodAll_cons_mk (shut_bool Try.underlying4 _) trodAll_mk0)) (fun sp hsp => trodAll_mk1 (staysAsk h0 hb l0 sp (fun x hx => hsp x (by simp [hx])))) (fun _ _ => rfl) (by simp)
    hb (ok_one (by kernel_rfl) rfl (okWide_bool_mk Try.underlying4 _))⟩

theorem over : Rows.polyArithmeticRow.holds Try.pinned (OpenSpec.ofChange Rows.polyArithmeticSpec) :=
  OpenClaim.holds_of_wide 4 Try.f4 rfl rfl rfl rfl rfl rfl rfl ⟨rfl, rfl, rfl, rfl, rfl⟩ rfl rfl rfl rfl rfl (by kernel_rfl) Try.func4 (by kernel_rfl)
    (of_decide_eq_true (by kernel_rfl)) (by unfold Func.isWrapper; first | (rw [if_pos (by decide +kernel)]; kernel_rfl) | (rw [if_neg (by decide +kernel)]; exact ⟨rfl, rfl⟩))
    (fun os started H enc _ => lifted os started H enc)

theorem proved : Rows.PolyArithmeticSaid := over
end Go.Proofs.Ytcnmiodgdnohfaa.polyArithmetic
