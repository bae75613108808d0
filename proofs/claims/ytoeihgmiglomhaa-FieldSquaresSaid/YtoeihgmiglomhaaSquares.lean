/- FieldSquares: for every supported prime and every nonzero element a, exactly one of a and -a is a square, and the root of the square of a is the lesser of a and -a; the root of 0 is 0; and the examples of the document hold. No conditions. -/
import Derived.Test.YtoeihgmiglomhaaRef01
import Derived.Test.YtoeihgmiglomhaaFrame
import Derived.Deep.QuietTactic
import Derived.BigQuiet
namespace Go.Proofs.Ytoeihgmiglomhaa.fieldSquares
open Go.ChangeShapes Go.WideShapes Go.ChangeAt Go.RowKit Go.Lib Go.Joins FieldMath

theorem cellsAsk : Try.prog.cellsOf 27 = 4 := by kernel_rfl

set_option maxRecDepth 100000 in
set_option maxHeartbeats 4000000 in
theorem walk (P A B C : Int) (hP0 : 0 ≤ P) (hP : P ≤ 18446744073709551615) (hA0 : 0 ≤ A) (_hA : A ≤ 18446744073709551615) (hB0 : 0 ≤ B) (_hB : B ≤ 18446744073709551615) (hC0 : 0 ≤ C) (_hC : C ≤ 18446744073709551615) (w : World) :
    Calls Try.prog 8 #[.agg #[.int .u64 P, .int .u64 A, .int .u64 B, .int .u64 C]] w fun e w' => e = .returned (.bool true) ∧ Below w.heap.size w w' := by
  obtain ⟨p, HP⟩ : ∃ p, Hid (fitP P = p) := ⟨_, rfl⟩
  obtain ⟨a, HA⟩ : ∃ a, Hid (A % p = a) := ⟨_, rfl⟩
  obtain ⟨b, HB⟩ : ∃ b, Hid (B % p = b) := ⟨_, rfl⟩
  obtain ⟨c, HC⟩ : ∃ c, Hid (C % p = c) := ⟨_, rfl⟩
  have hp : OkP p := by rw [← HP.out]; exact fitP_ok P
  have hbd := hp.bd
  have ha : 0 ≤ a ∧ a < p := by rw [← HA.out]; exact md A p (by omega)
  have hb : 0 ≤ b ∧ b < p := by rw [← HB.out]; exact md B p (by omega)
  have hc : 0 ≤ c ∧ c < p := by rw [← HC.out]; exact md C p (by omega)
  by_cases hz : a = 0
  · have hz1 : (a == 0) = true := beq_iff_eq.2 hz
    have hs0 := hp.good.sqrt_zero
    have h0 := sqrt_yes p 0 hp (by omega) (by omega) hs0.1
    rw [hs0.2] at h0
    have HS := Lib.hid h0
    clear hz hs0 h0
    go_enter Try.func8, Try.ntmps8
    go_wp2_with fail
    refine (fit_at P A B C p a b c hP0 hP hA0 hB0 hC0 HP.out HA.out HB.out HC.out _).mono ?_
    rintro e w1 ⟨rfl, hb0⟩
    have hq : Below w.heap.size w w1 := ((Below.refl _ _).alloc (Nat.le_refl _) _).trans (hb0.mono (by simp))
    clear hb0
    go_wp2_with (first | (go_at_call 28; refine (HS.out _).mono ?_; rintro e w' ⟨rfl, rfl⟩) | (go_at_call 10; refine (awake_any _).mono ?_; rintro e w' ⟨rfl, rfl⟩))
    go_ret
    exact ⟨rfl, hq⟩
  · have hz1 : (a == 0) = false := beq_eq_false_iff_ne.2 hz
    have hapos : 0 < a := by omega
    have hn := fneg_bd p a (by omega)
    have hm := fmul_bd p a a (by omega)
    have hsq := hp.good.sqrt_of_square hapos ha.2
    have h3 := sqrt_yes p (fmul p a a) hp hm.1 hm.2 hsq.1
    have hneg := hp.good.neg_ok hapos ha.2
    have hmin : ∃ r, fsqrt p (fmul p a a) = r ∧ r = min a (p - a) := ⟨_, rfl, hsq.2⟩
    obtain ⟨r, hr1, hr2⟩ := hmin
    rw [hr1] at h3
    have H3 := Lib.hid h3
    have HR := Lib.hid hr2
    clear hz hsq h3 hr1 hr2
    have hcase : (p - a < a ∧ p - a = r) ∨ (¬ p - a < a ∧ a = r) := by have := HR.out; omega
    clear HR
    cases hok : fsqOk p a
    · rw [hok] at hneg
      have H1 := Lib.hid (sqrt_no p a hp ha.1 ha.2 hok)
      have H2 := Lib.hid (sqrt_yes p (fneg p a) hp hn.1 hn.2 hneg)
      clear hok hneg
      rcases hcase with ⟨hlt, rfl⟩ | ⟨hlt, rfl⟩
      all_goals
        go_enter Try.func8, Try.ntmps8
        go_wp2_with fail
        refine (fit_at P A B C p a b c hP0 hP hA0 hB0 hC0 HP.out HA.out HB.out HC.out _).mono ?_
        rintro e w1 ⟨rfl, hb0⟩
        have hq : Below w.heap.size w w1 := ((Below.refl _ _).alloc (Nat.le_refl _) _).trans (hb0.mono (by simp))
        clear hb0
        go_wp2_with fail
        refine (H1.out _).mono ?_
        rintro e w' ⟨rfl, rfl⟩
        go_wp2_with fail
        refine (neg_any _ _ hp (by omega) (by omega) _).mono ?_
        rintro e w' ⟨rfl, rfl⟩
        go_wp2_with fail
        refine (H2.out _).mono ?_
        rintro e w' ⟨rfl, rfl⟩
        go_wp2_with fail
        refine (mul_any _ _ _ hp (by omega) (by omega) (by omega) (by omega) _).mono ?_
        rintro e w' ⟨rfl, rfl⟩
        go_wp2_with fail
        refine (H3.out _).mono ?_
        rintro e w' ⟨rfl, rfl⟩
        go_wp2_with fail
        refine (awake_any _).mono ?_
        rintro e w' ⟨rfl, rfl⟩
        go_wp2_with fail
        go_ret
        exact ⟨rfl, hq⟩
    · rw [hok] at hneg
      have H1 := Lib.hid (sqrt_yes p a hp ha.1 ha.2 hok)
      have H2 := Lib.hid (sqrt_no p (fneg p a) hp hn.1 hn.2 hneg)
      clear hok hneg
      rcases hcase with ⟨hlt, rfl⟩ | ⟨hlt, rfl⟩
      all_goals
        go_enter Try.func8, Try.ntmps8
        go_wp2_with fail
        refine (fit_at P A B C p a b c hP0 hP hA0 hB0 hC0 HP.out HA.out HB.out HC.out _).mono ?_
        rintro e w1 ⟨rfl, hb0⟩
        have hq : Below w.heap.size w w1 := ((Below.refl _ _).alloc (Nat.le_refl _) _).trans (hb0.mono (by simp))
        clear hb0
        go_wp2_with fail
        refine (H1.out _).mono ?_
        rintro e w' ⟨rfl, rfl⟩
        go_wp2_with fail
        refine (neg_any _ _ hp (by omega) (by omega) _).mono ?_
        rintro e w' ⟨rfl, rfl⟩
        go_wp2_with fail
        refine (H2.out _).mono ?_
        rintro e w' ⟨rfl, rfl⟩
        go_wp2_with fail
        refine (mul_any _ _ _ hp (by omega) (by omega) (by omega) (by omega) _).mono ?_
        rintro e w' ⟨rfl, rfl⟩
        go_wp2_with fail
        refine (H3.out _).mono ?_
        rintro e w' ⟨rfl, rfl⟩
        go_wp2_with fail
        refine (awake_any _).mono ?_
        rintro e w' ⟨rfl, rfl⟩
        go_wp2_with fail
        go_ret
        exact ⟨rfl, hq⟩

set_option maxRecDepth 100000 in
theorem lifted (os : Os) (started : os.Started) (H : Type) (enc : TypeId × Value → H) :
    ReturnsInHanded {} Try.checked os 8 .any (Rows.fieldSquaresSpec.pre6 enc Try.prog Try.f8 Rows.fieldSquaresRow.domain false) (Rows.fieldSquaresSpec.post enc Try.prog Try.f8 false true false false) := by
  refine returnsInHanded_of_change (C := Try.checked) own started (by kernel_rfl) Try.func8
    (ChangeSpec.witness6 (enc := enc) (C := Try.checked) false ⟨#[], #[.agg #[.int .u64 0, .int .u64 0, .int .u64 0, .int .u64 0]], []⟩ 8 (by kernel_rfl) (by kernel_rfl) (by kernel_rfl) (by kernel_rfl)) ?_
  intro W base args ds gs before hval0 hW hcnd _
  have hval : ∀ (j : Nat) t v, Try.f8.params[j]? = some t → args[j]? = some v → Value.okWide Try.prog W .any base t v := hval0
  have hW' := hW
  obtain ⟨p, q, hA0, hV, rfl, hfz, hnd⟩ := hW
  have hA : DataW.TrodAll enc Try.prog W 0 (fun _ => true) true Try.f8.params.toList args.toList ds p := hA0
  rw [Try.params8] at hA hval
  obtain ⟨v0, d0, rfl, rfl, h0⟩ := trodAll_one hA
  obtain ⟨rfl, rfl⟩ := trodVars_none hV
  obtain ⟨c0, c1, c2, c3, y0, y1, y2, y3, m, rfl, rfl, rfl, hy0, hy1, hy2, hy3⟩ := open_agg4 Try.underlying27 (by kernel_rfl) cellsAsk (hval 0 27 v0 rfl rfl) h0
  obtain ⟨a0, e0, rfl, w0⟩ := DataW.trod_int Try.underlying22 hy0
  obtain ⟨a1, e1, rfl, w1⟩ := DataW.trod_int Try.underlying22 hy1
  obtain ⟨a2, e2, rfl, w2⟩ := DataW.trod_int Try.underlying22 hy2
  obtain ⟨a3, e3, rfl, w3⟩ := DataW.trod_int Try.underlying22 hy3
  simp at e0 e1 e2 e3
  subst e0 e1 e2 e3
  clear hA0 hval0
  simp only [List.append_nil] at hW'
  have structReads : ∀ (W' : World) (sp : Nat → Bool), DataW.Trod enc Try.prog W' 0 sp true 27 (.agg #[.int .u64 a0, .int .u64 a1, .int .u64 a2, .int .u64 a3]) (.agg [.lit (.int .u64 a0), .lit (.int .u64 a1), .lit (.int .u64 a2), .lit (.int .u64 a3)]) [] := fun W' sp =>
    shut_agg4 (y0 := (.lit (.int .u64 a0), [])) (y1 := (.lit (.int .u64 a1), [])) (y2 := (.lit (.int .u64 a2), [])) (y3 := (.lit (.int .u64 a3), [])) Try.underlying27 (by kernel_rfl) cellsAsk ⟨1, by simp [DataW.trod, Try.underlying22, w0]⟩ ⟨1, by simp [DataW.trod, Try.underlying22, w1]⟩ ⟨1, by simp [DataW.trod, Try.underlying22, w2]⟩ ⟨1, by simp [DataW.trod, Try.underlying22, w3]⟩
  have k0 := bounds_u64 w0
  have k1 := bounds_u64 w1
  have k2 := bounds_u64 w2
  have k3 := bounds_u64 w3
  refine (walk a0 a1 a2 a3 k0.1 k0.2 k1.1 k1.2 k2.1 k2.2 k3.1 k3.2 W).mono fun e W' ⟨he, hb⟩ => ?_
  subst he
  exact ⟨_, rfl, post_of_below (pa := []) (pv := []) hW' (fun _ _ _ => trodAll_mk1 (shut_bool Try.underlying4 _)) (fun sp _ => trodAll_mk1 (structReads _ sp)) (fun _ _ => rfl) rfl
    hb (ok_one (by kernel_rfl) rfl (okWide_bool_mk Try.underlying4 _))⟩

theorem over : Rows.fieldSquaresRow.holds Try.pinned (OpenSpec.ofChange Rows.fieldSquaresSpec) :=
  OpenClaim.holds_of_wide 8 Try.f8 rfl rfl rfl rfl rfl rfl rfl ⟨rfl, rfl, rfl, rfl, rfl⟩ rfl rfl rfl rfl rfl (by kernel_rfl) Try.func8 (by kernel_rfl)
    (of_decide_eq_true (by kernel_rfl)) (by unfold Func.isWrapper; first | (rw [if_pos (by decide +kernel)]; kernel_rfl) | (rw [if_neg (by decide +kernel)]; exact ⟨rfl, rfl⟩))
    (fun os started H enc _ => lifted os started H enc)

theorem proved : Rows.FieldSquaresSaid := over
end Go.Proofs.Ytoeihgmiglomhaa.fieldSquares
