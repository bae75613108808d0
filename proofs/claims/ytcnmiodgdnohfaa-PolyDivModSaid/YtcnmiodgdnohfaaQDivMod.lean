/- PolyDivMod: for every supported prime and polynomials, DivMod of package poly answers as the reference does, and the examples of the document hold. No conditions. -/
import Derived.Test.YtcnmiodgdnohfaaPMore
namespace Go.Proofs.Ytcnmiodgdnohfaa.polyDivMod
open Go.ChangeShapes Go.WideShapes Go.ChangeAt Go.RowKit Go.Joins PolyMath FieldMath

set_option maxRecDepth 100000 in
set_option maxHeartbeats 4000000 in
theorem walk : AskWalk 5 := by
  intro w v P X K A B C ca cb cc xa xb xc hI
  obtain ⟨rfl, hP, hX, hK, wa, wb, wc, sa, sb, sc⟩ := hI
  have hp := fitP_ok P
  have hfit := fun W (h1 : Sl W A ca xa) (h2 : Sl W B cb xb) (h3 : Sl W C cc xc) => fit_row P X K A B C ca cb cc xa xb xc hP.1 hP.2 wa wb wc W h1 h2 h3
  generalize fitP P = p at hp hfit
  have hbd := hp.bd
  have la := wds_len p xa
  have lb := wds_len p xb
  have lc := wds_len p xc
  have ea := wds_el (p := p) (by omega) xa
  have eb := wds_el (p := p) (by omega) xb
  have ec := wds_el (p := p) (by omega) xc
  have hcs : tn (wds p xb) = 0 ∨ ∃ d, tn (wds p xb) = d + 1 := by
    cases tn (wds p xb) with
    | zero => exact .inl rfl
    | succ d => exact .inr ⟨d, rfl⟩
  rcases hcs with h0 | ⟨d, hd⟩
  · have hh := Lib.hid h0
    clear h0
    go_enter Try.func5, Try.ntmps5
    go_wp2_with fail
    refine (hfit _ (sa.push _) (sb.push _) (sc.push _)).mono ?_
    rintro e w1 ⟨A1, c1, A2, c2, A3, c3, rfl, s1, s2, s3, hb⟩
    have hB : Below w.heap.size w w1 := ((Below.refl _ _).alloc (Nat.le_refl _) _).trans (hb.mono (by simp))
    clear hb hfit sa sb sc wa wb wc
    generalize wds p xa = a at *
    generalize wds p xb = b at *
    generalize wds p xc = c at *
    clear s3 ec lc
    go_wp2_with fail
    refine (div_zero p hp _ _ _ _ a b (by omega) _ s2 hh.out).mono ?_; rintro e w2 ⟨rfl, hb⟩
    replace s1 := s1.next hb
    replace s2 := s2.next hb
    replace hB := hB.trans (hb.mono hB.size)
    clear hb
    go_wp2_with fail
    refine (rDiv_zero p _ _ _ _ a b (by omega) _ s2 hh.out).mono ?_; rintro e w3 ⟨rfl, hb⟩
    replace s1 := s1.next hb
    replace s2 := s2.next hb
    replace hB := hB.trans (hb.mono hB.size)
    clear hb
    go_wp2_with fail
    refine (awake_any _).mono ?_; rintro e w4 ⟨rfl, hb⟩
    replace s1 := s1.next hb
    replace s2 := s2.next hb
    replace hB := hB.trans (hb.mono hB.size)
    clear hb
    go_wp2_with fail
    refine (equal_is _ _ ([]) ([]) _ _ _ (Sl.nothing _) (Sl.nothing _) (by decide) (rfl)).mono ?_; rintro e w5 ⟨rfl, hb⟩
    replace s1 := s1.next hb
    replace s2 := s2.next hb
    replace hB := hB.trans (hb.mono hB.size)
    clear hb
    go_wp2_with fail
    refine (equal_is _ _ ([]) ([]) _ _ _ (Sl.nothing _) (Sl.nothing _) (by decide) (rfl)).mono ?_; rintro e w6 ⟨rfl, hb⟩
    replace s1 := s1.next hb
    replace s2 := s2.next hb
    replace hB := hB.trans (hb.mono hB.size)
    clear hb
    go_wp2_with fail
    go_ret
    exact ⟨rfl, hB⟩

  · have hd := Lib.hid hd
    go_enter Try.func5, Try.ntmps5
    go_wp2_with fail
    refine (hfit _ (sa.push _) (sb.push _) (sc.push _)).mono ?_
    rintro e w1 ⟨A1, c1, A2, c2, A3, c3, rfl, s1, s2, s3, hb⟩
    have hB : Below w.heap.size w w1 := ((Below.refl _ _).alloc (Nat.le_refl _) _).trans (hb.mono (by simp))
    clear hb hfit sa sb sc wa wb wc
    generalize wds p xa = a at *
    generalize wds p xb = b at *
    generalize wds p xc = c at *
    clear s3 ec lc
    go_wp2_with fail
    refine (div_row p hp _ _ _ _ d a b ea eb (by omega) (by omega) _ s1 s2 hd.out).mono ?_; rintro e w2 ⟨q, r, A4, c4, A5, c5, rfl, s4, s5, hD1, hq1, hb⟩
    replace s1 := s1.next hb
    replace s2 := s2.next hb
    replace hB := hB.trans (hb.mono hB.size)
    clear hb
    have hD1 := Lib.hid hD1
    go_wp2_with fail
    refine (rDiv_row p hp _ _ _ _ d a b ea eb (by omega) (by omega) _ s1 s2 hd.out).mono ?_; rintro e w3 ⟨q2, r2, A6, c6, A7, c7, rfl, s6, s7, hD2, hq2, hb⟩
    replace s1 := s1.next hb
    replace s2 := s2.next hb
    replace s4 := s4.next hb
    replace s5 := s5.next hb
    replace hB := hB.trans (hb.mono hB.size)
    clear hb
    obtain ⟨rfl, rfl⟩ := hD1.out.unique hp.good eb hD2
    have hr := hD2.lt
    have hbl := tn_le b
    clear hD2 hD1
    go_wp2_with fail
    refine (awake_any _).mono ?_; rintro e w4 ⟨rfl, hb⟩
    replace s1 := s1.next hb
    replace s2 := s2.next hb
    replace s4 := s4.next hb
    replace s5 := s5.next hb
    replace s6 := s6.next hb
    replace s7 := s7.next hb
    replace hB := hB.trans (hb.mono hB.size)
    clear hb
    go_wp2_with fail
    refine (equal_is _ _ (q) (q) _ _ _ s4 s6 (by omega) (rfl)).mono ?_; rintro e w5 ⟨rfl, hb⟩
    replace s1 := s1.next hb
    replace s2 := s2.next hb
    replace s4 := s4.next hb
    replace s5 := s5.next hb
    replace s6 := s6.next hb
    replace s7 := s7.next hb
    replace hB := hB.trans (hb.mono hB.size)
    clear hb
    go_wp2_with fail
    refine (equal_is _ _ (r) (r) _ _ _ s5 s7 (by omega) (rfl)).mono ?_; rintro e w6 ⟨rfl, hb⟩
    replace s1 := s1.next hb
    replace s2 := s2.next hb
    replace s4 := s4.next hb
    replace s5 := s5.next hb
    replace s6 := s6.next hb
    replace s7 := s7.next hb
    replace hB := hB.trans (hb.mono hB.size)
    clear hb
    go_wp2_with fail
    go_ret
    exact ⟨rfl, hB⟩

set_option maxRecDepth 100000 in
theorem lifted (os : Os) (started : os.Started) (H : Type) (enc : TypeId × Value → H) :
    ReturnsInHanded {} Try.checked os 5 .any (Rows.polyDivModSpec.pre6 enc Try.prog Try.f5 Rows.polyDivModRow.domain false) (Rows.polyDivModSpec.post enc Try.prog Try.f5 false true false false) := by
  refine returnsInHanded_of_change (C := Try.checked) own started (by kernel_rfl) Try.func5
    (ChangeSpec.witness6 (enc := enc) (C := Try.checked) false ⟨#[], #[.agg #[.int .u64 0, .slice none 0 0, .slice none 0 0, .slice none 0 0, .int .u64 0, .int .u64 0]], []⟩ 8 (by kernel_rfl) (by kernel_rfl) (by kernel_rfl) (by kernel_rfl)) ?_
  intro W base args ds gs before hval0 hW hcnd _
  have hval : ∀ (j : Nat) t v, Try.f5.params[j]? = some t → args[j]? = some v → Value.okWide Try.prog W .any base t v := hval0
  have hW' := hW
  obtain ⟨p, q, hA0, hV, rfl, hfz, hnd⟩ := hW
  have hA : DataW.TrodAll enc Try.prog W 0 (fun _ => true) true Try.f5.params.toList args.toList ds p := hA0
  rw [Try.params5] at hA hval
  obtain ⟨v0, d0, rfl, rfl, h0⟩ := trodAll_one hA
  obtain ⟨rfl, rfl⟩ := trodVars_none hV
  clear hA0 hval0
  simp only [List.append_nil] at hW'
  have l0 : ∀ x ∈ p, x.block < W.heap.size := fun x hx => hW'.lt x (by simp [hx])
  obtain ⟨P, X, K, A, B, C, ca, cb, cc, xa, xb, xc, hI⟩ := open_ask (hval 0 31 v0 rfl rfl) h0 l0
  refine (walk W v0 P X K A B C ca cb cc xa xb xc hI).mono fun e W' ⟨he, hb⟩ => ?_
  subst he
  exact ⟨_, rfl, post_of_below (pa := p) (pv := []) hW' (fun _ _ _ => (trodAll_cons_mk (shut_bool Try.underlying4 _) trodAll_mk0)) (fun sp hsp => trodAll_mk1 (staysAsk h0 hb l0 sp (fun x hx => hsp x (by simp [hx])))) (fun _ _ => rfl) (by simp)
    hb (ok_one (by kernel_rfl) rfl (okWide_bool_mk Try.underlying4 _))⟩

theorem over : Rows.polyDivModRow.holds Try.pinned (OpenSpec.ofChange Rows.polyDivModSpec) :=
  OpenClaim.holds_of_wide 5 Try.f5 rfl rfl rfl rfl rfl rfl rfl ⟨rfl, rfl, rfl, rfl, rfl⟩ rfl rfl rfl rfl rfl (by kernel_rfl) Try.func5 (by kernel_rfl)
    (of_decide_eq_true (by kernel_rfl)) (by unfold Func.isWrapper; first | (rw [if_pos (by decide +kernel)]; kernel_rfl) | (rw [if_neg (by decide +kernel)]; exact ⟨rfl, rfl⟩))
    (fun os started H enc _ => lifted os started H enc)

theorem proved : Rows.PolyDivModSaid := over
end Go.Proofs.Ytcnmiodgdnohfaa.polyDivMod
