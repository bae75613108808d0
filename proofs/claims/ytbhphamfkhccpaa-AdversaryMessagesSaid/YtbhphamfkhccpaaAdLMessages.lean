/- ApplyToMessages answers as the reference. No conditions. -/
import Derived.Test.YtbhphamfkhccpaaAdLaw
import Derived.Test.YtbhphamfkhccpaaAdOpn
import Derived.Test.YtbhphamfkhccpaaFrame
namespace Go.Proofs.Ytbhphamfkhccpaa.adversaryMessages
set_option maxRecDepth 100000
open Go.ChangeShapes Go.WideShapes Go.ChangeAt Go.RowKit PolyMath FieldMath PartyMath

set_option maxHeartbeats 8000000 in
theorem walk (P N T : Int) (Ac Ad At : Option Addr) (cc cd ct : Nat) (co : List Int) (ds : List Dv) (ts : List (List Int)) (r : Int) (Am : Option Addr) (cm : Nat) (M : List (List (List Int))) (Aa : Option Addr) (ca : Nat) (all : List (List Int)) (wP : Wd P) (_wr : Wi r) (hF : FitA N T co ds ts M all) (hk : ∀ d ∈ ds, Wd d.k) (hw : (∀ R ∈ M, ∀ l ∈ R, Words l) ∧ ∀ l ∈ all, Words l) (w : World) (hL : LieA w Ac Ad At cc cd ct co ds ts Am cm M Aa ca all) :
    Calls Try.prog 3 #[.agg #[.int .u64 P, .int .i64 N, .int .i64 T, .slice Ac co.length cc, .slice Ad ds.length cd, .slice At ts.length ct, .int .i64 r, .slice Am M.length cm, .slice Aa all.length ca]] w fun e w' => e = .returned (.bool true) ∧ Below w.heap.size w w' := by
  have hX1 := Lib.hid (Ax.made w P N T (.slice Ac co.length cc) (.slice Ad ds.length cd) (.slice At ts.length ct) r (.slice Am M.length cm) (.slice Aa all.length ca))
  have hB1 := Lib.hid ((Below.refl _ w).alloc (Nat.le_refl _) (.cells #[.int .u64 P, .int .i64 N, .int .i64 T, .slice Ac co.length cc, .slice Ad ds.length cd, .slice At ts.length ct, .int .i64 r, .slice Am M.length cm, .slice Aa all.length ca] 32))
  have hL1 := hL.next hB1.out
  have hmay := fun W hW => may_any P N T wP Ac Ad At cc cd ct co ds ts r Am cm M Aa ca all hF W hW
  cases hq : mayB P N T co ds ts M all with
  | false =>
    rw [hq] at hmay
    go_enter Try.func3, Try.ntmps3
    go_wp2_with fail
    refine (hmay _ hL1).mono ?_; rintro e w1 ⟨rfl, hb⟩
    go_wp2_with fail
    refine (awake_any _).mono ?_; rintro e w2 ⟨rfl, hb2⟩
    go_wp2_with fail
    go_ret
    exact ⟨rfl, hB1.out.trans ((hb.trans (hb2.mono hb.size)).mono hB1.out.size)⟩
  | true =>
    rw [hq] at hmay
    obtain ⟨N, T, rfl, rfl, hO, hmN, hrN, haN, hf2, hf1, h30⟩ := may_good hq hk hw
    have hN13 := hO.coal.n13
    have hN4 := hO.coal.n4
    have hp := hO.coal.ok
    have hpb := hp.bd
    have hp0 : 0 < P := by omega
    rw [hmN, haN] at hX1 hB1 hL1 hmay ⊢
    have HmN := Lib.hid hmN
    have HrN := Lib.hid hrN
    have HaN := Lib.hid haN
    have HOK := Lib.hid hO
    clear hF hk hw hq hmN hrN haN hL
    have g1 := fun W h1 h2 h3 => ms_any P N T Ac Ad cc cd co ds (.slice At ts.length ct) r hO Am cm (rAt2 M) hf2 W h1 h2 h3
    have g2 := fun W h1 h2 h3 => rMs_any P N T Ac Ad cc cd co ds (.slice At ts.length ct) r hO Am cm (rAt2 M) hf2 W h1 h2 h3
    have g3 := fun A A' c c' W h1 h2 => sameAll_yes A A' c c' N (msF P co N r ds (rAt2 M)) (msF P co N r ds (rAt2 M)) hN13 (fun _ _ _ _ => rfl) (fun i j _ _ => ms_short hp0 hf2 i j) W h1 h2
    unfold sv at g1 g2
    go_enter Try.func3, Try.ntmps3
    go_wp2_with fail
    refine (hmay _ hL1).mono ?_; rintro e w1 ⟨rfl, hb⟩
    have hX2 := Lib.hid (hX1.out.next hb)
    have hB2 := Lib.hid (hB1.out.trans (hb.mono hB1.out.size))
    have hL2 := hL1.next hb
    have hc2 := hL2.sc.co
    have hd2 := hL2.sc.ds
    have hm2 := hL2.ms.s2 HmN.out HrN.out
    have ha2 := Sf.of_sll hL2.al HaN.out
    clear hb hX1 hB1 hL1 hL2 hmay
    obtain ⟨c0, c1, c2, c3, c4, c5, c6, c7, c8, hlt⟩ := id hX2.out
    have hXN := hX2
    clear hX2 hO
    generalize msF P co N r ds (rAt2 M) = FF at *
    go_wp2
    go_region_held3 (fun w' => w'.cell? ⟨w.heap.size, 0, none⟩ = some (.int .u64 P) ∧ w'.cell? ⟨w.heap.size, 1, none⟩ = some (.int .i64 N) ∧ w'.cell? ⟨w.heap.size, 2, none⟩ = some (.int .i64 T) ∧ w'.cell? ⟨w.heap.size, 3, none⟩ = some (.slice Ac co.length cc) ∧ w'.cell? ⟨w.heap.size, 4, none⟩ = some (.slice Ad ds.length cd) ∧ w'.cell? ⟨w.heap.size, 5, none⟩ = some (.slice At ts.length ct) ∧ w'.cell? ⟨w.heap.size, 6, none⟩ = some (.int .i64 r) ∧ w'.cell? ⟨w.heap.size, 7, none⟩ = some (.slice Am N cm) ∧ w'.cell? ⟨w.heap.size, 8, none⟩ = some (.slice Aa N ca))
      (refine ⟨?_, ?_, ?_, ?_, ?_, ?_, ?_, ?_, ?_⟩ <;> first | assumption | go_simp)
      (first
        | (go_at_call 11; refine (awake_any _).mono ?_; rintro e w3 ⟨rfl, hb3⟩; obtain ⟨p0, p1, p2, p3, p4, p5, p6, p7, p8, _⟩ := hXN.out.next ((Below.refl _ _).drew.trans hb3); have q3 := Lib.hid ((Below.refl w1.heap.size w1).drew.trans hb3); clear hb3)
        | (go_at_call 13; with_reducible refine (g1 _ (hc2.next q3.out) (hd2.next q3.out) (hm2.next q3.out)).mono ?_; rintro e w4 ⟨A4, k4, rfl, s4, hb4⟩; have q4 := Lib.hid (q3.out.trans (hb4.mono q3.out.size)); obtain ⟨r0, r1, r2, r3, r4, r5, r6, r7, r8, _⟩ := hXN.out.next q4.out; clear hb4)
        | (go_at_call 14; with_reducible refine (g2 _ (hc2.next q4.out) (hd2.next q4.out) (hm2.next q4.out)).mono ?_; rintro e w5 ⟨A5, k5, rfl, s5, hb5⟩; have q5 := Lib.hid (q4.out.trans (hb5.mono q4.out.size)); have s45 := s4.next hb5; obtain ⟨t0, t1, t2, t3, t4, t5, t6, t7, t8, _⟩ := hXN.out.next q5.out; clear hb5)
        | (go_at_call 12; with_reducible refine (g3 _ _ _ _ _ s45 s5).mono ?_; rintro e w6 ⟨rfl, hb6⟩; have q6 := Lib.hid (q5.out.trans (hb6.mono q5.out.size)); obtain ⟨u0, u1, u2, u3, u4, u5, u6, u7, u8, _⟩ := hXN.out.next q6.out; clear hb6))
    go_wp2
    go_ret
    exact ⟨rfl, hB2.out.trans (q6.out.mono hB2.out.size)⟩

theorem lifted (os : Os) (started : os.Started) (H : Type) (enc : TypeId × Value → H) :
    ReturnsInHanded {} Try.checked os 3 .any (Rows.adversaryMessagesSpec.pre6 enc Try.prog Try.f3 Rows.adversaryMessagesRow.domain false) (Rows.adversaryMessagesSpec.post enc Try.prog Try.f3 false true false false) := by
  refine returnsInHanded_of_change (C := Try.checked) own started (by kernel_rfl) Try.func3
    (ChangeSpec.witness6 (enc := enc) (C := Try.checked) false ⟨#[], #[.agg #[.int .u64 0, .int .i64 0, .int .i64 0, .slice none 0 0, .slice none 0 0, .slice none 0 0, .int .i64 0, .slice none 0 0, .slice none 0 0]], []⟩ 8 (by kernel_rfl) (by kernel_rfl) (by kernel_rfl) (by kernel_rfl)) ?_
  intro W base args ds gs before hval0 hW hcnd _
  have hval : ∀ (j : Nat) t v, Try.f3.params[j]? = some t → args[j]? = some v → Value.okWide Try.prog W .any base t v := hval0
  have hW' := hW
  obtain ⟨p, q, hA0, hV, rfl, hfz, hnd⟩ := hW
  have hA : DataW.TrodAll enc Try.prog W 0 (fun _ => true) true Try.f3.params.toList args.toList ds p := hA0
  rw [Try.params3] at hA hval
  obtain ⟨v0, d0, rfl, rfl, t0⟩ := trodAll_one hA
  obtain ⟨rfl, rfl⟩ := trodVars_none hV
  clear hA0 hval0
  simp only [List.append_nil] at hW'
  have l0 : ∀ x ∈ p, x.block < W.heap.size := fun x hx => hW'.lt x (by simp [hx])
  obtain ⟨P0, N0, T0, Ac0, Ad0, At0, cc0, cd0, ct0, co0, ds0, ts0, rd0, Am0, cm0, M0, Aa0, ca0, all0, rfl, b0, e0, f0, g0, h0, r0⟩ := arg_ask13 (hval 0 32 v0 rfl rfl) t0 l0
  refine (walk P0 N0 T0 Ac0 Ad0 At0 cc0 cd0 ct0 co0 ds0 ts0 rd0 Am0 cm0 M0 Aa0 ca0 all0 b0 e0 f0 g0 h0 W r0).mono fun e W' ⟨he, hb⟩ => ?_
  subst he
  exact ⟨_, rfl, post_of_below (pa := p) (pv := []) hW' (fun _ _ _ => (trodAll_cons_mk (shut_bool Try.underlying4 _) trodAll_mk0)) (fun sp hsp => trodAll_mk1 (stay_ask13 t0 hb l0 sp (fun x hx => hsp x (by simp [hx])))) (fun _ _ => rfl) (by simp)
    hb (ok_one (by kernel_rfl) rfl (okWide_bool_mk Try.underlying4 _))⟩

theorem over : Rows.adversaryMessagesRow.holds Try.pinned (OpenSpec.ofChange Rows.adversaryMessagesSpec) :=
  OpenClaim.holds_of_wide 3 Try.f3 rfl rfl rfl rfl rfl rfl rfl ⟨rfl, rfl, rfl, rfl, rfl⟩ rfl rfl rfl rfl rfl (by kernel_rfl) Try.func3 (by kernel_rfl)
    (of_decide_eq_true (by kernel_rfl)) (by unfold Func.isWrapper; first | (rw [if_pos (by decide +kernel)]; kernel_rfl) | (rw [if_neg (by decide +kernel)]; exact ⟨rfl, rfl⟩))
    (fun os started H enc _ => lifted os started H enc)

theorem proved : Rows.AdversaryMessagesSaid := over
end Go.Proofs.Ytbhphamfkhccpaa.adversaryMessages
