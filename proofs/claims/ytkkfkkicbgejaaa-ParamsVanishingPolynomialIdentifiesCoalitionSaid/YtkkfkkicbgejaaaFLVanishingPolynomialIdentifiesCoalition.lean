/- Two coalitions have one vanishing polynomial just if they extend to one coalition. No conditions. -/
import Derived.Test.YtkkfkkicbgejaaaFLaw
import Derived.Test.YtkkfkkicbgejaaaFOpn
import Derived.Test.YtkkfkkicbgejaaaFrame
namespace Go.Proofs.Ytkkfkkicbgejaaa.paramsVanishingPolynomialIdentifiesCoalition
set_option maxRecDepth 100000
open Go.ChangeShapes Go.WideShapes Go.ChangeAt Go.RowKit PolyMath FieldMath PartyMath

set_option maxHeartbeats 4000000 in
theorem walk (Ps Ns Ts : Int) (Aa : Option Addr) (ca : Nat) (a : List Int) (Ab : Option Addr) (cb : Nat) (b : List Int) (wPs : Wd Ps) (wNs : Wi Ns) (wTs : Wi Ts) (wa : Nums a) (wb : Nums b) (w : World) (sa : Si w Aa ca a) (sb : Si w Ab cb b) :
    Calls Try.prog 7 #[.agg #[.int .u64 Ps, .int .i64 Ns, .int .i64 Ts], .slice Aa a.length ca, .slice Ab b.length cb] w fun e w' => e = .returned (.bool true) ∧ Below w.heap.size w w' := by
  cases hv : vC Ps Ns Ts a with
  | false =>
    have hX1 := Lib.hid (Bx.made w Ps Ns Ts)
    have hB1 := Lib.hid ((Below.refl _ w).alloc (Nat.le_refl _) (.cells #[.int .u64 Ps, .int .i64 Ns, .int .i64 Ts] 24))
    have s1a := sa.next hB1.out
    go_enter Try.func7, Try.ntmps7
    go_wp2_with fail
    refine (awake_any _).mono ?_; rintro e w1 ⟨rfl, hb⟩
    have hX2 := hX1.out.next hb
    have hB2 := Lib.hid (hB1.out.trans (hb.mono (by simp)))
    have s2a := s1a.next hb
    clear hb s1a
    have g := rCoal_any Ps Ns Ts wPs wNs wTs Aa ca a wa w1 s2a
    rw [hv] at g
    unfold pv at g
    obtain ⟨c0, c1, c2, hlt⟩ := hX2
    go_wp2_with fail
    refine g.mono ?_; rintro e w2 ⟨rfl, hb⟩
    go_wp2_with fail
    go_ret
    exact ⟨rfl, hB2.out.trans (hb.mono hB2.out.size)⟩
  | true =>
    cases hv2 : vC Ps Ns Ts b with
    | false =>
      have hX1 := Lib.hid (Bx.made w Ps Ns Ts)
      have hB1 := Lib.hid ((Below.refl _ w).alloc (Nat.le_refl _) (.cells #[.int .u64 Ps, .int .i64 Ns, .int .i64 Ts] 24))
      have s1a := sa.next hB1.out
      have s1b := sb.next hB1.out
      go_enter Try.func7, Try.ntmps7
      go_wp2_with fail
      refine (awake_any _).mono ?_; rintro e w1 ⟨rfl, hb⟩
      have hX2 := hX1.out.next hb
      have hB2 := Lib.hid (hB1.out.trans (hb.mono (by simp)))
      have s2a := s1a.next hb
      have s2b := s1b.next hb
      clear hb s1a s1b
      have g := rCoal_any Ps Ns Ts wPs wNs wTs Aa ca a wa w1 s2a
      have g2 := fun W h => rCoal_any Ps Ns Ts wPs wNs wTs Ab cb b wb W h
      rw [hv] at g
      rw [hv2] at g2
      unfold pv at g g2
      have hX2' := hX2
      obtain ⟨c0, c1, c2, hlt⟩ := hX2'
      go_wp2_with fail
      refine g.mono ?_; rintro e w2 ⟨rfl, hb⟩
      have hX3 := hX2.next hb
      have hB3 := Lib.hid (hB2.out.trans (hb.mono hB2.out.size))
      have s3b := s2b.next hb
      clear hb hX2 c0 c1 c2 hlt
      obtain ⟨c0, c1, c2, hlt⟩ := hX3
      go_wp2_with fail
      refine (g2 _ s3b).mono ?_; rintro e w3 ⟨rfl, hb⟩
      go_wp2_with fail
      go_ret
      exact ⟨rfl, hB3.out.trans (hb.mono hB3.out.size)⟩
    | true =>
      obtain ⟨N, T, rfl, rfl, hC⟩ := Coal.of hv
      have hD : Coal Ps N T b := by
        obtain ⟨N', T', hN', hT', h⟩ := Coal.of hv2
        obtain rfl : N' = N := by omega
        obtain rfl : T' = T := by omega
        exact h
      have hX1 := Lib.hid (Bx.made w Ps N T)
      have hB1 := Lib.hid ((Below.refl _ w).alloc (Nat.le_refl _) (.cells #[.int .u64 Ps, .int .i64 N, .int .i64 T] 24))
      have s1a := sa.next hB1.out
      have s1b := sb.next hB1.out
      go_enter Try.func7, Try.ntmps7
      go_wp2_with fail
      refine (awake_any _).mono ?_; rintro e w1 ⟨rfl, hb⟩
      have hX2 := hX1.out.next hb
      have hB2 := Lib.hid (hB1.out.trans (hb.mono (by simp)))
      have s2a := s1a.next hb
      have s2b := s1b.next hb
      clear hb s1a s1b
      have g := rCoal_any Ps N T wPs wNs wTs Aa ca a wa w1 s2a
      have g2 := fun W h => rCoal_any Ps N T wPs wNs wTs Ab cb b wb W h
      rw [hv] at g
      rw [hv2] at g2
      unfold pv at g g2
      clear hv hv2
      have hX2' := hX2
      obtain ⟨c0, c1, c2, hlt⟩ := hX2'
      go_wp2_with fail
      refine g.mono ?_; rintro e w2 ⟨rfl, hb⟩
      have hX3 := hX2.next hb
      have hB3 := Lib.hid (hB2.out.trans (hb.mono hB2.out.size))
      have s3a := s2a.next hb
      have s3b := s2b.next hb
      clear hb hX2 c0 c1 c2 hlt s2a s2b
      obtain ⟨c0, c1, c2, hlt⟩ := id hX3
      go_wp2_with fail
      refine (g2 _ s3b).mono ?_; rintro e w3 ⟨rfl, hb⟩
      clear c0 c1 c2 hlt g g2
      replace hX3 := hX3.next hb
      replace s3a := s3a.next hb
      replace s3b := s3b.next hb
      replace hB3 := Lib.hid (hB3.out.trans (hb.mono hB3.out.size))
      clear hb
      have vA := fun W h => van_any Ps N T Aa ca a hC W h
      have vB := fun W h => van_any Ps N T Ab cb b hD W h
      have eA := fun W h => ext_any Ps N T Aa ca a hC W h
      have eB := fun W h => ext_any Ps N T Ab cb b hD W h
      have lA := hC.full
      have lB := hD.full
      have zA := (vp_tn hC.ok.good (ext_plc hC.lt a (T - a.length))).2
      have zB := (vp_tn hC.ok.good (ext_plc hC.lt b (T - b.length))).2
      have hEQ : decide (vp Ps [1] (ext a N (T - a.length)) = vp Ps [1] (ext b N (T - b.length))) = decide (ext a N (T - a.length) = ext b N (T - b.length)) := by
        rw [decide_eq_decide]
        exact ⟨fun e => vp_inj hC.ok.good hC.lt e, fun e => by rw [e]⟩
      have hT13 : T ≤ 13 := by have := hC.n13; have := hC.t3; omega
      unfold pv at vA vB eA eB
      generalize vp Ps [1] (ext a N (T - a.length)) = Za at *
      generalize vp Ps [1] (ext b N (T - b.length)) = Zb at *
      generalize ext a N (T - a.length) = Ea at *
      generalize ext b N (T - b.length) = Eb at *
      have kEa : Ea.length ≤ 1000 := by omega
      have kEb : Eb.length ≤ 1000 := by omega
      have kZa : Za.length ≤ 1000 := by omega
      have kZb : Zb.length ≤ 1000 := by omega
      have hsm := fun A A' c c' W h h' => same_dec A A' Za.length Zb.length c c' Za Zb rfl rfl kZa kZb W h h'
      have hin := fun A A' c c' W h h' => ints_any A A' Ea.length Eb.length c c' Ea Eb rfl rfl kEa kEb W h h'
      rw [hEQ] at hsm
      generalize decide (Ea = Eb) = q at *
      clear hC hD lA lB zA zB hEQ kEa kEb kZa kZb
      have hqq : (q == q) = true := beq_self_eq_true q
      obtain ⟨c0, c1, c2, hlt⟩ := id hX3
      have b3 := Lib.hid hB3.out.drew
      have x3 := Lib.hid (hX3.next (Below.refl _ w3).drew)
      have a3 := Lib.hid s3a.drew
      have d3 := Lib.hid s3b.drew
      clear hX3 s3a s3b hB3
      go_wp2_with fail
      go_region_held3 (fun w' => w'.cell? ⟨w.heap.size, 0, none⟩ = some (.int .u64 Ps) ∧ w'.cell? ⟨w.heap.size, 1, none⟩ = some (.int .i64 N) ∧ w'.cell? ⟨w.heap.size, 2, none⟩ = some (.int .i64 T))
        (refine ⟨?_, ?_, ?_⟩ <;> assumption)
        (first
          | (go_at_call 22; (with_reducible refine (vA _ a3.out).mono ?_); rintro e w4 ⟨A4, k4, rfl, s4, hb⟩; have b4 := Lib.hid (b3.out.trans (hb.mono b3.out.size)); have x4 := Lib.hid (x3.out.next hb); have a4 := Lib.hid (a3.out.next hb); have d4 := Lib.hid (d3.out.next hb); obtain ⟨c04, c14, c24, _⟩ := x4.out; clear hb)
          | (go_at_call 22; (with_reducible refine (vB _ d4.out).mono ?_); rintro e w5 ⟨A5, k5, rfl, s5, hb⟩; have b5 := Lib.hid (b4.out.trans (hb.mono b4.out.size)); have x5 := Lib.hid (x4.out.next hb); have a5 := Lib.hid (a4.out.next hb); have d5 := Lib.hid (d4.out.next hb); have s45 := Lib.hid (s4.next hb); obtain ⟨c05, c15, c25, _⟩ := x5.out; clear hb)
          | (go_at_call 23; (with_reducible refine (hsm _ _ _ _ _ s45.out s5).mono ?_); rintro e w6 ⟨rfl, m6, hq6⟩; have hb := below_drewN (Below.refl w5.heap.size w5) m6; rw [← hq6] at hb; have b6 := Lib.hid (b5.out.trans (hb.mono b5.out.size)); have x6 := Lib.hid (x5.out.next hb); have a6 := Lib.hid (a5.out.next hb); have d6 := Lib.hid (d5.out.next hb); obtain ⟨c06, c16, c26, _⟩ := x6.out; clear hb hq6)
          | (go_at_call 16; (with_reducible refine (eA _ a6.out).mono ?_); rintro e w7 ⟨v7, rfl, hO7, hb⟩; obtain ⟨A7, k7, rfl, s7⟩ := hO7.form; have b7 := Lib.hid (b6.out.trans (hb.mono b6.out.size)); have x7 := Lib.hid (x6.out.next hb); have d7 := Lib.hid (d6.out.next hb); obtain ⟨c07, c17, c27, _⟩ := x7.out; clear hb hO7)
          | (go_at_call 16; (with_reducible refine (eB _ d7.out).mono ?_); rintro e w8 ⟨v8, rfl, hO8, hb⟩; obtain ⟨A8, k8, rfl, s8⟩ := hO8.form; have b8 := Lib.hid (b7.out.trans (hb.mono b7.out.size)); have x8 := Lib.hid (x7.out.next hb); have s78 := Lib.hid (s7.next hb); obtain ⟨c08, c18, c28, _⟩ := x8.out; clear hb hO8)
          | (go_at_call 18; (with_reducible refine (hin _ _ _ _ _ s78.out s8).mono ?_); rintro e w9 ⟨rfl, m9, hq9⟩; have hb := below_drewN (Below.refl w8.heap.size w8) m9; rw [← hq9] at hb; have b9 := Lib.hid (b8.out.trans (hb.mono b8.out.size)); have x9 := Lib.hid (x8.out.next hb); obtain ⟨c09, c19, c29, _⟩ := x9.out; clear hb hq9))
      all_goals
        go_wp2
        go_ret
        exact ⟨by first | rfl | simp, b9.out⟩

theorem lifted (os : Os) (started : os.Started) (H : Type) (enc : TypeId × Value → H) :
    ReturnsInHanded {} Try.checked os 7 .any (Rows.paramsVanishingPolynomialIdentifiesCoalitionSpec.pre6 enc Try.prog Try.f7 Rows.paramsVanishingPolynomialIdentifiesCoalitionRow.domain false) (Rows.paramsVanishingPolynomialIdentifiesCoalitionSpec.post enc Try.prog Try.f7 false true false false) := by
  refine returnsInHanded_of_change (C := Try.checked) own started (by kernel_rfl) Try.func7
    (ChangeSpec.witness6 (enc := enc) (C := Try.checked) false ⟨#[], #[.agg #[.int .u64 0, .int .i64 0, .int .i64 0], .slice none 0 0, .slice none 0 0], []⟩ 8 (by kernel_rfl) (by kernel_rfl) (by kernel_rfl) (by kernel_rfl)) ?_
  intro W base args ds gs before hval0 hW hcnd _
  have hval : ∀ (j : Nat) t v, Try.f7.params[j]? = some t → args[j]? = some v → Value.okWide Try.prog W .any base t v := hval0
  have hW' := hW
  obtain ⟨p, q, hA0, hV, rfl, hfz, hnd⟩ := hW
  have hA : DataW.TrodAll enc Try.prog W 0 (fun _ => true) true Try.f7.params.toList args.toList ds p := hA0
  rw [Try.params7] at hA hval
  obtain ⟨v0, v1, v2, d0, d1, d2, p0, p1, p2, rfl, rfl, rfl, t0, t1, t2⟩ := trodAll_three hA
  obtain ⟨rfl, rfl⟩ := trodVars_none hV
  clear hA0 hval0
  simp only [List.append_nil] at hW'
  have l0 : ∀ x ∈ p0, x.block < W.heap.size := fun x hx => hW'.lt x (by simp [hx])
  obtain ⟨P0, N0, T0, rfl, b0, e0, f0⟩ := arg_pr (hval 0 24 v0 rfl rfl) t0
  have l1 : ∀ x ∈ p1, x.block < W.heap.size := fun x hx => hW'.lt x (by simp [hx])
  obtain ⟨A1, x1, c1, rfl, r1, b1⟩ := arg_si (hval 1 25 v1 rfl rfl) t1 l1
  have l2 : ∀ x ∈ p2, x.block < W.heap.size := fun x hx => hW'.lt x (by simp [hx])
  obtain ⟨A2, x2, c2, rfl, r2, b2⟩ := arg_si (hval 2 25 v2 rfl rfl) t2 l2
  refine (walk P0 N0 T0 A1 c1 x1 A2 c2 x2 b0 e0 f0 b1 b2 W r1 r2).mono fun e W' ⟨he, hb⟩ => ?_
  subst he
  exact ⟨_, rfl, post_of_below (pa := p0 ++ (p1 ++ p2)) (pv := []) hW' (fun _ _ _ => (trodAll_cons_mk (shut_bool Try.underlying4 _) trodAll_mk0)) (fun sp hsp => trodAll_mk3 (stay_pr t0 hb l0 sp (fun x hx => hsp x (by simp [hx]))) (stay_si t1 hb l1 sp (fun x hx => hsp x (by simp [hx]))) (stay_si t2 hb l2 sp (fun x hx => hsp x (by simp [hx])))) (fun _ _ => rfl) (by simp)
    hb (ok_one (by kernel_rfl) rfl (okWide_bool_mk Try.underlying4 _))⟩

theorem over : Rows.paramsVanishingPolynomialIdentifiesCoalitionRow.holds Try.pinned (OpenSpec.ofChange Rows.paramsVanishingPolynomialIdentifiesCoalitionSpec) :=
  OpenClaim.holds_of_wide 7 Try.f7 rfl rfl rfl rfl rfl rfl rfl ⟨rfl, rfl, rfl, rfl, rfl⟩ rfl rfl rfl rfl rfl (by kernel_rfl) Try.func7 (by kernel_rfl)
    (of_decide_eq_true (by kernel_rfl)) (by unfold Func.isWrapper; first | (rw [if_pos (by decide +kernel)]; kernel_rfl) | (rw [if_neg (by decide +kernel)]; exact ⟨rfl, rfl⟩))
    (fun os started H enc _ => lifted os started H enc)

theorem proved : Rows.ParamsVanishingPolynomialIdentifiesCoalitionSaid := over
end Go.Proofs.Ytkkfkkicbgejaaa.paramsVanishingPolynomialIdentifiesCoalition
