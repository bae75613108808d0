/- ExtendCoalition and HonestParties answer as the reference; the coalition and the honest parties part the set of parties; more than two thirds are honest. No conditions. -/
import Derived.Test.YtkkfkkicbgejaaaFLaw
import Derived.Test.YtkkfkkicbgejaaaFOpn
import Derived.Test.YtkkfkkicbgejaaaFrame
namespace Go.Proofs.Ytkkfkkicbgejaaa.paramsPartitionParties
set_option maxRecDepth 100000
open Go.ChangeShapes Go.WideShapes Go.ChangeAt Go.RowKit PolyMath FieldMath PartyMath

set_option maxHeartbeats 4000000 in
theorem walk (Ps Ns Ts : Int) (Abad : Option Addr) (cbad : Nat) (bad : List Int) (wPs : Wd Ps) (wNs : Wi Ns) (wTs : Wi Ts) (wbad : Nums bad) (w : World) (sbad : Si w Abad cbad bad) :
    Calls Try.prog 5 #[.agg #[.int .u64 Ps, .int .i64 Ns, .int .i64 Ts], .slice Abad bad.length cbad] w fun e w' => e = .returned (.bool true) ∧ Below w.heap.size w w' := by
  cases hv : vC Ps Ns Ts bad with
  | false =>
    have hX1 := Lib.hid (Bx.made w Ps Ns Ts)
    have hB1 := Lib.hid ((Below.refl _ w).alloc (Nat.le_refl _) (.cells #[.int .u64 Ps, .int .i64 Ns, .int .i64 Ts] 24))
    have s1bad := sbad.next hB1.out
    go_enter Try.func5, Try.ntmps5
    go_wp2_with fail
    refine (awake_any _).mono ?_; rintro e w1 ⟨rfl, hb⟩
    have hX2 := hX1.out.next hb
    have hB2 := Lib.hid (hB1.out.trans (hb.mono (by simp)))
    have s2bad := s1bad.next hb
    clear hb s1bad
    have g := rCoal_any Ps Ns Ts wPs wNs wTs Abad cbad bad wbad w1 s2bad
    rw [hv] at g
    unfold pv at g
    obtain ⟨c0, c1, c2, hlt⟩ := hX2
    go_wp2_with fail
    refine g.mono ?_; rintro e w2 ⟨rfl, hb⟩
    go_wp2_with fail
    go_ret
    exact ⟨rfl, hB2.out.trans (hb.mono hB2.out.size)⟩
  | true =>
    obtain ⟨N, T, rfl, rfl, hC⟩ := Coal.of hv
    have hX1 := Lib.hid (Bx.made w Ps N T)
    have hB1 := Lib.hid ((Below.refl _ w).alloc (Nat.le_refl _) (.cells #[.int .u64 Ps, .int .i64 N, .int .i64 T] 24))
    have s1bad := sbad.next hB1.out
    go_enter Try.func5, Try.ntmps5
    go_wp2_with fail
    refine (awake_any _).mono ?_; rintro e w1 ⟨rfl, hb⟩
    have hX2 := hX1.out.next hb
    have hB2 := Lib.hid (hB1.out.trans (hb.mono (by simp)))
    have s2bad := s1bad.next hb
    clear hb s1bad
    have g := rCoal_any Ps N T wPs wNs wTs Abad cbad bad wbad w1 s2bad
    rw [hv] at g
    unfold pv at g
    clear hv
    have hX2' := hX2
    obtain ⟨c0, c1, c2, hlt⟩ := hX2'
    go_wp2_with fail
    refine g.mono ?_; rintro e w2 ⟨rfl, hb⟩
    have hX3 := hX2.next hb
    have hB3 := Lib.hid (hB2.out.trans (hb.mono hB2.out.size))
    have s3 := s2bad.next hb
    clear hb g hX2 s2bad c0 c1 c2 hlt
    have hext := fun A' c' xs' hC' W h => ext_any Ps N T A' c' xs' hC' W h
    have hrext := fun W h => rExt_any Ps T N (T - bad.length) hC.n13 Abad cbad bad hC.l1000 (by have := hC.t3; have := hC.n13; omega) (by have := hC.len; omega) W h
    have hhon := fun W h => hon_any Ps N T Abad cbad bad hC W h
    have hrhon := fun W h => rHon_any Ps T N hC.n13 Abad cbad bad hC.l1000 W h
    have hCE := hC.ext
    have hEL := hC.full
    have hHL := hon_len hC.asc
    have hz : Hid (ext (ext bad N (T - bad.length)) N (T - (ext bad N (T - bad.length)).length) = ext bad N (T - bad.length)) := Lib.hid (by rw [hEL, Nat.sub_self]; exact ext_zero hCE.asc)
    have hin := fun i : Int => @mem_ext bad N (T - bad.length) i
    have hxin : ∀ i : Int, 1 ≤ i → i ≤ N → i ∈ bad → i ∈ ext bad N (T - bad.length) := fun i h1 h2 h => ext_in h1 h2 h
    have hho : ∀ i : Int, 1 ≤ i → i ≤ N → (decide (i ∈ hon bad N) = !decide (i ∈ bad)) := fun i h1 h2 => by
      by_cases h : i ∈ bad
      · rw [decide_eq_true h, decide_eq_false (fun hm => (mem_hon.1 hm).2 h)]; rfl
      · rw [decide_eq_false h, decide_eq_true (mem_hon.2 ⟨⟨h1, h2⟩, h⟩)]; rfl
    have hN13 := hC.n13
    have hT3 := hC.t3
    have hbl := hC.len
    have hbk := hC.l1000
    have hTT : T ≤ 4 := by omega
    have hmaj : 2 * N < 3 * (hon bad N).length := by omega
    unfold pv at hext hrext hhon hrhon
    have he1 := fun W h => hext Abad cbad bad hC W h
    have he2 := fun A' c' W h => hext A' c' (ext bad N (T - bad.length)) hCE W h
    rw [hz.out] at he2
    generalize ext bad N (T - bad.length) = E at *
    generalize hH : hon bad N = H at *
    clear hC hext hin hH hCE
    have hELi := Lib.hid hEL
    have hEt : ((E.length : Int) != (T : Int)) = false := by rw [bne_eq_false_iff_eq]; omega
    have hEk : E.length ≤ 1000 := by omega
    have hHk : H.length ≤ 1000 := by omega
    have hHk' : (H.length : Int) ≤ 13 := by omega
    have hNN : (N : Int) ≤ 13 := by omega
    have hmaj' : 2 * (N : Int) < 3 * (H.length : Int) := by omega
    clear hEL hHL hmaj
    obtain ⟨c0, c1, c2, hlt⟩ := id hX3
    go_wp2_with fail
    refine (he1 _ s3).mono ?_; rintro e w3 ⟨v, rfl, hO, hb⟩
    obtain ⟨A5, k5, rfl, s5⟩ := hO.form
    clear hO c0 c1 c2 hlt
    replace hX3 := hX3.next hb
    replace s3 := s3.next hb
    replace hB3 := Lib.hid (hB3.out.trans (hb.mono hB3.out.size))
    clear hb
    obtain ⟨c0, c1, c2, hlt⟩ := id hX3
    go_wp2_with fail
    refine (hhon _ s3).mono ?_; rintro e w4 ⟨v, rfl, hO, hb⟩
    obtain ⟨A6, k6, rfl, s6⟩ := hO.form
    clear hO c0 c1 c2 hlt
    replace hX3 := hX3.next hb
    replace s3 := s3.next hb
    replace s5 := s5.next hb
    replace hB3 := Lib.hid (hB3.out.trans (hb.mono hB3.out.size))
    clear hb
    obtain ⟨c0, c1, c2, hlt⟩ := id hX3
    go_wp2_with fail
    refine (hrext _ s3).mono ?_; rintro e w5 ⟨v, rfl, hO, hb⟩
    obtain ⟨A7, k7, rfl, s7⟩ := hO.form
    clear hO c0 c1 c2 hlt
    replace hX3 := hX3.next hb
    replace s3 := s3.next hb
    replace s5 := s5.next hb
    replace s6 := s6.next hb
    replace hB3 := Lib.hid (hB3.out.trans (hb.mono hB3.out.size))
    clear hb
    go_wp2_with fail
    refine (ints_any A5 A7 E.length E.length k5 k7 E E rfl rfl hEk hEk _ s5 s7).mono ?_; rintro e w6 ⟨rfl, m, rfl⟩
    have hb := below_drewN (Below.refl w5.heap.size w5) m
    rw [decide_eq_true rfl]
    clear s7
    replace hX3 := hX3.next hb
    replace s3 := s3.next hb
    replace s5 := s5.next hb
    replace s6 := s6.next hb
    replace hB3 := Lib.hid (hB3.out.trans (hb.mono hB3.out.size))
    clear hb
    generalize w5.drewN m = w6 at *
    obtain ⟨c0, c1, c2, hlt⟩ := id hX3
    go_wp2_with fail
    refine (hrhon _ s3).mono ?_; rintro e w7 ⟨v, rfl, hO, hb⟩
    obtain ⟨A8, k8, rfl, s8⟩ := hO.form
    clear hO c0 c1 c2 hlt
    replace hX3 := hX3.next hb
    replace s3 := s3.next hb
    replace s5 := s5.next hb
    replace s6 := s6.next hb
    replace hB3 := Lib.hid (hB3.out.trans (hb.mono hB3.out.size))
    clear hb
    go_wp2_with fail
    refine (ints_any A6 A8 H.length H.length k6 k8 H H rfl rfl hHk hHk _ s6 s8).mono ?_; rintro e w8 ⟨rfl, m, rfl⟩
    have hb := below_drewN (Below.refl w7.heap.size w7) m
    rw [decide_eq_true rfl]
    clear s8
    replace hX3 := hX3.next hb
    replace s3 := s3.next hb
    replace s5 := s5.next hb
    replace s6 := s6.next hb
    replace hB3 := Lib.hid (hB3.out.trans (hb.mono hB3.out.size))
    clear hb
    generalize w7.drewN m = w8 at *
    obtain ⟨c0, c1, c2, hlt⟩ := id hX3
    go_wp2_with fail
    refine (he2 A5 k5 _ s5).mono ?_; rintro e w9 ⟨v, rfl, hO, hb⟩
    obtain ⟨A9, k9, rfl, s9⟩ := hO.form
    clear hO c0 c1 c2 hlt
    replace hX3 := hX3.next hb
    replace s3 := s3.next hb
    replace s5 := s5.next hb
    replace s6 := s6.next hb
    replace hB3 := Lib.hid (hB3.out.trans (hb.mono hB3.out.size))
    clear hb
    go_wp2_with fail
    refine (ints_any A9 A5 E.length E.length k9 k5 E E rfl rfl hEk hEk _ s9 s5).mono ?_; rintro e wa ⟨rfl, m, rfl⟩
    have hb := below_drewN (Below.refl w9.heap.size w9) m
    rw [decide_eq_true rfl]
    clear s9
    replace hX3 := hX3.next hb
    replace s3 := s3.next hb
    replace s5 := s5.next hb
    replace s6 := s6.next hb
    replace hB3 := Lib.hid (hB3.out.trans (hb.mono hB3.out.size))
    clear hb
    generalize w9.drewN m = wa at *
    obtain ⟨c0, c1, c2, hlt⟩ := id hX3
    clear he1 he2 hrext hhon hrhon
    go_wp2
    clear c0 c1 c2 hlt
    go_loopw [7] (fun i wr => ∃ k : Nat, k ≤ N ∧ i = .int .i64 ((k : Int) + 1) ∧ Below wa.heap.size wa wr) (fun i _ => N + 1 - (intOf i).toNat)
    case atStart => exact ⟨0, Nat.zero_le _, rfl, Below.refl _ _⟩
    case round =>
      obtain ⟨k, hk, rfl, hbr⟩ := hrel
      obtain ⟨c0, c1, c2, hlt⟩ := hX3.next hbr
      by_cases hkn : k < N
      · have hkN : (k : Int) + 1 ≤ N := by omega
        have i1 := fun W h => in_any Abad cbad bad ((k : Int) + 1) hbk W h
        have i2 := fun W h => in_any A6 k6 H ((k : Int) + 1) hHk W h
        have i3 := fun W h => in_any A5 k5 E ((k : Int) + 1) hEk W h
        rw [hho ((k : Int) + 1) (by omega) hkN] at i2
        by_cases hm : ((k : Int) + 1) ∈ bad
        · rw [decide_eq_true (hxin _ (by omega) hkN hm)] at i3
          rw [decide_eq_true hm] at i1 i2
          clear hm
          go_wp2_with fail
          refine (i1 _ (s3.next hbr)).mono ?_; rintro e wb ⟨rfl, m, hq0⟩
          have hd1 := below_drewN hbr m
          rw [← hq0] at hd1
          clear hq0
          go_wp2_with fail
          refine (i2 _ (s6.next hd1)).mono ?_; rintro e wc ⟨rfl, m2, hq1⟩
          have hd2 := below_drewN hd1 m2
          rw [← hq1] at hd2
          clear hq1
          go_wp2_with fail
          refine (i1 _ (s3.next hd2)).mono ?_; rintro e wd ⟨rfl, m3, hq2⟩
          have hd3 := below_drewN hd2 m3
          rw [← hq2] at hd3
          clear hq2
          go_wp2_with fail
          refine (i3 _ (s5.next hd3)).mono ?_; rintro e we ⟨rfl, m4, hq3⟩
          have hd4 := below_drewN hd3 m4
          rw [← hq3] at hd4
          clear hq3
          go_wp2_with fail
          go_roundw
          case rel => exact ⟨k + 1, by omega, by simp, hd4⟩
          case measure => simp [intOf]; omega
        · rw [decide_eq_false hm] at i1 i2
          clear hm i3
          go_wp2_with fail
          refine (i1 _ (s3.next hbr)).mono ?_; rintro e wb ⟨rfl, m, hq0⟩
          have hd1 := below_drewN hbr m
          rw [← hq0] at hd1
          clear hq0
          go_wp2_with fail
          refine (i2 _ (s6.next hd1)).mono ?_; rintro e wc ⟨rfl, m2, hq1⟩
          have hd2 := below_drewN hd1 m2
          rw [← hq1] at hd2
          clear hq1
          go_wp2_with fail
          refine (i1 _ (s3.next hd2)).mono ?_; rintro e wd ⟨rfl, m3, hq2⟩
          have hd3 := below_drewN hd2 m3
          rw [← hq2] at hd3
          clear hq2
          go_wp2_with fail
          go_roundw
          case rel => exact ⟨k + 1, by omega, by simp, hd3⟩
          case measure => simp [intOf]; omega
      · obtain rfl : k = N := by omega
        go_wp2
        go_ret
        exact ⟨by first | rfl | (simp; omega), hB3.out.trans (hbr.mono hB3.out.size)⟩

theorem lifted (os : Os) (started : os.Started) (H : Type) (enc : TypeId × Value → H) :
    ReturnsInHanded {} Try.checked os 5 .any (Rows.paramsPartitionPartiesSpec.pre6 enc Try.prog Try.f5 Rows.paramsPartitionPartiesRow.domain false) (Rows.paramsPartitionPartiesSpec.post enc Try.prog Try.f5 false true false false) := by
  refine returnsInHanded_of_change (C := Try.checked) own started (by kernel_rfl) Try.func5
    (ChangeSpec.witness6 (enc := enc) (C := Try.checked) false ⟨#[], #[.agg #[.int .u64 0, .int .i64 0, .int .i64 0], .slice none 0 0], []⟩ 8 (by kernel_rfl) (by kernel_rfl) (by kernel_rfl) (by kernel_rfl)) ?_
  intro W base args ds gs before hval0 hW hcnd _
  have hval : ∀ (j : Nat) t v, Try.f5.params[j]? = some t → args[j]? = some v → Value.okWide Try.prog W .any base t v := hval0
  have hW' := hW
  obtain ⟨p, q, hA0, hV, rfl, hfz, hnd⟩ := hW
  have hA : DataW.TrodAll enc Try.prog W 0 (fun _ => true) true Try.f5.params.toList args.toList ds p := hA0
  rw [Try.params5] at hA hval
  obtain ⟨v0, v1, d0, d1, p0, p1, rfl, rfl, rfl, t0, t1⟩ := trodAll_two hA
  obtain ⟨rfl, rfl⟩ := trodVars_none hV
  clear hA0 hval0
  simp only [List.append_nil] at hW'
  have l0 : ∀ x ∈ p0, x.block < W.heap.size := fun x hx => hW'.lt x (by simp [hx])
  obtain ⟨P0, N0, T0, rfl, b0, e0, f0⟩ := arg_pr (hval 0 24 v0 rfl rfl) t0
  have l1 : ∀ x ∈ p1, x.block < W.heap.size := fun x hx => hW'.lt x (by simp [hx])
  obtain ⟨A1, x1, c1, rfl, r1, b1⟩ := arg_si (hval 1 25 v1 rfl rfl) t1 l1
  refine (walk P0 N0 T0 A1 c1 x1 b0 e0 f0 b1 W r1).mono fun e W' ⟨he, hb⟩ => ?_
  subst he
  exact ⟨_, rfl, post_of_below (pa := p0 ++ p1) (pv := []) hW' (fun _ _ _ => (trodAll_cons_mk (shut_bool Try.underlying4 _) trodAll_mk0)) (fun sp hsp => trodAll_mk2 (stay_pr t0 hb l0 sp (fun x hx => hsp x (by simp [hx]))) (stay_si t1 hb l1 sp (fun x hx => hsp x (by simp [hx])))) (fun _ _ => rfl) (by simp)
    hb (ok_one (by kernel_rfl) rfl (okWide_bool_mk Try.underlying4 _))⟩

theorem over : Rows.paramsPartitionPartiesRow.holds Try.pinned (OpenSpec.ofChange Rows.paramsPartitionPartiesSpec) :=
  OpenClaim.holds_of_wide 5 Try.f5 rfl rfl rfl rfl rfl rfl rfl ⟨rfl, rfl, rfl, rfl, rfl⟩ rfl rfl rfl rfl rfl (by kernel_rfl) Try.func5 (by kernel_rfl)
    (of_decide_eq_true (by kernel_rfl)) (by unfold Func.isWrapper; first | (rw [if_pos (by decide +kernel)]; kernel_rfl) | (rw [if_neg (by decide +kernel)]; exact ⟨rfl, rfl⟩))
    (fun os started H enc _ => lifted os started H enc)

theorem proved : Rows.ParamsPartitionPartiesSaid := over
end Go.Proofs.Ytkkfkkicbgejaaa.paramsPartitionParties
