/- VanishingPolynomial answers as the reference; it is 1 at 0, and among the parties its roots are the extended coalition. No conditions. -/
import Derived.Test.YtkkfkkicbgejaaaFLaw
import Derived.Test.YtkkfkkicbgejaaaFOpn
import Derived.Test.YtkkfkkicbgejaaaFrame
namespace Go.Proofs.Ytkkfkkicbgejaaa.paramsVanishingPolynomialRoots
set_option maxRecDepth 100000
open Go.ChangeShapes Go.WideShapes Go.ChangeAt Go.RowKit PolyMath FieldMath PartyMath

set_option maxHeartbeats 4000000 in
theorem walk (Ps Ns Ts : Int) (Abad : Option Addr) (cbad : Nat) (bad : List Int) (wPs : Wd Ps) (wNs : Wi Ns) (wTs : Wi Ts) (wbad : Nums bad) (w : World) (sbad : Si w Abad cbad bad) :
    Calls Try.prog 6 #[.agg #[.int .u64 Ps, .int .i64 Ns, .int .i64 Ts], .slice Abad bad.length cbad] w fun e w' => e = .returned (.bool true) ∧ Below w.heap.size w w' := by
  cases hv : vC Ps Ns Ts bad with
  | false =>
    have hX1 := Lib.hid (Bx.made w Ps Ns Ts)
    have hB1 := Lib.hid ((Below.refl _ w).alloc (Nat.le_refl _) (.cells #[.int .u64 Ps, .int .i64 Ns, .int .i64 Ts] 24))
    have s1bad := sbad.next hB1.out
    go_enter Try.func6, Try.ntmps6
    go_wp2_with fail
    refine (awake_any _).mono ?_; rintro e w1 ⟨rfl, hb⟩
    have hX2 := hX1.out.next hb
    have hB2 := Lib.hid (hB1.out.trans (hb.mono (by simp)))
    have s2bad := s1bad.next hb
    clear hb s1bad
    have g := rCoal_any Ps Ns Ts wPs wNs wTs Abad cbad bad wbad w1 s2bad
    rw [hv] at g
    unfold pv at g
    obtain ⟨c0, c1, c2, hlt⟩ := hX2
    go_wp2_with fail
    refine g.mono ?_; rintro e w2 ⟨rfl, hb⟩
    go_wp2_with fail
    go_ret
    exact ⟨rfl, hB2.out.trans (hb.mono hB2.out.size)⟩
  | true =>
    obtain ⟨N, T, rfl, rfl, hC⟩ := Coal.of hv
    have hX1 := Lib.hid (Bx.made w Ps N T)
    have hB1 := Lib.hid ((Below.refl _ w).alloc (Nat.le_refl _) (.cells #[.int .u64 Ps, .int .i64 N, .int .i64 T] 24))
    have s1bad := sbad.next hB1.out
    go_enter Try.func6, Try.ntmps6
    go_wp2_with fail
    refine (awake_any _).mono ?_; rintro e w1 ⟨rfl, hb⟩
    have hX2 := hX1.out.next hb
    have hB2 := Lib.hid (hB1.out.trans (hb.mono (by simp)))
    have s2bad := s1bad.next hb
    clear hb s1bad
    have g := rCoal_any Ps N T wPs wNs wTs Abad cbad bad wbad w1 s2bad
    rw [hv] at g
    unfold pv at g
    clear hv
    have hX2' := hX2
    obtain ⟨c0, c1, c2, hlt⟩ := hX2'
    go_wp2_with fail
    refine g.mono ?_; rintro e w2 ⟨rfl, hb⟩
    have hX3 := hX2.next hb
    have hB3 := Lib.hid (hB2.out.trans (hb.mono hB2.out.size))
    have s3 := s2bad.next hb
    clear hb g hX2 s2bad c0 c1 c2 hlt
    have hvan := fun W h => van_any Ps N T Abad cbad bad hC W h
    have hrvan := fun W h => rVan_any Ps N T Abad cbad bad hC W h
    have hext := fun W h => ext_any Ps N T Abad cbad bad hC W h
    have hEL := hC.full
    have hpl := ext_plc hC.lt bad (T - bad.length)
    have hp := hC.ok
    have hbd := hp.bd
    have hN13 := hC.n13
    have hT3 := hC.t3
    have hlt13 := hC.lt
    have hzl := (vp_tn hp.good hpl).2
    have hze := vp_el (p := Ps) (by omega) (ext bad N (T - bad.length)) [1] (El.one (by omega))
    have hztop := vp_top hp.good hpl
    have hz0 := vp_zero (p := Ps) (by omega) (ext bad N (T - bad.length)) [1] (pev_one (by omega) 0)
    have hroot : ∀ i : Int, 1 ≤ i → i ≤ N → (pev Ps (vp Ps [1] (ext bad N (T - bad.length))) i == 0) = decide (i ∈ ext bad N (T - bad.length)) := fun i h1 h2 => by
      rw [Bool.eq_iff_iff, beq_iff_eq, decide_eq_true_eq]
      exact vp_root hp.good hpl (by omega) (by omega)
    unfold pv at hvan hrvan hext
    rw [hEL] at hzl hztop
    generalize ext bad N (T - bad.length) = E at *
    generalize vp Ps [1] E = Z at *
    have hTT : T ≤ 4 := by omega
    have hTI : (T : Int) ≤ 4 := by omega
    have hNN : (N : Int) ≤ 13 := by omega
    have hELi := Lib.hid hEL
    have hZL := Lib.hid hzl
    have hEk : E.length ≤ 1000 := by omega
    have hZk : Z.length ≤ 400 := by omega
    have hZk2 : Z.length ≤ 1000 := by omega
    have hZt : ((Z.length : Int) != (T : Int) + 1) = false := by rw [bne_eq_false_iff_eq]; omega
    have hev := fun x (hx : 0 ≤ x ∧ x < Ps) A' c' W (h : Sl W A' c' Z) => eval_any Ps x hp hx A' c' Z hze hZk W h
    have hZl2 : (T : Int) < Z.length := by omega
    have hZl3 : T < Z.length := by omega
    clear hEL hzl hpl hC
    obtain ⟨c0, c1, c2, hlt⟩ := id hX3
    go_wp2_with fail
    refine (hvan _ s3).mono ?_; rintro e w3 ⟨A5, k5, rfl, s5, hb⟩
    clear c0 c1 c2 hlt
    replace hX3 := hX3.next hb
    replace s3 := s3.next hb
    replace hB3 := Lib.hid (hB3.out.trans (hb.mono hB3.out.size))
    clear hb
    obtain ⟨c0, c1, c2, hlt⟩ := id hX3
    go_wp2_with fail
    refine (hrvan _ s3).mono ?_; rintro e w4 ⟨A6, k6, rfl, s6, hb⟩
    clear c0 c1 c2 hlt
    replace hX3 := hX3.next hb
    replace s3 := s3.next hb
    replace s5 := s5.next hb
    replace hB3 := Lib.hid (hB3.out.trans (hb.mono hB3.out.size))
    clear hb
    go_wp2_with fail
    refine (same_dec A5 A6 Z.length Z.length k5 k6 Z Z rfl rfl hZk2 hZk2 _ s5 s6).mono ?_; rintro e w5 ⟨rfl, m, hq⟩
    have hb := below_drewN (Below.refl w4.heap.size w4) m
    rw [← hq] at hb
    rw [decide_eq_true rfl]
    clear s6 hq
    replace hX3 := hX3.next hb
    replace s3 := s3.next hb
    replace s5 := s5.next hb
    replace hB3 := Lib.hid (hB3.out.trans (hb.mono hB3.out.size))
    clear hb
    obtain ⟨c0, c1, c2, hlt⟩ := id hX3
    obtain ⟨b5, o5, x5, hA5, _, hx5, hc5⟩ := s5.at_ (k := T) hZl3
    have hxne : (x5 == 0) = false := beq_eq_false_iff_ne.2 (by rw [← co_at hx5]; exact hztop)
    have s5H := Lib.hid s5
    subst hA5
    clear hx5
    go_wp2_with fail
    refine (hev 0 (by omega) _ _ _ s5H.out).mono ?_; rintro e w6 ⟨rfl, hb⟩
    rw [hz0]
    clear c0 c1 c2 hlt hc5 s5
    have s5 := s5H.out
    clear s5H
    replace hX3 := hX3.next hb
    replace s3 := s3.next hb
    replace s5 := s5.next hb
    replace hB3 := Lib.hid (hB3.out.trans (hb.mono hB3.out.size))
    clear hb
    obtain ⟨c0, c1, c2, hlt⟩ := id hX3
    go_wp2_with fail
    refine (hext _ s3).mono ?_; rintro e w7 ⟨v, rfl, hO, hb⟩
    obtain ⟨A8, k8, rfl, s8⟩ := hO.form
    clear hO c0 c1 c2 hlt
    replace hX3 := hX3.next hb
    replace s3 := s3.next hb
    replace s5 := s5.next hb
    replace hB3 := Lib.hid (hB3.out.trans (hb.mono hB3.out.size))
    clear hb
    have s5H := Lib.hid s5
    have s8H := Lib.hid s8
    clear hvan hrvan hext s5 s8
    go_wp2
    go_loopw [7] (fun i wr => ∃ k : Nat, k ≤ N ∧ i = .int .i64 ((k : Int) + 1) ∧ Below w7.heap.size w7 wr) (fun i _ => N + 1 - (intOf i).toNat)
    case atStart => exact ⟨0, Nat.zero_le _, rfl, Below.refl _ _⟩
    case round =>
      obtain ⟨k, hk, rfl, hbr⟩ := hrel
      have hXr := hX3.next hbr
      obtain ⟨c0, c1, c2, hlt⟩ := id hXr
      by_cases hkn : k < N
      · have hkN : (k : Int) + 1 ≤ N := by omega
        have hcv : IntKind.u64.wrap ((k : Int) + 1) = (k : Int) + 1 := IntWalk.u64_in _ (by omega)
        have h1 := hev ((k : Int) + 1) (by omega) _ _ wr (s5H.out.next hbr)
        have h2 := fun W h => in_any A8 k8 E ((k : Int) + 1) hEk W h
        rw [← hroot ((k : Int) + 1) (by omega) hkN] at h2
        have hpb := pev_bd (p := Ps) (by omega) Z ((k : Int) + 1)
        generalize pev Ps Z ((k : Int) + 1) = y at *
        cases hy : (y == 0) with
        | true =>
          rw [hy] at h2
          go_wp2_with fail
          refine h1.mono ?_; rintro e wb ⟨rfl, hb⟩
          go_wp2_with fail
          refine (h2 _ ((s8H.out.next hbr).next hb)).mono ?_; rintro e wc ⟨rfl, m, hq⟩
          have hd := below_drewN (hbr.trans (hb.mono hbr.size)) m
          rw [← hq] at hd
          clear hq
          go_wp2_with fail
          go_roundw
          case rel => exact ⟨k + 1, by omega, by simp, hd⟩
          case measure => simp [intOf]; omega
        | false =>
          rw [hy] at h2
          go_wp2_with fail
          refine h1.mono ?_; rintro e wb ⟨rfl, hb⟩
          go_wp2_with fail
          refine (h2 _ ((s8H.out.next hbr).next hb)).mono ?_; rintro e wc ⟨rfl, m, hq⟩
          have hd := below_drewN (hbr.trans (hb.mono hbr.size)) m
          rw [← hq] at hd
          clear hq
          go_wp2_with fail
          go_roundw
          case rel => exact ⟨k + 1, by omega, by simp, hd⟩
          case measure => simp [intOf]; omega
      · obtain rfl : k = N := by omega
        go_wp2
        go_ret
        exact ⟨rfl, hB3.out.trans (hbr.mono hB3.out.size)⟩

theorem lifted (os : Os) (started : os.Started) (H : Type) (enc : TypeId × Value → H) :
    ReturnsInHanded {} Try.checked os 6 .any (Rows.paramsVanishingPolynomialRootsSpec.pre6 enc Try.prog Try.f6 Rows.paramsVanishingPolynomialRootsRow.domain false) (Rows.paramsVanishingPolynomialRootsSpec.post enc Try.prog Try.f6 false true false false) := by
  refine returnsInHanded_of_change (C := Try.checked) own started (by kernel_rfl) Try.func6
    (ChangeSpec.witness6 (enc := enc) (C := Try.checked) false ⟨#[], #[.agg #[.int .u64 0, .int .i64 0, .int .i64 0], .slice none 0 0], []⟩ 8 (by kernel_rfl) (by kernel_rfl) (by kernel_rfl) (by kernel_rfl)) ?_
  intro W base args ds gs before hval0 hW hcnd _
  have hval : ∀ (j : Nat) t v, Try.f6.params[j]? = some t → args[j]? = some v → Value.okWide Try.prog W .any base t v := hval0
  have hW' := hW
  obtain ⟨p, q, hA0, hV, rfl, hfz, hnd⟩ := hW
  have hA : DataW.TrodAll enc Try.prog W 0 (fun _ => true) true Try.f6.params.toList args.toList ds p := hA0
  rw [Try.params6] at hA hval
  obtain ⟨v0, v1, d0, d1, p0, p1, rfl, rfl, rfl, t0, t1⟩ := trodAll_two hA
  obtain ⟨rfl, rfl⟩ := trodVars_none hV
  clear hA0 hval0
  simp only [List.append_nil] at hW'
  have l0 : ∀ x ∈ p0, x.block < W.heap.size := fun x hx => hW'.lt x (by simp [hx])
  obtain ⟨P0, N0, T0, rfl, b0, e0, f0⟩ := arg_pr (hval 0 24 v0 rfl rfl) t0
  have l1 : ∀ x ∈ p1, x.block < W.heap.size := fun x hx => hW'.lt x (by simp [hx])
  obtain ⟨A1, x1, c1, rfl, r1, b1⟩ := arg_si (hval 1 25 v1 rfl rfl) t1 l1
  refine (walk P0 N0 T0 A1 c1 x1 b0 e0 f0 b1 W r1).mono fun e W' ⟨he, hb⟩ => ?_
  subst he
  exact ⟨_, rfl, post_of_below (pa := p0 ++ p1) (pv := []) hW' (fun _ _ _ => (trodAll_cons_mk (shut_bool Try.underlying4 _) trodAll_mk0)) (fun sp hsp => trodAll_mk2 (stay_pr t0 hb l0 sp (fun x hx => hsp x (by simp [hx]))) (stay_si t1 hb l1 sp (fun x hx => hsp x (by simp [hx])))) (fun _ _ => rfl) (by simp)
    hb (ok_one (by kernel_rfl) rfl (okWide_bool_mk Try.underlying4 _))⟩

theorem over : Rows.paramsVanishingPolynomialRootsRow.holds Try.pinned (OpenSpec.ofChange Rows.paramsVanishingPolynomialRootsSpec) :=
  OpenClaim.holds_of_wide 6 Try.f6 rfl rfl rfl rfl rfl rfl rfl ⟨rfl, rfl, rfl, rfl, rfl⟩ rfl rfl rfl rfl rfl (by kernel_rfl) Try.func6 (by kernel_rfl)
    (of_decide_eq_true (by kernel_rfl)) (by unfold Func.isWrapper; first | (rw [if_pos (by decide +kernel)]; kernel_rfl) | (rw [if_neg (by decide +kernel)]; exact ⟨rfl, rfl⟩))
    (fun os started H enc _ => lifted os started H enc)

theorem proved : Rows.ParamsVanishingPolynomialRootsSaid := over
end Go.Proofs.Ytkkfkkicbgejaaa.paramsVanishingPolynomialRoots
