/- ValidScenario answers as the reference. No conditions. -/
import Derived.Test.YtkkfkkicbgejaaaFLaw
import Derived.Test.YtkkfkkicbgejaaaFOpn
import Derived.Test.YtkkfkkicbgejaaaFrame
namespace Go.Proofs.Ytkkfkkicbgejaaa.paramsValidScenarioMatchesReference
set_option maxRecDepth 100000
open Go.ChangeShapes Go.WideShapes Go.ChangeAt Go.RowKit PolyMath FieldMath PartyMath

set_option maxHeartbeats 4000000 in
theorem walk (P N T : Int) (Ac Ad At : Option Addr) (cc cd ct : Nat) (co : List Int) (ds : List Dv) (ts : List (List Int)) (wP : Wd P) (wN : Wi N) (wT : Wi T) (wco : Nums co) (w : World) (hL : Lie w Ac Ad At cc cd ct co ds ts) :
    Calls Try.prog 4 #[sv P N T (.slice Ac co.length cc) (.slice Ad ds.length cd) (.slice At ts.length ct)] w fun e w' => e = .returned (.bool true) ∧ Below w.heap.size w w' := by
  unfold sv
  by_cases h1 : co.length ≤ 30
  case neg =>
    have h1' : (30 : Int) < co.length := by omega
    have hB1 := Lib.hid ((Below.refl _ w).alloc (Nat.le_refl _) (.cells #[.int .u64 P, .int .i64 N, .int .i64 T, .slice Ac co.length cc, .slice Ad ds.length cd, .slice At ts.length ct] 32))
    have hX1 := Lib.hid (Sx.made w P N T (.slice Ac co.length cc) (.slice Ad ds.length cd) (.slice At ts.length ct))
    have hL1 := hL.next hB1.out
    go_enter Try.func4, Try.ntmps4
    go_wp2_with fail
    refine (awake_any _).mono ?_; rintro e w1 ⟨rfl, hb⟩
    have hX2 := hX1.out.next hb
    have hB2 := Lib.hid (hB1.out.trans (hb.mono (by simp)))
    have hL2 := hL1.next hb
    clear hb hL1
    obtain ⟨c0, c1, c2, c3, c4, c5, hlt⟩ := id hX2
    go_wp2
    go_ret
    exact ⟨rfl, hB2.out⟩
  have h1' : (co.length : Int) ≤ 30 := by omega
  by_cases h2 : ds.length ≤ 30
  case neg =>
    have h2' : (30 : Int) < ds.length := by omega
    have hB1 := Lib.hid ((Below.refl _ w).alloc (Nat.le_refl _) (.cells #[.int .u64 P, .int .i64 N, .int .i64 T, .slice Ac co.length cc, .slice Ad ds.length cd, .slice At ts.length ct] 32))
    have hX1 := Lib.hid (Sx.made w P N T (.slice Ac co.length cc) (.slice Ad ds.length cd) (.slice At ts.length ct))
    have hL1 := hL.next hB1.out
    go_enter Try.func4, Try.ntmps4
    go_wp2_with fail
    refine (awake_any _).mono ?_; rintro e w1 ⟨rfl, hb⟩
    have hX2 := hX1.out.next hb
    have hB2 := Lib.hid (hB1.out.trans (hb.mono (by simp)))
    have hL2 := hL1.next hb
    clear hb hL1
    obtain ⟨c0, c1, c2, c3, c4, c5, hlt⟩ := id hX2
    go_wp2
    go_ret
    exact ⟨rfl, hB2.out⟩
  have h2' : (ds.length : Int) ≤ 30 := by omega
  by_cases h3 : ts.length ≤ 20
  case neg =>
    have h3' : (20 : Int) < ts.length := by omega
    have hB1 := Lib.hid ((Below.refl _ w).alloc (Nat.le_refl _) (.cells #[.int .u64 P, .int .i64 N, .int .i64 T, .slice Ac co.length cc, .slice Ad ds.length cd, .slice At ts.length ct] 32))
    have hX1 := Lib.hid (Sx.made w P N T (.slice Ac co.length cc) (.slice Ad ds.length cd) (.slice At ts.length ct))
    have hL1 := hL.next hB1.out
    go_enter Try.func4, Try.ntmps4
    go_wp2_with fail
    refine (awake_any _).mono ?_; rintro e w1 ⟨rfl, hb⟩
    have hX2 := hX1.out.next hb
    have hB2 := Lib.hid (hB1.out.trans (hb.mono (by simp)))
    have hL2 := hL1.next hb
    clear hb hL1
    obtain ⟨c0, c1, c2, c3, c4, c5, hlt⟩ := id hX2
    go_wp2
    go_ret
    exact ⟨rfl, hB2.out⟩
  have h3' : (ts.length : Int) ≤ 20 := by omega
  have hf := fun (hF : Fit N T co ds ts) W h => scen_any P N T Ac Ad At cc cd ct co ds ts hF (by omega) W h
  have hr := fun (hF : Fit N T co ds ts) W h => rScen_any P N T wP Ac Ad At cc cd ct co ds ts hF W h
  unfold sv at hf hr
  have hB1 := Lib.hid ((Below.refl _ w).alloc (Nat.le_refl _) (.cells #[.int .u64 P, .int .i64 N, .int .i64 T, .slice Ac co.length cc, .slice Ad ds.length cd, .slice At ts.length ct] 32))
  have hX1 := Lib.hid (Sx.made w P N T (.slice Ac co.length cc) (.slice Ad ds.length cd) (.slice At ts.length ct))
  have hL1 := hL.next hB1.out
  go_enter Try.func4, Try.ntmps4
  go_wp2_with fail
  refine (awake_any _).mono ?_; rintro e w1 ⟨rfl, hb⟩
  have hX2 := hX1.out.next hb
  have hB2 := Lib.hid (hB1.out.trans (hb.mono (by simp)))
  have hL2 := hL1.next hb
  clear hb hL1
  obtain ⟨c0, c1, c2, c3, c4, c5, hlt⟩ := id hX2
  go_wp2
  go_loop [3] (fun i => ∃ k : Nat, k ≤ ts.length ∧ i = .int .i64 k ∧ Hid (∀ r ∈ ts.take k, r.length ≤ 300)) (fun i => ts.length - (intOf i).toNat)
  case atStart => exact ⟨0, Nat.zero_le _, rfl, Lib.hid (fun r hr => by simp at hr)⟩
  case round =>
    obtain ⟨k, hk, rfl, hE⟩ := hrel
    by_cases hkt : k < ts.length
    · obtain ⟨b, off, r, A', c', hA, hbl, hd, cr, hs⟩ := hL2.ts.at_ hkt
      subst hA
      have hkN : (k : Int) < ts.length := by omega
      generalize hrl : r.length = rl at *
      by_cases hq : rl ≤ 300
      · have hN := Lib.hid (show ∀ r ∈ ts.take (k + 1), r.length ≤ 300 from fun r' hr' => by
          rw [List.take_add_one, hd] at hr'
          rcases List.mem_append.1 hr' with h | h
          · exact hE.out r' h
          · have := List.mem_singleton.1 h; rw [this, hrl]; exact hq)
        have hq' : (rl : Int) ≤ 300 := by omega
        clear hd hrl
        go_wp2
        go_round
        case rel => exact ⟨k + 1, by omega, by simp, hN⟩
        case measure => simp [intOf]; omega
      · have hq' : (300 : Int) < rl := by omega
        clear hd hrl
        go_wp2
        go_ret
        exact ⟨rfl, hB2.out⟩
    · obtain rfl : k = ts.length := by omega
      have hF : Fit N T co ds ts := ⟨wN, wT, wco, by omega, by omega, fun r hr => by
        have := hE.out r (by rw [List.take_length]; exact hr)
        omega⟩
      have g1 : ∀ b : Beyond w1, Calls Try.prog 14 #[.agg #[.int .u64 P, .int .i64 N, .int .i64 T, .slice Ac co.length cc, .slice Ad ds.length cd, .slice At ts.length ct]] b.W fun e w'' => e = .returned (.bool (scB P N T co ds ts)) ∧ ∃ b' : Beyond w1, w'' = b'.W := fun b => b.of (hf hF b.W (hL2.next b.below))
      have g2 : ∀ b : Beyond w1, Calls Try.prog 15 #[.agg #[.int .u64 P, .int .i64 N, .int .i64 T, .slice Ac co.length cc, .slice Ad ds.length cd, .slice At ts.length ct]] b.W fun e w'' => e = .returned (.bool (scB P N T co ds ts)) ∧ ∃ b' : Beyond w1, w'' = b'.W := fun b => b.of (hr hF b.W (hL2.next b.below))
      generalize scB P N T co ds ts = q1 at *
      have e1 : (q1 == q1) = true := beq_self_eq_true q1
      have C0 := fun b : Beyond w1 => (b.below.cell (p := ⟨w.heap.size, 0, none⟩) hlt).trans c0
      have C1 := fun b : Beyond w1 => (b.below.cell (p := ⟨w.heap.size, 1, none⟩) hlt).trans c1
      have C2 := fun b : Beyond w1 => (b.below.cell (p := ⟨w.heap.size, 2, none⟩) hlt).trans c2
      have C3 := fun b : Beyond w1 => (b.below.cell (p := ⟨w.heap.size, 3, none⟩) hlt).trans c3
      have C4 := fun b : Beyond w1 => (b.below.cell (p := ⟨w.heap.size, 4, none⟩) hlt).trans c4
      have C5 := fun b : Beyond w1 => (b.below.cell (p := ⟨w.heap.size, 5, none⟩) hlt).trans c5
      have D5 := Lib.hid c5
      go_wp2_with fail
      clear c0 c1 c2 c3 c4 c5 hX2 hf hr
      refine wp_region_beyond (by kernel_rfl) (by kernel_rfl) ?_
      repeat (go_big_quiet_step (first | exact g1 _ | exact g2 _))
      refine wpQuiet_nil ?_
      rintro _ ⟨⟨w4, hb4⟩, rfl⟩
      clear C0 C1 C2 C3 C4 C5 g1 g2
      go_wp2
      go_ret
      exact ⟨by first | rfl | simp, hB2.out.trans (hb4.mono hB2.out.size)⟩

theorem lifted (os : Os) (started : os.Started) (H : Type) (enc : TypeId × Value → H) :
    ReturnsInHanded {} Try.checked os 4 .any (Rows.paramsValidScenarioMatchesReferenceSpec.pre6 enc Try.prog Try.f4 Rows.paramsValidScenarioMatchesReferenceRow.domain false) (Rows.paramsValidScenarioMatchesReferenceSpec.post enc Try.prog Try.f4 false true false false) := by
  refine returnsInHanded_of_change (C := Try.checked) own started (by kernel_rfl) Try.func4
    (ChangeSpec.witness6 (enc := enc) (C := Try.checked) false ⟨#[], #[.agg #[.int .u64 0, .int .i64 0, .int .i64 0, .slice none 0 0, .slice none 0 0, .slice none 0 0]], []⟩ 8 (by kernel_rfl) (by kernel_rfl) (by kernel_rfl) (by kernel_rfl)) ?_
  intro W base args ds gs before hval0 hW hcnd _
  have hval : ∀ (j : Nat) t v, Try.f4.params[j]? = some t → args[j]? = some v → Value.okWide Try.prog W .any base t v := hval0
  have hW' := hW
  obtain ⟨p, q, hA0, hV, rfl, hfz, hnd⟩ := hW
  have hA : DataW.TrodAll enc Try.prog W 0 (fun _ => true) true Try.f4.params.toList args.toList ds p := hA0
  rw [Try.params4] at hA hval
  obtain ⟨v0, d0, rfl, rfl, t0⟩ := trodAll_one hA
  obtain ⟨rfl, rfl⟩ := trodVars_none hV
  clear hA0 hval0
  simp only [List.append_nil] at hW'
  have l0 : ∀ x ∈ p, x.block < W.heap.size := fun x hx => hW'.lt x (by simp [hx])
  obtain ⟨P0, N0, T0, Ac0, Ad0, At0, cc0, cd0, ct0, co0, ds0, ts0, rfl, b0, e0, f0, g0, r0⟩ := arg_sc (hval 0 32 v0 rfl rfl) t0 l0
  refine (walk P0 N0 T0 Ac0 Ad0 At0 cc0 cd0 ct0 co0 ds0 ts0 b0 e0 f0 g0 W r0).mono fun e W' ⟨he, hb⟩ => ?_
  subst he
  exact ⟨_, rfl, post_of_below (pa := p) (pv := []) hW' (fun _ _ _ => (trodAll_cons_mk (shut_bool Try.underlying4 _) trodAll_mk0)) (fun sp hsp => trodAll_mk1 (stay_sc t0 hb l0 sp (fun x hx => hsp x (by simp [hx])))) (fun _ _ => rfl) (by simp)
    hb (ok_one (by kernel_rfl) rfl (okWide_bool_mk Try.underlying4 _))⟩

theorem over : Rows.paramsValidScenarioMatchesReferenceRow.holds Try.pinned (OpenSpec.ofChange Rows.paramsValidScenarioMatchesReferenceSpec) :=
  OpenClaim.holds_of_wide 4 Try.f4 rfl rfl rfl rfl rfl rfl rfl ⟨rfl, rfl, rfl, rfl, rfl⟩ rfl rfl rfl rfl rfl (by kernel_rfl) Try.func4 (by kernel_rfl)
    (of_decide_eq_true (by kernel_rfl)) (by unfold Func.isWrapper; first | (rw [if_pos (by decide +kernel)]; kernel_rfl) | (rw [if_neg (by decide +kernel)]; exact ⟨rfl, rfl⟩))
    (fun os started H enc _ => lifted os started H enc)

theorem proved : Rows.ParamsValidScenarioMatchesReferenceSaid := over
end Go.Proofs.Ytkkfkkicbgejaaa.paramsValidScenarioMatchesReference
