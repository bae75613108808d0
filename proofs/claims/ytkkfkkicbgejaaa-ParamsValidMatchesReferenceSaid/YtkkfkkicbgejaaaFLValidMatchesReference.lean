/- Valid and ValidCoalition answer as the reference. No conditions. -/
import Derived.Test.YtkkfkkicbgejaaaFLaw
import Derived.Test.YtkkfkkicbgejaaaFOpn
import Derived.Test.YtkkfkkicbgejaaaFrame
namespace Go.Proofs.Ytkkfkkicbgejaaa.paramsValidMatchesReference
set_option maxRecDepth 100000
open Go.ChangeShapes Go.WideShapes Go.ChangeAt Go.RowKit PolyMath FieldMath PartyMath

set_option maxHeartbeats 4000000 in
theorem walk (Ps Ns Ts : Int) (Al : Option Addr) (cl : Nat) (l : List Int) (wPs : Wd Ps) (wNs : Wi Ns) (wTs : Wi Ts) (wl : Nums l) (w : World) (sl : Si w Al cl l) :
    Calls Try.prog 3 #[.agg #[.int .u64 Ps, .int .i64 Ns, .int .i64 Ts], .slice Al l.length cl] w fun e w' => e = .returned (.bool true) ∧ Below w.heap.size w w' := by
  by_cases h30 : 30 < l.length
  · have h30' : (30 : Int) < l.length := by omega
    have hB1 := Lib.hid ((Below.refl _ w).alloc (Nat.le_refl _) (.cells #[.int .u64 Ps, .int .i64 Ns, .int .i64 Ts] 24))
    go_enter Try.func3, Try.ntmps3
    go_wp2_with fail
    refine (awake_any _).mono ?_; rintro e w1 ⟨rfl, hb⟩
    go_wp2_with fail
    go_ret
    exact ⟨rfl, hB1.out.trans (hb.mono (by simp))⟩
  have h30' : (l.length : Int) ≤ 30 := by omega
  have hX1 := Lib.hid (Bx.made w Ps Ns Ts)
  have hB1 := Lib.hid ((Below.refl _ w).alloc (Nat.le_refl _) (.cells #[.int .u64 Ps, .int .i64 Ns, .int .i64 Ts] 24))
  have s1l := sl.next hB1.out
  go_enter Try.func3, Try.ntmps3
  go_wp2_with fail
  refine (awake_any _).mono ?_; rintro e w1 ⟨rfl, hb⟩
  have hX2 := hX1.out.next hb
  have hB2 := Lib.hid (hB1.out.trans (hb.mono (by simp)))
  have s2l := s1l.next hb
  clear hb s1l
  have hX2' := hX2
  obtain ⟨c0, c1, c2, hlt⟩ := hX2'
  have C0 := fun b : Beyond w1 => (b.below.cell (p := ⟨w.heap.size, 0, none⟩) hlt).trans c0
  have C1 := fun b : Beyond w1 => (b.below.cell (p := ⟨w.heap.size, 1, none⟩) hlt).trans c1
  have C2 := fun b : Beyond w1 => (b.below.cell (p := ⟨w.heap.size, 2, none⟩) hlt).trans c2
  have g1 : ∀ b : Beyond w1, Calls Try.prog 10 #[pv Ps Ns Ts] b.W fun e w'' => e = .returned (.bool (vS Ps Ns Ts)) ∧ ∃ b' : Beyond w1, w'' = b'.W := fun b => b.of (valid_any Ps Ns Ts wNs b.W)
  have g2 : ∀ b : Beyond w1, Calls Try.prog 11 #[pv Ps Ns Ts] b.W fun e w'' => e = .returned (.bool (vS Ps Ns Ts)) ∧ ∃ b' : Beyond w1, w'' = b'.W := fun b => b.of (rValid_any Ps Ns Ts wPs wNs b.W)
  have g3 : ∀ b : Beyond w1, Calls Try.prog 12 #[pv Ps Ns Ts, .slice Al l.length cl] b.W fun e w'' => e = .returned (.bool (vC Ps Ns Ts l)) ∧ ∃ b' : Beyond w1, w'' = b'.W := fun b => b.of (coal_any Ps Ns Ts wNs wTs Al cl l (by omega) wl b.W (s2l.next b.below))
  have g4 : ∀ b : Beyond w1, Calls Try.prog 13 #[pv Ps Ns Ts, .slice Al l.length cl] b.W fun e w'' => e = .returned (.bool (vC Ps Ns Ts l)) ∧ ∃ b' : Beyond w1, w'' = b'.W := fun b => b.of (rCoal_any Ps Ns Ts wPs wNs wTs Al cl l wl b.W (s2l.next b.below))
  unfold pv at g1 g2 g3 g4
  generalize vS Ps Ns Ts = q1 at *
  generalize vC Ps Ns Ts l = q2 at *
  have e1 : (q1 == q1) = true := beq_self_eq_true q1
  have e2 : (q2 == q2) = true := beq_self_eq_true q2
  clear c0 c1 c2 hX2
  go_wp2_with fail
  refine wp_region_beyond (by kernel_rfl) (by kernel_rfl) ?_
  repeat (go_big_quiet_step (first | exact g1 _ | exact g2 _ | exact g3 _ | exact g4 _))
  refine wpQuiet_nil ?_
  rintro _ ⟨⟨w4, hb4⟩, rfl⟩
  clear C0 C1 C2 g1 g2 g3 g4
  go_wp2
  go_ret
  exact ⟨rfl, hB2.out.trans (hb4.mono hB2.out.size)⟩

theorem lifted (os : Os) (started : os.Started) (H : Type) (enc : TypeId × Value → H) :
    ReturnsInHanded {} Try.checked os 3 .any (Rows.paramsValidMatchesReferenceSpec.pre6 enc Try.prog Try.f3 Rows.paramsValidMatchesReferenceRow.domain false) (Rows.paramsValidMatchesReferenceSpec.post enc Try.prog Try.f3 false true false false) := by
  refine returnsInHanded_of_change (C := Try.checked) own started (by kernel_rfl) Try.func3
    (ChangeSpec.witness6 (enc := enc) (C := Try.checked) false ⟨#[], #[.agg #[.int .u64 0, .int .i64 0, .int .i64 0], .slice none 0 0], []⟩ 8 (by kernel_rfl) (by kernel_rfl) (by kernel_rfl) (by kernel_rfl)) ?_
  intro W base args ds gs before hval0 hW hcnd _
  have hval : ∀ (j : Nat) t v, Try.f3.params[j]? = some t → args[j]? = some v → Value.okWide Try.prog W .any base t v := hval0
  have hW' := hW
  obtain ⟨p, q, hA0, hV, rfl, hfz, hnd⟩ := hW
  have hA : DataW.TrodAll enc Try.prog W 0 (fun _ => true) true Try.f3.params.toList args.toList ds p := hA0
  rw [Try.params3] at hA hval
  obtain ⟨v0, v1, d0, d1, p0, p1, rfl, rfl, rfl, t0, t1⟩ := trodAll_two hA
  obtain ⟨rfl, rfl⟩ := trodVars_none hV
  clear hA0 hval0
  simp only [List.append_nil] at hW'
  have l0 : ∀ x ∈ p0, x.block < W.heap.size := fun x hx => hW'.lt x (by simp [hx])
  obtain ⟨P0, N0, T0, rfl, b0, e0, f0⟩ := arg_pr (hval 0 24 v0 rfl rfl) t0
  have l1 : ∀ x ∈ p1, x.block < W.heap.size := fun x hx => hW'.lt x (by simp [hx])
  obtain ⟨A1, x1, c1, rfl, r1, b1⟩ := arg_si (hval 1 25 v1 rfl rfl) t1 l1
  refine (walk P0 N0 T0 A1 c1 x1 b0 e0 f0 b1 W r1).mono fun e W' ⟨he, hb⟩ => ?_
  subst he
  exact ⟨_, rfl, post_of_below (pa := p0 ++ p1) (pv := []) hW' (fun _ _ _ => (trodAll_cons_mk (shut_bool Try.underlying4 _) trodAll_mk0)) (fun sp hsp => trodAll_mk2 (stay_pr t0 hb l0 sp (fun x hx => hsp x (by simp [hx]))) (stay_si t1 hb l1 sp (fun x hx => hsp x (by simp [hx])))) (fun _ _ => rfl) (by simp)
    hb (ok_one (by kernel_rfl) rfl (okWide_bool_mk Try.underlying4 _))⟩

theorem over : Rows.paramsValidMatchesReferenceRow.holds Try.pinned (OpenSpec.ofChange Rows.paramsValidMatchesReferenceSpec) :=
  OpenClaim.holds_of_wide 3 Try.f3 rfl rfl rfl rfl rfl rfl rfl ⟨rfl, rfl, rfl, rfl, rfl⟩ rfl rfl rfl rfl rfl (by kernel_rfl) Try.func3 (by kernel_rfl)
    (of_decide_eq_true (by kernel_rfl)) (by unfold Func.isWrapper; first | (rw [if_pos (by decide +kernel)]; kernel_rfl) | (rw [if_neg (by decide +kernel)]; exact ⟨rfl, rfl⟩))
    (fun os started H enc _ => lifted os started H enc)

theorem proved : Rows.ParamsValidMatchesReferenceSaid := over
end Go.Proofs.Ytkkfkkicbgejaaa.paramsValidMatchesReference
