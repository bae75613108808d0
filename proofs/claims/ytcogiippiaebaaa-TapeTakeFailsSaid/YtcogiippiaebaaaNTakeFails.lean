/- A call of Take that fails consumes nothing. No conditions. -/
import Derived.Test.YtcogiippiaebaaaAAwake
import Derived.Test.YtcogiippiaebaaaARTk
import Derived.Test.YtcogiippiaebaaaAGen
import Derived.Test.YtcogiippiaebaaaAGrd
import Derived.Test.YtcogiippiaebaaaOArg
import Derived.Test.YtcogiippiaebaaaFrame
namespace Go.Proofs.Ytcogiippiaebaaa.tapeTakeFails
set_option maxRecDepth 100000
open Go.ChangeShapes Go.WideShapes Go.ChangeAt Go.RowKit FieldMath

set_option maxHeartbeats 4000000 in
theorem walk (Axs : Option Addr) (cxs : Nat) (xs : List Int) (m : Nat) (n : Nat) (_wxs : Words xs) (_wm : m ≤ 255) (_wn : n ≤ 65535) (w : World) (sxs : Sl w Axs cxs xs) :
    Calls Try.prog 5 #[.slice Axs xs.length cxs, .int .u8 m, .int .u16 n] w fun e w' => e = .returned (.bool true) ∧ Below w.heap.size w w' := by
  by_cases h1 : 300 < xs.length
  · have h1' : (300 : Int) < xs.length := by omega
    go_enter Try.func5, Try.ntmps5
    go_wp2_with fail
    refine (awake_any _).mono ?_; rintro e w1 ⟨rfl, hb⟩
    go_wp2_with fail
    go_ret
    exact ⟨rfl, hb⟩
  by_cases h2 : xs.length = 0
  · have h1' : ¬ (300 : Int) < xs.length := by omega
    have h2' : ((xs.length : Int) == 0) = true := by rw [beq_iff_eq]; omega
    go_enter Try.func5, Try.ntmps5
    go_wp2_with fail
    refine (awake_any _).mono ?_; rintro e w1 ⟨rfl, hb⟩
    go_wp2_with fail
    go_ret
    exact ⟨rfl, hb⟩
  have h1' : (xs.length : Int) ≤ 300 := by omega
  have h2' : ((xs.length : Int) == 0) = false := beq_eq_false_iff_ne.2 (by omega)
  have h2p : (0 : Int) < xs.length := by omega
  have hl1 : xs.length ≤ 1000 := by omega
  have hm' : (m : Int) ≤ 255 := by omega
  have hn' : (n : Int) ≤ 65535 := by omega
  have hmz : (0 : Int) ≤ m := by omega
  have hnz : (0 : Int) ≤ n := by omega
  obtain ⟨a, ha, hae⟩ : ∃ a : Nat, a < xs.length ∧ (m : Int) % xs.length = a := by
    have h3 := Int.emod_nonneg (m : Int) (show (xs.length : Int) ≠ 0 by omega)
    have h4 := Int.emod_lt_of_pos (m : Int) h2p
    exact ⟨((m : Int) % xs.length).toNat, by omega, by omega⟩
  have haz : (a : Int) < xs.length := by omega
  go_enter Try.func5, Try.ntmps5
  go_wp2_with fail
  refine (new_any Axs cxs xs _ sxs hl1).mono ?_
  rintro e w1 ⟨b, rfl, hge, hT, hb⟩
  have hB := hb
  clear hb
  go_wp2_with fail
  refine (take_ok b xs 0 a _ hT hl1 (by omega)).mono ?_
  rintro e w2 ⟨A2, c2, rfl, s2, t2, hT2, hx2⟩
  replace hB := hB.trans (hx2.below hge hB.size)
  clear hx2 hT s2 t2
  rw [Nat.zero_add] at hT2
  go_wp2_with fail
  refine (take_bad b xs a ((xs.length : Int) - a + 1 + n) _ hT2 hl1 (by omega) (by omega) (.inr (by omega))).mono ?_
  rintro e w3 ⟨rfl, hb⟩
  replace hB := hB.trans (hb.mono hB.size)
  replace hT2 := hT2.next hb
  clear hb
  go_wp2_with fail
  refine (take_bad b xs a (-1 - n) _ hT2 hl1 (by omega) (by omega) (.inl (by omega))).mono ?_
  rintro e w4 ⟨rfl, hb⟩
  replace hB := hB.trans (hb.mono hB.size)
  replace hT2 := hT2.next hb
  clear hb
  go_wp2_with fail
  refine (take_ok b xs a 1 _ hT2 hl1 (by omega)).mono ?_
  rintro e w5 ⟨A5, c5, rfl, s5, t5, hT5, hx5⟩
  replace hB := hB.trans (hx5.below hge hB.size)
  obtain ⟨b5, o5, y, hA5, hb5, hy, hc5⟩ := s5.at_ (k := 0) (by rw [List.length_take, List.length_drop]; omega)
  obtain ⟨bx, ox, y', hAx, hbx, hy', hcx0⟩ := sxs.at_ ha
  have hyy : y' = y := by
    rw [List.getElem?_take, if_pos (by omega), List.getElem?_drop, Nat.add_zero, hy'] at hy
    injection hy
  subst hyy hA5 hAx
  have hcx := (hB.cell (p := ⟨bx, ox + a, none⟩) hbx).trans hcx0
  have hbx5 := Nat.lt_of_lt_of_le hbx hB.size
  have hc1 := s5.cap
  have hc1' : (1 : Int) ≤ c5 := by rw [List.length_take, List.length_drop] at hc1; omega
  rw [Nat.add_zero] at hc5
  clear hx5 hT2 s5 t5 hT5 hy hy' hcx0 hc1
  go_wp2_with fail
  go_region_held3 (fun w' => w'.cell? ⟨b5, o5, none⟩ = some (.int .u64 y') ∧ w'.cell? ⟨bx, ox + a, none⟩ = some (.int .u64 y'))
    (first | (refine ⟨?_, ?_⟩ <;> assumption) | exact ⟨hc5, hcx⟩)
    (first | (go_at_call 8; (with_reducible refine (awake_any _).mono ?_); rintro e w6 ⟨rfl, hb⟩; have g5 := (hb.cell (p := ⟨b5, o5, none⟩) hb5).trans hc5; have gx := (hb.cell (p := ⟨bx, ox + a, none⟩) hbx5).trans hcx; have hB6 := hB.drew.trans (hb.mono hB.size)))
  all_goals
    go_wp2_with fail
    go_ret
    exact ⟨rfl, hB6⟩

theorem lifted (os : Os) (started : os.Started) (H : Type) (enc : TypeId × Value → H) :
    ReturnsInHanded {} Try.checked os 5 .any (Rows.tapeTakeFailsSpec.pre6 enc Try.prog Try.f5 Rows.tapeTakeFailsRow.domain false) (Rows.tapeTakeFailsSpec.post enc Try.prog Try.f5 false true false false) := by
  refine returnsInHanded_of_change (C := Try.checked) own started (by kernel_rfl) Try.func5
    (ChangeSpec.witness6 (enc := enc) (C := Try.checked) false ⟨#[], #[.slice none 0 0, .int .u8 0, .int .u16 0], []⟩ 8 (by kernel_rfl) (by kernel_rfl) (by kernel_rfl) (by kernel_rfl)) ?_
  intro W base args ds gs before hval0 hW hcnd _
  have hval : ∀ (j : Nat) t v, Try.f5.params[j]? = some t → args[j]? = some v → Value.okWide Try.prog W .any base t v := hval0
  have hW' := hW
  obtain ⟨p, q, hA0, hV, rfl, hfz, hnd⟩ := hW
  have hA : DataW.TrodAll enc Try.prog W 0 (fun _ => true) true Try.f5.params.toList args.toList ds p := hA0
  rw [Try.params5] at hA hval
  obtain ⟨v0, v1, v2, d0, d1, d2, p0, p1, p2, rfl, rfl, rfl, t0, t1, t2⟩ := trodAll_three hA
  obtain ⟨rfl, rfl⟩ := trodVars_none hV
  clear hA0 hval0
  simp only [List.append_nil] at hW'
  have l0 : ∀ x ∈ p0, x.block < W.heap.size := fun x hx => hW'.lt x (by simp [hx])
  obtain ⟨A0, x0, c0, rfl, r0, b0⟩ := arg_sl (hval 0 22 v0 rfl rfl) t0 l0
  have l1 : ∀ x ∈ p1, x.block < W.heap.size := fun x hx => hW'.lt x (by simp [hx])
  obtain ⟨x1, rfl, b1⟩ := arg_u8 (hval 1 5 v1 rfl rfl) t1
  have l2 : ∀ x ∈ p2, x.block < W.heap.size := fun x hx => hW'.lt x (by simp [hx])
  obtain ⟨x2, rfl, b2⟩ := arg_u16 (hval 2 36 v2 rfl rfl) t2
  refine (walk A0 c0 x0 x1 x2 b0 b1 b2 W r0).mono fun e W' ⟨he, hb⟩ => ?_
  subst he
  exact ⟨_, rfl, post_of_below (pa := p0 ++ (p1 ++ p2)) (pv := []) hW' (fun _ _ _ => (trodAll_cons_mk (shut_bool Try.underlying4 _) trodAll_mk0)) (fun sp hsp => trodAll_mk3 (stays t0 hb l0 sp (fun x hx => hsp x (by simp [hx]))) (stay_u8 t1 hb l1 sp (fun x hx => hsp x (by simp [hx]))) (stay_u16 t2 hb l2 sp (fun x hx => hsp x (by simp [hx])))) (fun _ _ => rfl) (by simp)
    hb (ok_one (by kernel_rfl) rfl (okWide_bool_mk Try.underlying4 _))⟩

theorem over : Rows.tapeTakeFailsRow.holds Try.pinned (OpenSpec.ofChange Rows.tapeTakeFailsSpec) :=
  OpenClaim.holds_of_wide 5 Try.f5 rfl rfl rfl rfl rfl rfl rfl ⟨rfl, rfl, rfl, rfl, rfl⟩ rfl rfl rfl rfl rfl (by kernel_rfl) Try.func5 (by kernel_rfl)
    (of_decide_eq_true (by kernel_rfl)) (by unfold Func.isWrapper; first | (rw [if_pos (by decide +kernel)]; kernel_rfl) | (rw [if_neg (by decide +kernel)]; exact ⟨rfl, rfl⟩))
    (fun os started H enc _ => lifted os started H enc)

theorem proved : Rows.TapeTakeFailsSaid := over
end Go.Proofs.Ytcogiippiaebaaa.tapeTakeFails
