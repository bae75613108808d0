/- Any calls of Take answer as the reference does, and so do Remaining and Consumed. No conditions. -/
import Derived.Test.YtcogiippiaebaaaAAwake
import Derived.Test.YtcogiippiaebaaaARTk
import Derived.Test.YtcogiippiaebaaaAGen
import Derived.Test.YtcogiippiaebaaaAGrd
import Derived.Test.YtcogiippiaebaaaOArg
import Derived.Test.YtcogiippiaebaaaFrame
namespace Go.Proofs.Ytcogiippiaebaaa.tapeTake
set_option maxRecDepth 100000
open Go.ChangeShapes Go.WideShapes Go.ChangeAt Go.RowKit FieldMath

set_option maxHeartbeats 4000000 in
theorem walk (Axs : Option Addr) (cxs : Nat) (xs : List Int) (Al : Option Addr) (cl : Nat) (l : List Int) (_wxs : Words xs) (wl : Nums l) (w : World) (sxs : Sl w Axs cxs xs) (sl : Si w Al cl l) :
    Calls Try.prog 3 #[.slice Axs xs.length cxs, .slice Al l.length cl] w fun e w' => e = .returned (.bool true) ∧ Below w.heap.size w w' := by
  by_cases h1 : 300 < xs.length
  · have h1' : (300 : Int) < xs.length := by omega
    go_enter Try.func3, Try.ntmps3
    go_wp2_with fail
    refine (awake_any _).mono ?_; rintro e w1 ⟨rfl, hb⟩
    go_wp2_with fail
    go_ret
    exact ⟨rfl, hb⟩
  by_cases h2 : 50 < l.length
  · have h2' : (50 : Int) < l.length := by omega
    have h1' : ¬ (300 : Int) < xs.length := by omega
    go_enter Try.func3, Try.ntmps3
    go_wp2_with fail
    refine (awake_any _).mono ?_; rintro e w1 ⟨rfl, hb⟩
    go_wp2_with fail
    go_ret
    exact ⟨rfl, hb⟩
  have h1' : (xs.length : Int) ≤ 300 := by omega
  have h2' : (l.length : Int) ≤ 50 := by omega
  go_enter Try.func3, Try.ntmps3
  go_wp2_with fail
  refine (new_any Axs cxs xs _ sxs (by omega)).mono ?_
  rintro e w1 ⟨b, rfl, hge, hT, hb⟩
  have hB := hb
  replace sxs := sxs.next hb
  clear hb
  go_wp2_with fail
  refine (rNew_any Axs cxs xs _ sxs (by omega)).mono ?_
  rintro e w2 ⟨b2, rfl, hge2, hU, hb⟩
  have hne : b ≠ b2 := by have := hT.lt; omega
  have hge2' : w.heap.size ≤ b2 := Nat.le_trans hB.size hge2
  replace hB := hB.trans (hb.mono hB.size)
  replace hT := hT.next hb
  clear hb sxs hge2
  have hl1 : xs.length ≤ 1000 := by omega
  go_wp2_with fail
  go_loopw [7, 8, 9, 10, 11] (fun i _ _ _ _ wr => ∃ j k : Nat, j ≤ l.length ∧ i = .int .i64 j ∧ Tp 46 wr b xs k ∧ Tp 48 wr b2 xs k ∧ Below w.heap.size w wr ) (fun i _ _ _ _ _ => l.length - (intOf i).toNat)
  case atStart => exact ⟨0, 0, Nat.zero_le _, rfl, hT, hU, hB⟩
  case round =>
    obtain ⟨j, k, hj, rfl, hT, hU, hB⟩ := hrel
    by_cases hlt : j < l.length
    · obtain ⟨bl, ol, x, hA, hbl, hx, hcw⟩ := sl.at_ hlt
      subst hA
      have hxb := wl x (List.mem_of_getElem? hx)
      have hj' : (j : Int) < l.length := by omega
      have hkl := hT.le
      have hc := (hB.cell (p := ⟨bl, ol + j, none⟩) hbl).trans hcw
      clear hx
      by_cases hok : 0 ≤ x ∧ x ≤ (xs.length : Int) - k
      · obtain ⟨m, rfl⟩ : ∃ m : Nat, x = m := ⟨x.toNat, by omega⟩
        have hm : k + m ≤ xs.length := by omega
        have hL : Hid (((xs.drop k).take m).length = m) := Lib.hid (by rw [List.length_take, List.length_drop]; omega)
        clear hok hxb
        go_wp2_with fail
        refine (take_ok b xs k m _ hT hl1 hm).mono ?_
        rintro e w3 ⟨A3, c3, rfl, s3, t3, hT3, hx3⟩
        obtain ⟨A0, c0, hlie, _, _⟩ := hT.lie
        replace hU := hU.ex hx3 hlie apart46 (Ne.symm hne)
        replace hB := hB.trans (hx3.below hge hB.size)
        replace hc := (hB.cell (p := ⟨bl, ol + j, none⟩) hbl).trans hcw
        clear hT hlie hx3
        go_wp2_with fail
        refine (rTake_ok b2 xs k m _ hU hl1 hm).mono ?_
        rintro e w4 ⟨A4, c4, rfl, s4, t4, hU4, hx4⟩
        obtain ⟨A0, c0, hlie, _, _⟩ := hU.lie
        replace hT3 := hT3.ex hx4 hlie apart48 hne
        obtain ⟨s3', _⟩ := s3.ex t3 hx4 hlie apart48
        replace hB := hB.trans (hx4.below hge2' hB.size)
        clear hU hlie hx4 hc
        go_wp2_with fail
        refine (same_here _ _ _ _ m m _ _ _ s3' s4 hL.out hL.out (by omega) rfl).mono ?_
        rintro e w5 ⟨rfl, hb⟩
        replace hB := hB.trans (hb.mono hB.size)
        replace hT3 := hT3.next hb
        replace hU4 := hU4.next hb
        clear hb s3 s3' s4 t3 t4
        go_wp2_with fail
        refine (remaining_any b xs (k + m) _ hT3 hl1).mono ?_
        rintro e w6 ⟨rfl, hb⟩
        replace hB := hB.trans (hb.mono hB.size)
        replace hT3 := hT3.next hb
        replace hU4 := hU4.next hb
        clear hb
        go_wp2_with fail
        refine (rRemaining_any b2 xs (k + m) _ hU4 hl1).mono ?_
        rintro e w7 ⟨rfl, hb⟩
        replace hB := hB.trans (hb.mono hB.size)
        replace hT3 := hT3.next hb
        replace hU4 := hU4.next hb
        clear hb
        go_wp2_with fail
        refine (consumed_any b xs (k + m) _ hT3).mono ?_
        rintro e w8 ⟨rfl, rfl⟩
        go_wp2_with fail
        refine (rConsumed_any b2 xs (k + m) _ hU4).mono ?_
        rintro e w9 ⟨rfl, rfl⟩
        go_wp2_with fail
        go_roundw
        case rel => exact ⟨j + 1, k + m, by omega, by simp, hT3, hU4, hB⟩
        case measure => simp [intOf]; omega
      · have hbad : x < 0 ∨ (xs.length : Int) - k < x := by omega
        clear hok
        go_wp2_with fail
        refine (take_bad b xs k x _ hT hl1 hxb.1 hxb.2 hbad).mono ?_
        rintro e w3 ⟨rfl, hb⟩
        replace hB := hB.trans (hb.mono hB.size)
        replace hT := hT.next hb
        replace hU := hU.next hb
        replace hc := (hB.cell (p := ⟨bl, ol + j, none⟩) hbl).trans hcw
        clear hb
        go_wp2_with fail
        refine (rTake_bad b2 xs k x _ hU hl1 hxb.1 hxb.2 hbad).mono ?_
        rintro e w4 ⟨rfl, hb⟩
        replace hB := hB.trans (hb.mono hB.size)
        replace hT := hT.next hb
        replace hU := hU.next hb
        clear hb hc
        go_wp2_with fail
        refine (same_here none none [] [] 0 0 0 0 _ (Sl.nothing _) (Sl.nothing _) rfl rfl (by omega) rfl).mono ?_
        rintro e w5 ⟨rfl, hb⟩
        replace hB := hB.trans (hb.mono hB.size)
        replace hT := hT.next hb
        replace hU := hU.next hb
        clear hb
        go_wp2_with fail
        refine (remaining_any b xs k _ hT hl1).mono ?_
        rintro e w6 ⟨rfl, hb⟩
        replace hB := hB.trans (hb.mono hB.size)
        replace hT := hT.next hb
        replace hU := hU.next hb
        clear hb
        go_wp2_with fail
        refine (rRemaining_any b2 xs k _ hU hl1).mono ?_
        rintro e w7 ⟨rfl, hb⟩
        replace hB := hB.trans (hb.mono hB.size)
        replace hT := hT.next hb
        replace hU := hU.next hb
        clear hb
        go_wp2_with fail
        refine (consumed_any b xs k _ hT).mono ?_
        rintro e w8 ⟨rfl, rfl⟩
        go_wp2_with fail
        refine (rConsumed_any b2 xs k _ hU).mono ?_
        rintro e w9 ⟨rfl, rfl⟩
        go_wp2_with fail
        go_roundw
        case rel => exact ⟨j + 1, k, by omega, by simp, hT, hU, hB⟩
        case measure => simp [intOf]; omega
    · obtain rfl : j = l.length := by omega
      have hkl := hT.le
      clear hU
      go_wp2_with fail
      refine (awake_any _).mono ?_
      rintro e w3 ⟨rfl, hb⟩
      replace hB := hB.trans (hb.mono hB.size)
      replace hT := hT.next hb
      clear hb
      go_wp2_with fail
      refine (remaining_any b xs k _ hT hl1).mono ?_
      rintro e w4 ⟨rfl, hb⟩
      replace hB := hB.trans (hb.mono hB.size)
      replace hT := hT.next hb
      clear hb
      go_wp2_with fail
      refine (consumed_any b xs k _ hT).mono ?_
      rintro e w5 ⟨rfl, rfl⟩
      go_wp2_with fail
      go_ret
      exact ⟨by simp, hB⟩

theorem lifted (os : Os) (started : os.Started) (H : Type) (enc : TypeId × Value → H) :
    ReturnsInHanded {} Try.checked os 3 .any (Rows.tapeTakeSpec.pre6 enc Try.prog Try.f3 Rows.tapeTakeRow.domain false) (Rows.tapeTakeSpec.post enc Try.prog Try.f3 false true false false) := by
  refine returnsInHanded_of_change (C := Try.checked) own started (by kernel_rfl) Try.func3
    (ChangeSpec.witness6 (enc := enc) (C := Try.checked) false ⟨#[], #[.slice none 0 0, .slice none 0 0], []⟩ 8 (by kernel_rfl) (by kernel_rfl) (by kernel_rfl) (by kernel_rfl)) ?_
  intro W base args ds gs before hval0 hW hcnd _
  have hval : ∀ (j : Nat) t v, Try.f3.params[j]? = some t → args[j]? = some v → Value.okWide Try.prog W .any base t v := hval0
  have hW' := hW
  obtain ⟨p, q, hA0, hV, rfl, hfz, hnd⟩ := hW
  have hA : DataW.TrodAll enc Try.prog W 0 (fun _ => true) true Try.f3.params.toList args.toList ds p := hA0
  rw [Try.params3] at hA hval
  obtain ⟨v0, v1, d0, d1, p0, p1, rfl, rfl, rfl, t0, t1⟩ := trodAll_two hA
  obtain ⟨rfl, rfl⟩ := trodVars_none hV
  clear hA0 hval0
  simp only [List.append_nil] at hW'
  have l0 : ∀ x ∈ p0, x.block < W.heap.size := fun x hx => hW'.lt x (by simp [hx])
  obtain ⟨A0, x0, c0, rfl, r0, b0⟩ := arg_sl (hval 0 22 v0 rfl rfl) t0 l0
  have l1 : ∀ x ∈ p1, x.block < W.heap.size := fun x hx => hW'.lt x (by simp [hx])
  obtain ⟨A1, x1, c1, rfl, r1, b1⟩ := arg_si (hval 1 23 v1 rfl rfl) t1 l1
  refine (walk A0 c0 x0 A1 c1 x1 b0 b1 W r0 r1).mono fun e W' ⟨he, hb⟩ => ?_
  subst he
  exact ⟨_, rfl, post_of_below (pa := p0 ++ p1) (pv := []) hW' (fun _ _ _ => (trodAll_cons_mk (shut_bool Try.underlying4 _) trodAll_mk0)) (fun sp hsp => trodAll_mk2 (stays t0 hb l0 sp (fun x hx => hsp x (by simp [hx]))) (stay_si t1 hb l1 sp (fun x hx => hsp x (by simp [hx])))) (fun _ _ => rfl) (by simp)
    hb (ok_one (by kernel_rfl) rfl (okWide_bool_mk Try.underlying4 _))⟩

theorem over : Rows.tapeTakeRow.holds Try.pinned (OpenSpec.ofChange Rows.tapeTakeSpec) :=
  OpenClaim.holds_of_wide 3 Try.f3 rfl rfl rfl rfl rfl rfl rfl ⟨rfl, rfl, rfl, rfl, rfl⟩ rfl rfl rfl rfl rfl (by kernel_rfl) Try.func3 (by kernel_rfl)
    (of_decide_eq_true (by kernel_rfl)) (by unfold Func.isWrapper; first | (rw [if_pos (by decide +kernel)]; kernel_rfl) | (rw [if_neg (by decide +kernel)]; exact ⟨rfl, rfl⟩))
    (fun os started H enc _ => lifted os started H enc)

theorem proved : Rows.TapeTakeSaid := over
end Go.Proofs.Ytcogiippiaebaaa.tapeTake
