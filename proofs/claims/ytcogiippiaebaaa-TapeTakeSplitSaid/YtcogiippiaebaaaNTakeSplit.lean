/- Two calls of Take give the words of one, or one of them fails just if the single call fails. No conditions. -/
import Derived.Test.YtcogiippiaebaaaAAwake
import Derived.Test.YtcogiippiaebaaaARTk
import Derived.Test.YtcogiippiaebaaaAGen
import Derived.Test.YtcogiippiaebaaaAGrd
import Derived.Test.YtcogiippiaebaaaOArg
import Derived.Test.YtcogiippiaebaaaFrame
namespace Go.Proofs.Ytcogiippiaebaaa.tapeTakeSplit
set_option maxRecDepth 100000
open Go.ChangeShapes Go.WideShapes Go.ChangeAt Go.RowKit FieldMath

set_option maxHeartbeats 4000000 in
theorem walk (Axs : Option Addr) (cxs : Nat) (xs : List Int) (m : Nat) (n : Nat) (_wxs : Words xs) (_wm : m ≤ 255) (_wn : n ≤ 255) (w : World) (sxs : Sl w Axs cxs xs) :
    Calls Try.prog 4 #[.slice Axs xs.length cxs, .int .u8 m, .int .u8 n] w fun e w' => e = .returned (.bool true) ∧ Below w.heap.size w w' := by
  by_cases h1 : 300 < xs.length
  · have h1' : (300 : Int) < xs.length := by omega
    go_enter Try.func4, Try.ntmps4
    go_wp2_with fail
    refine (awake_any _).mono ?_; rintro e w1 ⟨rfl, hb⟩
    go_wp2_with fail
    go_ret
    exact ⟨rfl, hb⟩
  have h1' : (xs.length : Int) ≤ 300 := by omega
  have hl1 : xs.length ≤ 1000 := by omega
  have hm' : (m : Int) ≤ 255 := by omega
  have hn' : (n : Int) ≤ 255 := by omega
  have hmz : (0 : Int) ≤ m := by omega
  have hnz : (0 : Int) ≤ n := by omega
  have hmn : ((m : Int) + n) ≤ 510 := by omega
  by_cases h2 : m + n ≤ xs.length
  · have e0 : Hid (((xs.drop 0).take m).length = m) := Lib.hid (by rw [List.length_take, List.length_drop]; omega)
    have e1 : Hid (((xs.drop (0 + m)).take n).length = n) := Lib.hid (by rw [List.length_take, List.length_drop]; omega)
    have e2 : Hid (((xs.drop 0).take (m + n)).length = m + n) := Lib.hid (by rw [List.length_take, List.length_drop]; omega)
    have e3 : Hid ((xs.drop 0).take m ++ (xs.drop (0 + m)).take n = (xs.drop 0).take (m + n)) := Lib.hid (by rw [List.drop_zero, Nat.zero_add, ← List.take_add])
    obtain ⟨i0, hi, hz0, hz1, hz2⟩ := info_parts info_u64
    have q0 := one_cells ((xs.drop 0).take m)
    have q1 := one_cells ((xs.drop (0 + m)).take n)
    go_enter Try.func4, Try.ntmps4
    go_wp2_with fail
    refine (new_any Axs cxs xs _ sxs hl1).mono ?_
    rintro e w1 ⟨b, rfl, hge, hT, hb⟩
    have hB := hb
    have hsx := sxs.next hb
    clear hb
    go_wp2_with fail
    refine (new_any Axs cxs xs _ hsx hl1).mono ?_
    rintro e w2 ⟨b2, rfl, hge2, hU, hb⟩
    have hne : b ≠ b2 := by have := hT.lt; omega
    have hge2' : w.heap.size ≤ b2 := Nat.le_trans hB.size hge2
    replace hB := hB.trans (hb.mono hB.size)
    replace hT := hT.next hb
    clear hb hsx hge2
    go_wp2_with fail
    refine (take_ok b xs 0 m _ hT hl1 (by omega)).mono ?_
    rintro e w3 ⟨A3, c3, rfl, s3, t3, hT3, hx3⟩
    obtain ⟨A0, c0, hlie, _, _⟩ := hT.lie
    replace hU := hU.ex hx3 hlie apart46 (Ne.symm hne)
    replace hB := hB.trans (hx3.below hge hB.size)
    clear hT hlie hx3
    go_wp2_with fail
    refine (take_ok b xs (0 + m) n _ hT3 hl1 (by omega)).mono ?_
    rintro e w4 ⟨A4, c4, rfl, s4, t4, hT4, hx4⟩
    obtain ⟨A0, c0, hlie, _, _⟩ := hT3.lie
    replace hU := hU.ex hx4 hlie apart46 (Ne.symm hne)
    obtain ⟨s3', t3'⟩ := s3.ex t3 hx4 hlie apart46
    replace hB := hB.trans (hx4.below hge hB.size)
    clear hT3 hlie hx4 s3 t3
    go_wp2_with fail
    refine (take_ok b2 xs 0 (m + n) _ hU hl1 (by omega)).mono ?_
    rintro e w5 ⟨A5, c5, rfl, s5, t5, hU5, hx5⟩
    obtain ⟨A0, c0, hlie, _, _⟩ := hU.lie
    replace hT4 := hT4.ex hx5 hlie apart46 hne
    obtain ⟨s3, _⟩ := s3'.ex t3' hx5 hlie apart46
    obtain ⟨s4', _⟩ := s4.ex t4 hx5 hlie apart46
    replace hB := hB.trans (hx5.below hge2' hB.size)
    clear hU hlie hx5 s3' t3' s4 t4 t5
    go_wp2_with fail
    refine (awake_any _).mono ?_
    rintro e w6 ⟨rfl, hb⟩
    replace hB := hB.trans (hb.mono hB.size)
    replace hT4 := hT4.next hb
    replace hU5 := hU5.next hb
    replace s3 := s3.next hb
    replace s4' := s4'.next hb
    replace s5 := s5.next hb
    clear hb
    have hlit := own_lit0 w6
    have p3 := Lib.hid (s3.push (.cells #[] 37))
    have hBd := (Below.refl w6.heap.size w6).alloc (Nat.le_refl _) (.cells #[] 37)
    replace s4' := Lib.hid s4'
    replace s5 := Lib.hid s5
    clear s3 q0 q1
    generalize (xs.drop 0).take m = us at *
    generalize (xs.drop (0 + m)).take n = vs at *
    generalize (xs.drop 0).take (m + n) = zs at *
    go_wp2_with (first
      | (at_builtin; refine wpList_append_sl rfl _ _ rfl w6.heap.size _ 0 m [] us rfl hlit.out A3 c3 rfl e0.out p3.out (by omega) (by simp) ?_; intro v7 w7 hown7 hgrow7; have hb7 : Below w6.heap.size w6 w7 := hBd.grown hgrow7 (by simp) (fun q e => (hlit.out.lt q e).1); have s7 := Lib.hid (s4'.out.next hb7); clear hgrow7)
      | (at_builtin; refine wpList_append_sl rfl _ _ rfl w6.heap.size v7 (0 + m) n ([] ++ us) vs rfl hown7 A4 c4 rfl e1.out s7.out (by omega) hb7.size ?_; intro v8 w8 hown8 hgrow8; have hb8 : Below w6.heap.size w6 w8 := hb7.grown hgrow8 hb7.size (fun q e => (hown7.lt q e).1); (have hown9 : w8.ownsRow w6.heap.size 37 1 v8 (0 + m + n) (zs.map (Value.int .u64)) := by rw [← e3.out]; exact hown8); obtain ⟨B8, d8, rfl, s8⟩ := own_form hown9; clear hown7 hown8 hown9 hgrow8))
    refine (same_here B8 A5 zs zs zs.length (m + n) d8 c5 _ s8 (s5.out.next hb8) rfl e2.out (by have := e2.out; omega) rfl).mono ?_
    rintro e w9 ⟨rfl, hb⟩
    replace hB := hB.trans (hb8.mono hB.size)
    replace hT4 := hT4.next hb8
    replace hU5 := hU5.next hb8
    replace hB := hB.trans (hb.mono hB.size)
    replace hT4 := hT4.next hb
    replace hU5 := hU5.next hb
    clear hb s7 s8 hb8
    go_wp2_with fail
    refine (remaining_any b xs (0 + m + n) _ hT4 hl1).mono ?_
    rintro e wa ⟨rfl, hb⟩
    replace hB := hB.trans (hb.mono hB.size)
    replace hU5 := hU5.next hb
    clear hb hT4
    go_wp2_with fail
    refine (remaining_any b2 xs (0 + (m + n)) _ hU5 hl1).mono ?_
    rintro e wb ⟨rfl, hb⟩
    replace hB := hB.trans (hb.mono hB.size)
    clear hb hU5
    have hE : ((xs.length : Int) - ((0 + m + n : Nat) : Int) == (xs.length : Int) - ((0 + (m + n) : Nat) : Int)) = true := by rw [beq_iff_eq]; omega
    go_wp2_with fail
    go_ret
    exact ⟨by first | rfl | (simp; omega), hB⟩
  have h2' : (xs.length : Int) < (m : Int) + n := by omega
  by_cases h3 : m ≤ xs.length
  · go_enter Try.func4, Try.ntmps4
    go_wp2_with fail
    refine (new_any Axs cxs xs _ sxs hl1).mono ?_
    rintro e w1 ⟨b, rfl, hge, hT, hb⟩
    have hB := hb
    have hsx := sxs.next hb
    clear hb
    go_wp2_with fail
    refine (new_any Axs cxs xs _ hsx hl1).mono ?_
    rintro e w2 ⟨b2, rfl, hge2, hU, hb⟩
    have hne : b ≠ b2 := by have := hT.lt; omega
    have hge2' : w.heap.size ≤ b2 := Nat.le_trans hB.size hge2
    replace hB := hB.trans (hb.mono hB.size)
    replace hT := hT.next hb
    clear hb hsx hge2
    go_wp2_with fail
    refine (take_ok b xs 0 m _ hT hl1 (by omega)).mono ?_
    rintro e w3 ⟨A3, c3, rfl, s3, t3, hT3, hx3⟩
    obtain ⟨A0, c0, hlie, _, _⟩ := hT.lie
    replace hU := hU.ex hx3 hlie apart46 (Ne.symm hne)
    replace hB := hB.trans (hx3.below hge hB.size)
    clear hT hlie hx3
    go_wp2_with fail
    refine (take_bad b xs (0 + m) n _ hT3 hl1 (by omega) (by omega) (.inr (by omega))).mono ?_
    rintro e w4 ⟨rfl, hb⟩
    replace hB := hB.trans (hb.mono hB.size)
    replace hT3 := hT3.next hb
    replace hU := hU.next hb
    clear hb
    go_wp2_with fail
    refine (take_bad b2 xs 0 ((m : Int) + n) _ hU hl1 (by omega) (by omega) (.inr (by omega))).mono ?_
    rintro e w5 ⟨rfl, hb⟩
    replace hB := hB.trans (hb.mono hB.size)
    replace hU := hU.next hb
    clear hb
    go_wp2_with fail
    refine (awake_any _).mono ?_
    rintro e w6 ⟨rfl, hb⟩
    replace hB := hB.trans (hb.mono hB.size)
    replace hU := hU.next hb
    clear hb
    go_wp2_with fail
    refine (consumed_any b2 xs 0 _ hU).mono ?_
    rintro e w7 ⟨rfl, rfl⟩
    go_wp2_with fail
    go_ret
    exact ⟨rfl, hB⟩
  by_cases h4 : n ≤ xs.length
  · go_enter Try.func4, Try.ntmps4
    go_wp2_with fail
    refine (new_any Axs cxs xs _ sxs hl1).mono ?_
    rintro e w1 ⟨b, rfl, hge, hT, hb⟩
    have hB := hb
    have hsx := sxs.next hb
    clear hb
    go_wp2_with fail
    refine (new_any Axs cxs xs _ hsx hl1).mono ?_
    rintro e w2 ⟨b2, rfl, hge2, hU, hb⟩
    have hne : b ≠ b2 := by have := hT.lt; omega
    have hge2' : w.heap.size ≤ b2 := Nat.le_trans hB.size hge2
    replace hB := hB.trans (hb.mono hB.size)
    replace hT := hT.next hb
    clear hb hsx hge2
    go_wp2_with fail
    refine (take_bad b xs 0 m _ hT hl1 (by omega) (by omega) (.inr (by omega))).mono ?_
    rintro e w3 ⟨rfl, hb⟩
    replace hB := hB.trans (hb.mono hB.size)
    replace hT := hT.next hb
    replace hU := hU.next hb
    clear hb
    go_wp2_with fail
    refine (take_ok b xs 0 n _ hT hl1 (by omega)).mono ?_
    rintro e w4 ⟨A4, c4, rfl, s4, t4, hT4, hx4⟩
    obtain ⟨A0, c0, hlie, _, _⟩ := hT.lie
    replace hU := hU.ex hx4 hlie apart46 (Ne.symm hne)
    replace hB := hB.trans (hx4.below hge hB.size)
    clear hT hlie hx4 s4 t4
    go_wp2_with fail
    refine (take_bad b2 xs 0 ((m : Int) + n) _ hU hl1 (by omega) (by omega) (.inr (by omega))).mono ?_
    rintro e w5 ⟨rfl, hb⟩
    replace hB := hB.trans (hb.mono hB.size)
    replace hU := hU.next hb
    clear hb
    go_wp2_with fail
    refine (awake_any _).mono ?_
    rintro e w6 ⟨rfl, hb⟩
    replace hB := hB.trans (hb.mono hB.size)
    replace hU := hU.next hb
    clear hb
    go_wp2_with fail
    refine (consumed_any b2 xs 0 _ hU).mono ?_
    rintro e w7 ⟨rfl, rfl⟩
    go_wp2_with fail
    go_ret
    exact ⟨rfl, hB⟩
  · go_enter Try.func4, Try.ntmps4
    go_wp2_with fail
    refine (new_any Axs cxs xs _ sxs hl1).mono ?_
    rintro e w1 ⟨b, rfl, hge, hT, hb⟩
    have hB := hb
    have hsx := sxs.next hb
    clear hb
    go_wp2_with fail
    refine (new_any Axs cxs xs _ hsx hl1).mono ?_
    rintro e w2 ⟨b2, rfl, hge2, hU, hb⟩
    have hne : b ≠ b2 := by have := hT.lt; omega
    have hge2' : w.heap.size ≤ b2 := Nat.le_trans hB.size hge2
    replace hB := hB.trans (hb.mono hB.size)
    replace hT := hT.next hb
    clear hb hsx hge2
    go_wp2_with fail
    refine (take_bad b xs 0 m _ hT hl1 (by omega) (by omega) (.inr (by omega))).mono ?_
    rintro e w3 ⟨rfl, hb⟩
    replace hB := hB.trans (hb.mono hB.size)
    replace hT := hT.next hb
    replace hU := hU.next hb
    clear hb
    go_wp2_with fail
    refine (take_bad b xs 0 n _ hT hl1 (by omega) (by omega) (.inr (by omega))).mono ?_
    rintro e w4 ⟨rfl, hb⟩
    replace hB := hB.trans (hb.mono hB.size)
    replace hT := hT.next hb
    replace hU := hU.next hb
    clear hb
    go_wp2_with fail
    refine (take_bad b2 xs 0 ((m : Int) + n) _ hU hl1 (by omega) (by omega) (.inr (by omega))).mono ?_
    rintro e w5 ⟨rfl, hb⟩
    replace hB := hB.trans (hb.mono hB.size)
    replace hU := hU.next hb
    clear hb
    go_wp2_with fail
    refine (awake_any _).mono ?_
    rintro e w6 ⟨rfl, hb⟩
    replace hB := hB.trans (hb.mono hB.size)
    replace hU := hU.next hb
    clear hb
    go_wp2_with fail
    refine (consumed_any b2 xs 0 _ hU).mono ?_
    rintro e w7 ⟨rfl, rfl⟩
    go_wp2_with fail
    go_ret
    exact ⟨rfl, hB⟩

theorem lifted (os : Os) (started : os.Started) (H : Type) (enc : TypeId × Value → H) :
    ReturnsInHanded {} Try.checked os 4 .any (Rows.tapeTakeSplitSpec.pre6 enc Try.prog Try.f4 Rows.tapeTakeSplitRow.domain false) (Rows.tapeTakeSplitSpec.post enc Try.prog Try.f4 false true false false) := by
  refine returnsInHanded_of_change (C := Try.checked) own started (by kernel_rfl) Try.func4
    (ChangeSpec.witness6 (enc := enc) (C := Try.checked) false ⟨#[], #[.slice none 0 0, .int .u8 0, .int .u8 0], []⟩ 8 (by kernel_rfl) (by kernel_rfl) (by kernel_rfl) (by kernel_rfl)) ?_
  intro W base args ds gs before hval0 hW hcnd _
  have hval : ∀ (j : Nat) t v, Try.f4.params[j]? = some t → args[j]? = some v → Value.okWide Try.prog W .any base t v := hval0
  have hW' := hW
  obtain ⟨p, q, hA0, hV, rfl, hfz, hnd⟩ := hW
  have hA : DataW.TrodAll enc Try.prog W 0 (fun _ => true) true Try.f4.params.toList args.toList ds p := hA0
  rw [Try.params4] at hA hval
  obtain ⟨v0, v1, v2, d0, d1, d2, p0, p1, p2, rfl, rfl, rfl, t0, t1, t2⟩ := trodAll_three hA
  obtain ⟨rfl, rfl⟩ := trodVars_none hV
  clear hA0 hval0
  simp only [List.append_nil] at hW'
  have l0 : ∀ x ∈ p0, x.block < W.heap.size := fun x hx => hW'.lt x (by simp [hx])
  obtain ⟨A0, x0, c0, rfl, r0, b0⟩ := arg_sl (hval 0 22 v0 rfl rfl) t0 l0
  have l1 : ∀ x ∈ p1, x.block < W.heap.size := fun x hx => hW'.lt x (by simp [hx])
  obtain ⟨x1, rfl, b1⟩ := arg_u8 (hval 1 5 v1 rfl rfl) t1
  have l2 : ∀ x ∈ p2, x.block < W.heap.size := fun x hx => hW'.lt x (by simp [hx])
  obtain ⟨x2, rfl, b2⟩ := arg_u8 (hval 2 5 v2 rfl rfl) t2
  refine (walk A0 c0 x0 x1 x2 b0 b1 b2 W r0).mono fun e W' ⟨he, hb⟩ => ?_
  subst he
  exact ⟨_, rfl, post_of_below (pa := p0 ++ (p1 ++ p2)) (pv := []) hW' (fun _ _ _ => (trodAll_cons_mk (shut_bool Try.underlying4 _) trodAll_mk0)) (fun sp hsp => trodAll_mk3 (stays t0 hb l0 sp (fun x hx => hsp x (by simp [hx]))) (stay_u8 t1 hb l1 sp (fun x hx => hsp x (by simp [hx]))) (stay_u8 t2 hb l2 sp (fun x hx => hsp x (by simp [hx])))) (fun _ _ => rfl) (by simp)
    hb (ok_one (by kernel_rfl) rfl (okWide_bool_mk Try.underlying4 _))⟩

theorem over : Rows.tapeTakeSplitRow.holds Try.pinned (OpenSpec.ofChange Rows.tapeTakeSplitSpec) :=
  OpenClaim.holds_of_wide 4 Try.f4 rfl rfl rfl rfl rfl rfl rfl ⟨rfl, rfl, rfl, rfl, rfl⟩ rfl rfl rfl rfl rfl (by kernel_rfl) Try.func4 (by kernel_rfl)
    (of_decide_eq_true (by kernel_rfl)) (by unfold Func.isWrapper; first | (rw [if_pos (by decide +kernel)]; kernel_rfl) | (rw [if_neg (by decide +kernel)]; exact ⟨rfl, rfl⟩))
    (fun os started H enc _ => lifted os started H enc)

theorem proved : Rows.TapeTakeSplitSaid := over
end Go.Proofs.Ytcogiippiaebaaa.tapeTakeSplit
