/- BitsToUintRoundTrip: for every slice of words, ToUint of package bits answers as the reference does, and FromUint gives back a bit vector. No conditions. -/
import Derived.Test.YtcjibadnhhnpmaaBOpen
namespace Go.Proofs.Ytcjibadnhhnpmaa.bitsToUintRoundTrip
open Go.ChangeShapes Go.WideShapes Go.ChangeAt Go.RowKit BitMath

set_option maxRecDepth 100000 in
set_option maxHeartbeats 1000000 in
theorem walk (A : Option Addr) (c : Nat) (b : List Int) (hw : Words b) (w : World) (hr : Rd w.heap.size w A b) :
    Calls Try.prog 4 #[.slice A b.length c] w fun e w' => e = .returned (.bool true) ∧ Below w.heap.size w w' := by
  have hpos : ∀ x ∈ b, 0 ≤ x := fun x hx => (hw x hx).1
  rcases Nat.lt_or_ge 100 b.length with hl | hl
  · have hl' : (100 : Int) < b.length := by omega
    go_enter Try.func4, Try.ntmps4
    go_wp2_with fail
    refine (awake_any _).mono ?_; rintro e w1 ⟨rfl, hB⟩
    go_wp2_with fail
    go_ret
    exact ⟨rfl, hB⟩
  · have hl' : (b.length : Int) ≤ 100 := by omega
    have hT := fun A c B w h => toUint_any A b c B w h hpos
    have hS := fun A c B w h => rToUint_any A b c B w h hpos
    by_cases hg : b.length ≤ 60 ∧ isBits b = true
    · obtain ⟨e1, e2⟩ := tu_good hg
      rw [e1, e2] at hT hS
      clear e1 e2
      have hb := (isBits_iff hpos).1 hg.2
      have a1 := val_nonneg hb
      have a2 := val_lt hb
      have a3 : val b ≤ 18446744073709551615 := by have := Int.lt_of_lt_of_le a2 (p2le hg.1); rw [show (2 : Int) ^ 60 = 1152921504606846976 from by decide] at this; omega
      by_cases hz : b.length = 0
      · have hZ := Lib.hid hz
        clear hz
        go_enter Try.func4, Try.ntmps4
        go_wp2_with fail
        refine (awake_any _).mono ?_; rintro e w1 ⟨rfl, hB⟩
        replace hr := hr.next hB
        go_wp2_with fail
        refine (hT _ _ _ _ hr).mono ?_; rintro e w2 ⟨rfl, rfl⟩
        go_wp2_with fail
        refine (hS _ _ _ _ hr).mono ?_; rintro e w2 ⟨rfl, rfl⟩
        have hz' : (b.length : Int) = 0 := by rw [hZ.out]; rfl
        go_wp2_with fail
        go_ret
        exact ⟨rfl, hB⟩
      · have hz' : ¬ (b.length : Int) = 0 := by omega
        have hfit : fits (val b) b.length := ⟨by omega, by omega, (widI_le a1 (by omega)).2 a2⟩
        have hF := fun w => from_good (val b) b.length a1 a3 hfit w
        rw [digs_val hb] at hF
        clear a1 a2 a3 hfit
        go_enter Try.func4, Try.ntmps4
        go_wp2_with fail
        refine (awake_any _).mono ?_; rintro e w1 ⟨rfl, hB⟩
        replace hr := hr.next hB
        go_wp2_with fail
        refine (hT _ _ _ _ hr).mono ?_; rintro e w2 ⟨rfl, rfl⟩
        go_wp2_with fail
        refine (hS _ _ _ _ hr).mono ?_; rintro e w2 ⟨rfl, rfl⟩
        go_wp2_with fail
        refine (hF _).mono ?_; rintro e w2 ⟨A2, c2, rfl, hR2, hb2⟩
        replace hr := hr.next hb2
        replace hB := hB.trans (hb2.mono hB.size)
        clear hb2
        go_wp2_with fail
        refine (same_is _ _ b b _ _ _ hr hR2 (by omega) rfl).mono ?_; rintro e w3 ⟨rfl, hb3⟩
        replace hB := hB.trans (hb3.mono hB.size)
        clear hb3
        go_wp2_with fail
        go_ret
        exact ⟨rfl, hB⟩
    · obtain ⟨e1, e2⟩ := tu_bad hg
      rw [e1, e2] at hT hS
      clear e1 e2
      go_enter Try.func4, Try.ntmps4
      go_wp2_with fail
      refine (awake_any _).mono ?_; rintro e w1 ⟨rfl, hB⟩
      replace hr := hr.next hB
      go_wp2_with fail
      refine (hT _ _ _ _ hr).mono ?_; rintro e w2 ⟨rfl, rfl⟩
      go_wp2_with fail
      refine (hS _ _ _ _ hr).mono ?_; rintro e w2 ⟨rfl, rfl⟩
      go_wp2_with fail
      go_ret
      exact ⟨rfl, hB⟩

set_option maxRecDepth 100000 in
theorem lifted (os : Os) (started : os.Started) (H : Type) (enc : TypeId × Value → H) :
    ReturnsInHanded {} Try.checked os 4 .any (Rows.bitsToUintRoundTripSpec.pre6 enc Try.prog Try.f4 Rows.bitsToUintRoundTripRow.domain false) (Rows.bitsToUintRoundTripSpec.post enc Try.prog Try.f4 false true false false) := by
  refine returnsInHanded_of_change (C := Try.checked) own started (by kernel_rfl) Try.func4
    (ChangeSpec.witness6 (enc := enc) (C := Try.checked) false ⟨#[], #[.slice none 0 0], []⟩ 8 (by kernel_rfl) (by kernel_rfl) (by kernel_rfl) (by kernel_rfl)) ?_
  intro W base args ds gs before hval0 hW hcnd _
  have hval : ∀ (j : Nat) t v, Try.f4.params[j]? = some t → args[j]? = some v → Value.okWide Try.prog W .any base t v := hval0
  have hW' := hW
  obtain ⟨p, q, hA0, hV, rfl, hfz, hnd⟩ := hW
  have hA : DataW.TrodAll enc Try.prog W 0 (fun _ => true) true Try.f4.params.toList args.toList ds p := hA0
  rw [Try.params4] at hA hval
  obtain ⟨v0, d0, rfl, rfl, h0⟩ := trodAll_one hA
  obtain ⟨rfl, rfl⟩ := trodVars_none hV
  clear hA0 hval0
  simp only [List.append_nil] at hW'
  have l0 : ∀ x ∈ p, x.block < W.heap.size := fun x hx => hW'.lt x (by simp [hx])
  obtain ⟨A0, x0, c0, rfl, r0, b0⟩ := open_words (hval 0 24 v0 rfl rfl) h0 l0
  refine (walk A0 c0 x0 b0 W r0).mono fun e W' ⟨he, hb⟩ => ?_
  subst he
  exact ⟨_, rfl, post_of_below (pa := p) (pv := []) hW' (fun _ _ _ => (trodAll_cons_mk (shut_bool Try.underlying4 _) trodAll_mk0)) (fun sp hsp => trodAll_mk1 (stays h0 hb l0 sp (fun x hx => hsp x (by simp [hx])))) (fun _ _ => rfl) (by simp)
    hb (ok_one (by kernel_rfl) rfl (okWide_bool_mk Try.underlying4 _))⟩

theorem over : Rows.bitsToUintRoundTripRow.holds Try.pinned (OpenSpec.ofChange Rows.bitsToUintRoundTripSpec) :=
  OpenClaim.holds_of_wide 4 Try.f4 rfl rfl rfl rfl rfl rfl rfl ⟨rfl, rfl, rfl, rfl, rfl⟩ rfl rfl rfl rfl rfl (by kernel_rfl) Try.func4 (by kernel_rfl)
    (of_decide_eq_true (by kernel_rfl)) (by unfold Func.isWrapper; first | (rw [if_pos (by decide +kernel)]; kernel_rfl) | (rw [if_neg (by decide +kernel)]; exact ⟨rfl, rfl⟩))
    (fun os started H enc _ => lifted os started H enc)

theorem proved : Rows.BitsToUintRoundTripSaid := over
end Go.Proofs.Ytcjibadnhhnpmaa.bitsToUintRoundTrip
