/- BitsFromUintRoundTrip: for every number and every width, Width and FromUint of package bits answer as the reference does, and ToUint gives back the number. No conditions. -/
import Derived.Test.YtcjibadnhhnpmaaBOpen
namespace Go.Proofs.Ytcjibadnhhnpmaa.bitsFromUintRoundTrip
open Go.ChangeShapes Go.WideShapes Go.ChangeAt Go.RowKit BitMath

set_option maxRecDepth 100000 in
set_option maxHeartbeats 1000000 in
theorem walk (n k : Int) (h0 : 0 ≤ n) (h1 : n ≤ 18446744073709551615) (w : World) :
    Calls Try.prog 3 #[.int .u64 n, .int .i64 k] w fun e w' => e = .returned (.bool true) ∧ Below w.heap.size w w' := by
  by_cases hf : fits n k
  · obtain ⟨m, rfl⟩ : ∃ m : Nat, k = m := ⟨k.toNat, by have := hf.1; omega⟩
    have hm1 : 1 ≤ m := by have := hf.1; omega
    have hm2 : m ≤ 60 := by have := hf.2.1; omega
    have hlt : n < 2 ^ m := (widI_le h0 hm1).1 hf.2.2
    obtain ⟨e1, e2⟩ := tu_good (xs := digs n m) ⟨by rw [digs_length]; exact hm2, isBits_of (digs_bits n m)⟩
    rw [val_digs_of h0 hlt] at e1
    have hT := fun A c B w h => toUint_any A (digs n m) c B w h (fun x hx => by have := digs_bits n m x hx; omega)
    rw [e1, e2] at hT
    have hlen := Lib.hid (digs_length n m)
    clear e1 e2
    go_enter Try.func3, Try.ntmps3
    go_wp2_with fail
    refine (awake_any _).mono ?_; rintro e w1 ⟨rfl, hB⟩
    go_wp2_with fail
    refine (from_good n m h0 h1 hf _).mono ?_; rintro e w2 ⟨A2, c2, rfl, hR2, hb⟩
    replace hB := hB.trans (hb.mono hB.size)
    clear hb
    go_wp2_with fail
    refine (rFrom_good n m h0 h1 hf _).mono ?_; rintro e w3 ⟨A3, c3, rfl, hR3, hb⟩
    replace hR2 := hR2.next hb
    replace hB := hB.trans (hb.mono hB.size)
    clear hb
    go_wp2_with fail
    refine (same_is _ _ (digs n m) (digs n m) _ _ _ hR2 hR3 (by rw [hlen.out]; omega) rfl).mono ?_; rintro e w4 ⟨rfl, hb⟩
    replace hR2 := hR2.next hb
    replace hB := hB.trans (hb.mono hB.size)
    clear hb
    go_wp2_with fail
    refine (width_any n h0 h1 _).mono ?_; rintro e w5 ⟨rfl, rfl⟩
    go_wp2_with fail
    refine (rWidth_any n h0 h1 _).mono ?_; rintro e w5 ⟨rfl, rfl⟩
    go_wp2_with fail
    refine (hT _ _ _ _ hR2).mono ?_; rintro e w5 ⟨rfl, rfl⟩
    have hlen' : ((digs n m).length : Int) = m := by rw [hlen.out]
    go_wp2_with fail
    go_ret
    exact ⟨rfl, hB⟩
  · go_enter Try.func3, Try.ntmps3
    go_wp2_with fail
    refine (awake_any _).mono ?_; rintro e w1 ⟨rfl, hB⟩
    go_wp2_with fail
    refine (from_bad n k h0 h1 hf _).mono ?_; rintro e w2 ⟨rfl, rfl⟩
    go_wp2_with fail
    refine (rFrom_bad n k h0 h1 hf _).mono ?_; rintro e w2 ⟨rfl, rfl⟩
    go_wp2_with fail
    refine (same_is none none [] [] 0 0 _ Rd.nil Rd.nil (by decide) rfl).mono ?_; rintro e w2 ⟨rfl, hb⟩
    replace hB := hB.trans (hb.mono hB.size)
    clear hb
    go_wp2_with fail
    refine (width_any n h0 h1 _).mono ?_; rintro e w5 ⟨rfl, rfl⟩
    go_wp2_with fail
    refine (rWidth_any n h0 h1 _).mono ?_; rintro e w5 ⟨rfl, rfl⟩
    go_wp2_with fail
    go_ret
    exact ⟨rfl, hB⟩

set_option maxRecDepth 100000 in
theorem lifted (os : Os) (started : os.Started) (H : Type) (enc : TypeId × Value → H) :
    ReturnsInHanded {} Try.checked os 3 .any (Rows.bitsFromUintRoundTripSpec.pre6 enc Try.prog Try.f3 Rows.bitsFromUintRoundTripRow.domain false) (Rows.bitsFromUintRoundTripSpec.post enc Try.prog Try.f3 false true false false) := by
  refine returnsInHanded_of_change (C := Try.checked) own started (by kernel_rfl) Try.func3
    (ChangeSpec.witness6 (enc := enc) (C := Try.checked) false ⟨#[], #[.int .u64 0, .int .i64 0], []⟩ 8 (by kernel_rfl) (by kernel_rfl) (by kernel_rfl) (by kernel_rfl)) ?_
  intro W base args ds gs before hval0 hW hcnd _
  have hval : ∀ (j : Nat) t v, Try.f3.params[j]? = some t → args[j]? = some v → Value.okWide Try.prog W .any base t v := hval0
  have hW' := hW
  obtain ⟨p, q, hA0, hV, rfl, hfz, hnd⟩ := hW
  have hA : DataW.TrodAll enc Try.prog W 0 (fun _ => true) true Try.f3.params.toList args.toList ds p := hA0
  rw [Try.params3] at hA hval
  obtain ⟨v0, v1, d0, d1, p0, p1, rfl, rfl, rfl, h0, h1⟩ := trodAll_two hA
  obtain ⟨rfl, rfl⟩ := trodVars_none hV
  obtain ⟨n0, rfl, rfl, rfl, wf0⟩ := open_int Try.underlying22 (hval 0 22 v0 rfl rfl) h0
  obtain ⟨n1, rfl, rfl, rfl, wf1⟩ := open_int Try.underlying3 (hval 1 3 v1 rfl rfl) h1
  clear hA0 hval0
  simp only [List.append_nil] at hW'
  have hb0 : 0 ≤ n0 ∧ n0 ≤ 18446744073709551615 := by
    have e1 : IntKind.u64.min = 0 := rfl
    have e2 : IntKind.u64.max = 18446744073709551615 := rfl
    have h := wf0
    simp only [Lit.wf, Bool.and_eq_true, decide_eq_true_eq] at h
    omega
  refine (walk n0 n1 hb0.1 hb0.2 W).mono fun e W' ⟨he, hb⟩ => ?_
  subst he
  exact ⟨_, rfl, post_of_below (pa := []) (pv := []) hW' (fun _ _ _ => (trodAll_cons_mk (shut_bool Try.underlying4 _) trodAll_mk0)) (fun sp _ => (trodAll_cons_mk (shut_int Try.underlying22 wf0) (trodAll_cons_mk (shut_int Try.underlying3 wf1) trodAll_mk0))) (fun _ _ => rfl) rfl
    hb (ok_one (by kernel_rfl) rfl (okWide_bool_mk Try.underlying4 _))⟩

theorem over : Rows.bitsFromUintRoundTripRow.holds Try.pinned (OpenSpec.ofChange Rows.bitsFromUintRoundTripSpec) :=
  OpenClaim.holds_of_wide 3 Try.f3 rfl rfl rfl rfl rfl rfl rfl ⟨rfl, rfl, rfl, rfl, rfl⟩ rfl rfl rfl rfl rfl (by kernel_rfl) Try.func3 (by kernel_rfl)
    (of_decide_eq_true (by kernel_rfl)) (by unfold Func.isWrapper; first | (rw [if_pos (by decide +kernel)]; kernel_rfl) | (rw [if_neg (by decide +kernel)]; exact ⟨rfl, rfl⟩))
    (fun os started H enc _ => lifted os started H enc)

theorem proved : Rows.BitsFromUintRoundTripSaid := over
end Go.Proofs.Ytcjibadnhhnpmaa.bitsFromUintRoundTrip
