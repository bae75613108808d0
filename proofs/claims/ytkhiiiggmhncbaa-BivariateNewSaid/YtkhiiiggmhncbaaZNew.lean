/- BivariateNew: for every input the law returns true and changes nothing that lay. No conditions. -/
import Derived.Test.YtkhiiiggmhncbaaEAwake
import Derived.Test.YtkhiiiggmhncbaaERefN
import Derived.Test.YtkhiiiggmhncbaaEOpen
import Derived.Test.YtkhiiiggmhncbaaMB
namespace Go.Proofs.Ytkhiiiggmhncbaa.bivariateNew
set_option maxRecDepth 100000
open Go.ChangeShapes Go.WideShapes Go.ChangeAt Go.RowKit PolyMath FieldMath MatMath

set_option maxHeartbeats 8000000 in
theorem walk (Axs : Option Addr) (cxs : Nat) (xs : List Int) (Ays : Option Addr) (cys : Nat) (ys : List Int) (_wxs : Words xs) (_wys : Words ys) (w : World) (sxs : Sl w Axs cxs xs) (sys : Sl w Ays cys ys) : Calls Try.prog 3 #[.slice Axs xs.length cxs, .slice Ays ys.length cys] w fun e w' => e = .returned (.bool true) ∧ Below w.heap.size w w' := by
  obtain ⟨n, hn⟩ : ∃ n, xs.length = n := ⟨_, rfl⟩
  obtain ⟨m, hm⟩ : ∃ m, ys.length = m := ⟨_, rfl⟩
  rw [hn, hm]
  by_cases h1 : n ≤ 8
  rotate_left
  · have h1' : (8 : Int) < n := by omega
    clear hn hm
    go_enter Try.func3, Try.ntmps3
    go_wp2_with fail
    refine (awake10 _).mono ?_
    rintro e w9 ⟨rfl, hb9⟩
    go_wp2
    go_ret
    exact ⟨rfl, hb9⟩
  have h1' : ¬ (8 : Int) < n := by omega
  by_cases h2 : m ≤ 40
  rotate_left
  · have h2' : (40 : Int) < m := by omega
    clear hn hm
    go_enter Try.func3, Try.ntmps3
    go_wp2_with fail
    refine (awake10 _).mono ?_
    rintro e w9 ⟨rfl, hb9⟩
    go_wp2
    go_ret
    exact ⟨rfl, hb9⟩
  have h2' : ¬ (40 : Int) < m := by omega
  have key : (∃ L : List (List Int), L.length = n ∧ symB L = true ∧ Sized L ∧ (Calls Try.prog 13 #[.slice Axs n cxs, .slice Ays m cys] w fun e w' => MatT w e w' n L) ∧ ∀ W, Below w.heap.size w W → Calls Try.prog 14 #[.slice Axs n cxs, .slice Ays m cys] W fun e w' => MatT W e w' n L) ∨
      ((Calls Try.prog 13 #[.slice Axs n cxs, .slice Ays m cys] w fun e w' => e = .returned (.tuple #[.slice none 0 0, .int .i64 1]) ∧ Below w.heap.size w w') ∧ ∀ W, Calls Try.prog 14 #[.slice Axs n cxs, .slice Ays m cys] W fun e w' => e = .returned (.tuple #[.slice none 0 0, .int .i64 1]) ∧ Below W.heap.size W w') := by
    rcases n with _ | t
    · exact .inr ⟨new_none Axs Ays cxs cys m w, fun W => rNew_none Axs Ays cxs cys m W⟩
    · by_cases hT : m = (t + 1) * (t + 1 - 1) / 2
      · refine .inl ⟨newL xs ys, ?_, ?_, ?_, new_ok Axs Ays cxs cys (t + 1) m xs ys hn hm (by omega) (by omega) hT w sxs sys, fun W hW => rNew_ok Axs Ays cxs cys t m xs ys hn hm (by omega) hT W (sxs.next hW) (sys.next hW)⟩
        · unfold newL; rw [mkL_len, hn]
        · unfold newL
          rw [hn]
          exact symB_iff.2 ⟨sqB_iff.2 ⟨by rw [mkL_len]; omega, fun i hi => by rw [mkL_len] at hi; rw [mkL_len, mkL_row _ _ hi]⟩, mkL_sym _ _ _⟩
        · unfold newL
          rw [hn]
          refine ⟨by rw [mkL_len]; omega, fun i => ?_⟩
          by_cases hi : i < t + 1
          · rw [mkL_row _ _ hi]; omega
          · unfold ro; rw [List.getElem?_eq_none (by rw [mkL_len]; omega)]; exact Nat.zero_le _
      · exact .inr ⟨new_bad Axs Ays cxs cys (t + 1) m (by omega) (by omega) hT w, fun W => rNew_bad Axs Ays cxs cys t m (by omega) hT W⟩
  clear hn hm
  rcases key with ⟨L, hL, hsy, hz, k1, k2⟩ | ⟨k1, k2⟩
  · have hsm := fun (A1 A2 : Option Addr) (c1 c2 : Nat) (W : World) (s1 : Sll W A1 c1 L) (s2 : Sll W A2 c2 L) => sameM_b A1 A2 L c1 c2 W s1 s2 hz
    have hss := fun (A1 : Option Addr) (c1 : Nat) (W : World) (s1 : Sll W A1 c1 L) => isSym_any A1 c1 L (by omega) W s1
    simp only [hL, hsy] at hsm hss
    clear hL hsy hz
    go_enter Try.func3, Try.ntmps3
    go_wp2_with fail
    refine k1.mono ?_
    rintro e w1 ⟨A1, c1, rfl, hs1, hb1⟩
    go_wp2_with fail
    refine (k2 w1 hb1).mono ?_
    rintro e w2 ⟨A2, c2, rfl, hs2, hb2⟩
    go_wp2_with fail
    refine (awake10 _).mono ?_
    rintro e w3 ⟨rfl, hb3⟩
    go_wp2_with fail
    refine (hsm A1 A2 c1 c2 w3 ((hs1.next hb2).next hb3) (hs2.next hb3)).mono ?_
    rintro e w4 ⟨rfl, hb4⟩
    go_wp2_with fail
    refine (hss A1 c1 w4 (((hs1.next hb2).next hb3).next hb4)).mono ?_
    rintro e w5 ⟨rfl, hb5⟩
    have hB2 := hb1.trans (hb2.mono hb1.size)
    have hB3 := hB2.trans (hb3.mono hB2.size)
    have hB4 := hB3.trans (hb4.mono hB3.size)
    have hB5 := hB4.trans (hb5.mono hB4.size)
    clear hsm hss k1 k2 hs1 hs2
    go_wp2
    go_ret
    exact ⟨rfl, hB5⟩
  · go_enter Try.func3, Try.ntmps3
    go_wp2_with fail
    refine k1.mono ?_
    rintro e w1 ⟨rfl, hb1⟩
    go_wp2_with fail
    refine (k2 w1).mono ?_
    rintro e w2 ⟨rfl, hb2⟩
    go_wp2_with fail
    refine (awake10 _).mono ?_
    rintro e w3 ⟨rfl, hb3⟩
    go_wp2_with fail
    refine (sameM_b none none [] 0 0 w3 (Sll.nothing _) (Sll.nothing _) (sz22 _ (by decide) (by decide))).mono ?_
    rintro e w4 ⟨rfl, hb4⟩
    have hB2 := hb1.trans (hb2.mono hb1.size)
    have hB3 := hB2.trans (hb3.mono hB2.size)
    have hB4 := hB3.trans (hb4.mono hB3.size)
    go_wp2
    go_ret
    exact ⟨rfl, hB4⟩

theorem lifted (os : Os) (started : os.Started) (H : Type) (enc : TypeId × Value → H) :
    ReturnsInHanded {} Try.checked os 3 .any (Rows.bivariateNewSpec.pre6 enc Try.prog Try.f3 Rows.bivariateNewRow.domain false) (Rows.bivariateNewSpec.post enc Try.prog Try.f3 false true false false) := by
  refine returnsInHanded_of_change (C := Try.checked) own started (by kernel_rfl) Try.func3
    (ChangeSpec.witness6 (enc := enc) (C := Try.checked) false ⟨#[], #[.slice none 0 0, .slice none 0 0], []⟩ 8 (by kernel_rfl) (by kernel_rfl) (by kernel_rfl) (by kernel_rfl)) ?_
  intro W base args ds gs before hval0 hW hcnd _
  have hval : ∀ (j : Nat) t v, Try.f3.params[j]? = some t → args[j]? = some v → Value.okWide Try.prog W .any base t v := hval0
  have hW' := hW
  obtain ⟨p, q, hA0, hV, rfl, hfz, hnd⟩ := hW
  have hA : DataW.TrodAll enc Try.prog W 0 (fun _ => true) true Try.f3.params.toList args.toList ds p := hA0
  rw [Try.params3] at hA hval
  obtain ⟨v0, v1, d0, d1, p0, p1, rfl, rfl, rfl, t0, t1⟩ := trodAll_two hA
  obtain ⟨rfl, rfl⟩ := trodVars_none hV
  clear hA0 hval0
  simp only [List.append_nil] at hW'
  have l0 : ∀ x ∈ p0, x.block < W.heap.size := fun x hx => hW'.lt x (by simp [hx])
  obtain ⟨A0, x0, c0, rfl, r0, b0⟩ := arg_sl (hval 0 22 v0 rfl rfl) t0 l0
  have l1 : ∀ x ∈ p1, x.block < W.heap.size := fun x hx => hW'.lt x (by simp [hx])
  obtain ⟨A1, x1, c1, rfl, r1, b1⟩ := arg_sl (hval 1 22 v1 rfl rfl) t1 l1
  refine (walk A0 c0 x0 A1 c1 x1 b0 b1 W r0 r1).mono fun e W' ⟨he, hb⟩ => ?_
  subst he
  exact ⟨_, rfl, post_of_below (pa := p0 ++ p1) (pv := []) hW' (fun _ _ _ => (trodAll_cons_mk (shut_bool Try.underlying4 _) trodAll_mk0)) (fun sp hsp => trodAll_mk2 (stays t0 hb l0 sp (fun x hx => hsp x (by simp [hx]))) (stays t1 hb l1 sp (fun x hx => hsp x (by simp [hx])))) (fun _ _ => rfl) (by simp)
    hb (ok_one (by kernel_rfl) rfl (okWide_bool_mk Try.underlying4 _))⟩

theorem over : Rows.bivariateNewRow.holds Try.pinned (OpenSpec.ofChange Rows.bivariateNewSpec) :=
  OpenClaim.holds_of_wide 3 Try.f3 rfl rfl rfl rfl rfl rfl rfl ⟨rfl, rfl, rfl, rfl, rfl⟩ rfl rfl rfl rfl rfl (by kernel_rfl) Try.func3 (by kernel_rfl)
    (of_decide_eq_true (by kernel_rfl)) (by unfold Func.isWrapper; first | (rw [if_pos (by decide +kernel)]; kernel_rfl) | (rw [if_neg (by decide +kernel)]; exact ⟨rfl, rfl⟩))
    (fun os started H enc _ => lifted os started H enc)

theorem proved : Rows.BivariateNewSaid := over
end Go.Proofs.Ytkhiiiggmhncbaa.bivariateNew
