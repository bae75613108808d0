/- InterpolateWeightsSumToOne: for every prime, every slice of words and every word, the law returns true and changes nothing that lay. No conditions. -/
import Derived.Test.YtpjgpfjepcidgaaIOpen
namespace Go.Proofs.Ytpjgpfjepcidgaa.interpolateWeightsSumToOne
open Go.ChangeShapes Go.WideShapes Go.ChangeAt Go.RowKit PolyMath FieldMath

set_option maxRecDepth 100000 in
set_option maxHeartbeats 4000000 in
theorem walk_main (p : Int) (A : Option Addr) (c : Nat) (xs : List Int) (z : Int) (hp : OkP p) (_wp : Wd p) (wxs : Words xs) (wz : Wd z) (h0 : (qOf p != 0) = true) (h1 : xs.length ≤ 12) (h2 : decide (∀ x ∈ xs, x < p) = true) (h3 : z < p) (w : World) (sxs : Sl w A c xs) :
    Calls Try.prog 5 #[.int .u64 p, .slice A xs.length c, .int .u64 z] w fun e w' => e = .returned (.bool true) ∧ Below w.heap.size w w' := by
  have hbd := hp.bd
  have hx := el_of wxs (of_decide_eq_true h2)
  have hz : 0 ≤ z ∧ z < p := ⟨wz.1, h3⟩
  have g0 := fun W => rSupported_any p W
  rw [h0] at g0
  have h1' : (xs.length : Int) ≤ 12 := by omega
  have g2 := fun W h => below_any p A c xs W h (by omega)
  rw [h2] at g2
  go_enter Try.func5, Try.ntmps5
  go_wp2_with fail
  refine (awake_any _).mono ?_; rintro e w1 ⟨rfl, hB⟩
  replace sxs := sxs.next hB
  go_wp2_with fail
  refine (g0 _).mono ?_; rintro e w2 ⟨rfl, hb⟩
  replace sxs := sxs.next hb
  replace hB := hB.trans (hb.mono hB.size)
  clear hb
  go_wp2_with fail
  refine (g2 _ sxs).mono ?_; rintro e w' ⟨rfl, rfl⟩
  go_wp2_with fail
  refine (wt_any p z hp hz A c xs hx (by omega) _ sxs).mono ?_
  rintro e w3 (⟨hnd, A3, c3, rfl, hs3, hb⟩ | ⟨hnd, rfl, hb⟩)
  · replace sxs := sxs.next hb
    replace hB := hB.trans (hb.mono hB.size)
    clear hb
    go_wp2_with fail
    refine (rWt_any p z hp hz A c xs hx (by omega) _ sxs).mono ?_
    rintro e w4 (⟨_, A4, c4, rfl, hs4, hb⟩ | ⟨hnd', _⟩)
    case inr => exact absurd hnd hnd'
    replace hs3 := hs3.next hb
    replace hB := hB.trans (hb.mono hB.size)
    clear hb
    have hWl := Lib.hid (wts_len p xs z)
    have hFl : (wts p xs z).length ≤ 12 := by rw [wts_len]; omega
    have hWe := wts_el (p := p) (by omega) xs z
    have hone := Lib.hid (fun h0 : 0 < xs.length => wts_one hp.good hnd hx h0 z)
    clear hnd
    generalize wts p xs z = F at *
    go_wp2_with fail
    refine (same_b _ _ F _ _ _ hs3 hs4 (by omega)).mono ?_
    rintro e w5 ⟨rfl, hb⟩
    replace hs3 := hs3.next hb
    replace hB := hB.trans (hb.mono hB.size)
    clear hb hs4
    go_wp2_with fail
    go_loop [11, 12] (fun s i => ∃ (k : Nat) (S : Int), k ≤ F.length ∧ i = .int .i64 k ∧ s = .int .u64 S ∧ 0 ≤ S ∧ S < p ∧ Hid (fsum p (co F) k = S)) (fun _ i => F.length - (intOf i).toNat)
    case atStart => exact ⟨0, 0, Nat.zero_le _, rfl, rfl, by omega, by omega, Lib.hid rfl⟩
    case round =>
      obtain ⟨k, S, hk, rfl, rfl, hS0, hS, hE⟩ := hrel
      by_cases hlt : k < F.length
      · obtain ⟨b, off, x, hA, hbl, hxk, hcx⟩ := hs3.at_ hlt
        subst hA
        have hxb := hWe x (List.mem_of_getElem? hxk)
        have hkN : (k : Int) < F.length := by omega
        have hn : fsum p (co F) (k + 1) = fadd p S x := by show fadd p (fsum p (co F) k) (co F k) = _; rw [hE.out, co_at hxk]
        have hN := Lib.hid hn
        have hm := fadd_bd p S x (by omega)
        clear hxk hn
        go_wp2_with (go_at_call 22; refine (add_any _ _ _ hp hS0 hS hxb.1 hxb.2 _).mono ?_; rintro e w' ⟨rfl, rfl⟩)
        go_round
        case rel => exact ⟨k + 1, _, by omega, by simp, rfl, hm.1, hm.2, hN⟩
        case measure => simp [intOf]; omega
      · obtain rfl : k = F.length := by omega
        by_cases h0 : xs.length = 0
        · have h0' : (xs.length : Int) = 0 := by omega
          go_wp2
          go_ret
          exact ⟨rfl, hB⟩
        · have h0' : ¬ (xs.length : Int) = 0 := by omega
          have hS1 : S = 1 := by have h1 := hone.out (by omega); rw [← hWl.out, hE.out] at h1; exact h1
          subst hS1
          go_wp2
          go_ret
          exact ⟨rfl, hB⟩
  · replace sxs := sxs.next hb
    replace hB := hB.trans (hb.mono hB.size)
    clear hb
    go_wp2_with fail
    refine (rWt_any p z hp hz A c xs hx (by omega) _ sxs).mono ?_
    rintro e w4 (⟨hnd', _⟩ | ⟨_, rfl, hb⟩)
    case inl => exact absurd hnd' hnd
    replace hB := hB.trans (hb.mono hB.size)
    clear hb
    go_wp2_with fail
    refine (same_b none none [] 0 0 _ (Sl.nothing _) (Sl.nothing _) (by decide)).mono ?_
    rintro e w5 ⟨rfl, hb⟩
    replace hB := hB.trans (hb.mono hB.size)
    clear hb
    go_wp2_with fail
    go_loop [11, 12] (fun s i => s = .int .u64 0 ∧ i = .int .i64 0) (fun _ _ => 0)
    case atStart => exact ⟨rfl, rfl⟩
    case round =>
      obtain ⟨rfl, rfl⟩ := hrel
      go_wp2
      all_goals
        go_ret
        exact ⟨rfl, hB⟩

set_option maxRecDepth 100000 in
set_option maxHeartbeats 4000000 in
theorem walk (p : Int) (A : Option Addr) (c : Nat) (xs : List Int) (z : Int) (wp : Wd p) (wxs : Words xs) (wz : Wd z) (w : World) (sxs : Sl w A c xs) :
    Calls Try.prog 5 #[.int .u64 p, .slice A xs.length c, .int .u64 z] w fun e w' => e = .returned (.bool true) ∧ Below w.heap.size w w' := by
  rcases sup_cases p with h0 | ⟨h0, hp⟩
  · have g0 := fun W => rSupported_any p W
    rw [h0] at g0
    go_enter Try.func5, Try.ntmps5
    go_wp2_with fail
    refine (awake_any _).mono ?_; rintro e w1 ⟨rfl, hB⟩
    replace sxs := sxs.next hB
    go_wp2_with fail
    refine (g0 _).mono ?_; rintro e w2 ⟨rfl, hb⟩
    replace sxs := sxs.next hb
    replace hB := hB.trans (hb.mono hB.size)
    clear hb
    go_wp2_with fail
    go_ret
    exact ⟨rfl, hB⟩
  · rcases Nat.lt_or_ge 12 xs.length with h1 | h1
    · have g0 := fun W => rSupported_any p W
      rw [h0] at g0
      have h1' : (12 : Int) < xs.length := by omega
      go_enter Try.func5, Try.ntmps5
      go_wp2_with fail
      refine (awake_any _).mono ?_; rintro e w1 ⟨rfl, hB⟩
      replace sxs := sxs.next hB
      go_wp2_with fail
      refine (g0 _).mono ?_; rintro e w2 ⟨rfl, hb⟩
      replace sxs := sxs.next hb
      replace hB := hB.trans (hb.mono hB.size)
      clear hb
      go_wp2_with fail
      go_ret
      exact ⟨rfl, hB⟩
    · rcases Bool.eq_false_or_eq_true (decide (∀ x ∈ xs, x < p)) with h2 | h2; rotate_left
      · have g0 := fun W => rSupported_any p W
        rw [h0] at g0
        have h1' : (xs.length : Int) ≤ 12 := by omega
        have g2 := fun W h => below_any p A c xs W h (by omega)
        rw [h2] at g2
        go_enter Try.func5, Try.ntmps5
        go_wp2_with fail
        refine (awake_any _).mono ?_; rintro e w1 ⟨rfl, hB⟩
        replace sxs := sxs.next hB
        go_wp2_with fail
        refine (g0 _).mono ?_; rintro e w2 ⟨rfl, hb⟩
        replace sxs := sxs.next hb
        replace hB := hB.trans (hb.mono hB.size)
        clear hb
        go_wp2_with fail
        refine (g2 _ sxs).mono ?_; rintro e w' ⟨rfl, rfl⟩
        go_wp2_with fail
        go_ret
        exact ⟨rfl, hB⟩
      · rcases Int.lt_or_le z p with h3 | h3; rotate_left
        · have g0 := fun W => rSupported_any p W
          rw [h0] at g0
          have h1' : (xs.length : Int) ≤ 12 := by omega
          have g2 := fun W h => below_any p A c xs W h (by omega)
          rw [h2] at g2
          have h3' : p ≤ z := by omega
          go_enter Try.func5, Try.ntmps5
          go_wp2_with fail
          refine (awake_any _).mono ?_; rintro e w1 ⟨rfl, hB⟩
          replace sxs := sxs.next hB
          go_wp2_with fail
          refine (g0 _).mono ?_; rintro e w2 ⟨rfl, hb⟩
          replace sxs := sxs.next hb
          replace hB := hB.trans (hb.mono hB.size)
          clear hb
          go_wp2_with fail
          refine (g2 _ sxs).mono ?_; rintro e w' ⟨rfl, rfl⟩
          go_wp2_with fail
          go_ret
          exact ⟨rfl, hB⟩
        · exact walk_main p A c xs z hp wp wxs wz h0 h1 h2 h3 w sxs

set_option maxRecDepth 100000 in
theorem lifted (os : Os) (started : os.Started) (H : Type) (enc : TypeId × Value → H) :
    ReturnsInHanded {} Try.checked os 5 .any (Rows.interpolateWeightsSumToOneSpec.pre6 enc Try.prog Try.f5 Rows.interpolateWeightsSumToOneRow.domain false) (Rows.interpolateWeightsSumToOneSpec.post enc Try.prog Try.f5 false true false false) := by
  refine returnsInHanded_of_change (C := Try.checked) own started (by kernel_rfl) Try.func5
    (ChangeSpec.witness6 (enc := enc) (C := Try.checked) false ⟨#[], #[.int .u64 0, .slice none 0 0, .int .u64 0], []⟩ 8 (by kernel_rfl) (by kernel_rfl) (by kernel_rfl) (by kernel_rfl)) ?_
  intro W base args ds gs before hval0 hW hcnd _
  have hval : ∀ (j : Nat) t v, Try.f5.params[j]? = some t → args[j]? = some v → Value.okWide Try.prog W .any base t v := hval0
  have hW' := hW
  obtain ⟨p, q, hA0, hV, rfl, hfz, hnd⟩ := hW
  have hA : DataW.TrodAll enc Try.prog W 0 (fun _ => true) true Try.f5.params.toList args.toList ds p := hA0
  rw [Try.params5] at hA hval
  obtain ⟨v0, v1, v2, d0, d1, d2, p0, p1, p2, rfl, rfl, rfl, t0, t1, t2⟩ := trodAll_three hA
  obtain ⟨rfl, rfl⟩ := trodVars_none hV
  clear hA0 hval0
  simp only [List.append_nil] at hW'
  have l0 : ∀ x ∈ p0, x.block < W.heap.size := fun x hx => hW'.lt x (by simp [hx])
  obtain ⟨x0, rfl, b0⟩ := arg_word (hval 0 22 v0 rfl rfl) t0
  have l1 : ∀ x ∈ p1, x.block < W.heap.size := fun x hx => hW'.lt x (by simp [hx])
  obtain ⟨A1, x1, c1, rfl, r1, b1⟩ := arg_sl (hval 1 27 v1 rfl rfl) t1 l1
  have l2 : ∀ x ∈ p2, x.block < W.heap.size := fun x hx => hW'.lt x (by simp [hx])
  obtain ⟨x2, rfl, b2⟩ := arg_word (hval 2 22 v2 rfl rfl) t2
  refine (walk x0 A1 c1 x1 x2 b0 b1 b2 W r1).mono fun e W' ⟨he, hb⟩ => ?_
  subst he
  exact ⟨_, rfl, post_of_below (pa := p0 ++ (p1 ++ p2)) (pv := []) hW' (fun _ _ _ => (trodAll_cons_mk (shut_bool Try.underlying4 _) trodAll_mk0)) (fun sp hsp => trodAll_mk3 (stay_word t0 hb l0 sp (fun x hx => hsp x (by simp [hx]))) (stays t1 hb l1 sp (fun x hx => hsp x (by simp [hx]))) (stay_word t2 hb l2 sp (fun x hx => hsp x (by simp [hx])))) (fun _ _ => rfl) (by simp)
    hb (ok_one (by kernel_rfl) rfl (okWide_bool_mk Try.underlying4 _))⟩

theorem over : Rows.interpolateWeightsSumToOneRow.holds Try.pinned (OpenSpec.ofChange Rows.interpolateWeightsSumToOneSpec) :=
  OpenClaim.holds_of_wide 5 Try.f5 rfl rfl rfl rfl rfl rfl rfl ⟨rfl, rfl, rfl, rfl, rfl⟩ rfl rfl rfl rfl rfl (by kernel_rfl) Try.func5 (by kernel_rfl)
    (of_decide_eq_true (by kernel_rfl)) (by unfold Func.isWrapper; first | (rw [if_pos (by decide +kernel)]; kernel_rfl) | (rw [if_neg (by decide +kernel)]; exact ⟨rfl, rfl⟩))
    (fun os started H enc _ => lifted os started H enc)

theorem proved : Rows.InterpolateWeightsSumToOneSaid := over
end Go.Proofs.Ytpjgpfjepcidgaa.interpolateWeightsSumToOne
