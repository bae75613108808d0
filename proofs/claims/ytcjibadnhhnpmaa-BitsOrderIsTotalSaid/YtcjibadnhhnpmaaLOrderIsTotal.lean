/- BitsOrderIsTotal: for every two slices of words that are bit vectors of at most 100 bits, Less and Equal of package bits answer as the reference does, and exactly one of a < b, b < a and a = b holds. No conditions. -/
import Derived.Test.YtcjibadnhhnpmaaBOpen
namespace Go.Proofs.Ytcjibadnhhnpmaa.bitsOrderIsTotal
open Go.ChangeShapes Go.WideShapes Go.ChangeAt Go.RowKit BitMath

set_option maxRecDepth 100000 in
set_option maxHeartbeats 2000000 in
theorem walk_main (A : Option Addr) (c : Nat) (a : List Int) (A' : Option Addr) (c' : Nat) (b : List Int) (ha : Bits a) (hb : Bits b) (la : a.length ≤ 100) (lb : b.length ≤ 100) (w : World) (hra : Rd w.heap.size w A a) (hrb : Rd w.heap.size w A' b) :
    Calls Try.prog 8 #[.slice A a.length c, .slice A' b.length c'] w fun e w' => e = .returned (.bool true) ∧ Below w.heap.size w w' := by
  have hsa := fun B w h => small100 A a c B w h
  have hsb := fun B w h => small100 A' b c' B w h
  rw [isSmall_of ha la] at hsa
  rw [isSmall_of hb lb] at hsb
  have hL := fun A A' c c' w h h' => less_any A A' c c' a b ha hb (by omega) (by omega) w h h'
  have hK := fun A A' c c' w h h' => less_any A A' c c' b a hb ha (by omega) (by omega) w h h'
  have hE := fun A A' c c' w h h' => equal_any A A' c c' a b ha hb (by omega) (by omega) w h h'
  have hL' := fun A A' c c' B B' w h h' => rLess_any A A' c c' B B' a b ha hb (by omega) (by omega) w h h'
  have hK' := fun A A' c c' B B' w h h' => rLess_any A A' c c' B B' b a hb ha (by omega) (by omega) w h h'
  have hE' := fun A A' c c' B B' w h h' => rEqual_any A A' c c' B B' a b ha hb (by omega) (by omega) w h h'
  obtain ⟨x, y, z, hx, hy, hz, hxyz⟩ : ∃ x y z : Int, lt01 (val a) (val b) = x ∧ lt01 (val b) (val a) = y ∧ eq01 (val a) (val b) = z ∧ ((x = 1 ∧ y = 0 ∧ z = 0) ∨ (x = 0 ∧ y = 1 ∧ z = 0) ∨ (x = 0 ∧ y = 0 ∧ z = 1)) := by
    refine ⟨_, _, _, rfl, rfl, rfl, ?_⟩
    unfold lt01 eq01
    rcases Int.lt_trichotomy (val a) (val b) with h | h | h
    · left; rw [if_pos h, if_neg (by omega), if_neg (by omega)]; simp
    · right; right; rw [if_neg (by omega), if_neg (by omega), if_pos h]; simp
    · right; left; rw [if_neg (by omega), if_pos h, if_neg (by omega)]; simp
  rw [hx] at hL hL'
  rw [hy] at hK hK'
  rw [hz] at hE hE'
  clear hx hy hz
  go_enter Try.func8, Try.ntmps8
  go_wp2_with fail
  refine (awake_any _).mono ?_; rintro e w1 ⟨rfl, hB⟩
  replace hra := hra.next hB
  replace hrb := hrb.next hB
  go_wp2_with fail
  refine (hsa _ _ hra).mono ?_; rintro e w2 ⟨rfl, rfl⟩
  go_wp2_with fail
  refine (hsb _ _ hrb).mono ?_; rintro e w2 ⟨rfl, rfl⟩
  go_wp2_with fail
  refine (hL _ _ _ _ _ hra hrb).mono ?_; rintro e w3 ⟨rfl, hbx⟩
  replace hra := hra.next hbx
  replace hrb := hrb.next hbx
  replace hB := hB.trans (hbx.mono hB.size)
  clear hbx
  go_wp2_with fail
  refine (hK _ _ _ _ _ hrb hra).mono ?_; rintro e w4 ⟨rfl, hbx⟩
  replace hra := hra.next hbx
  replace hrb := hrb.next hbx
  replace hB := hB.trans (hbx.mono hB.size)
  clear hbx
  go_wp2_with fail
  refine (hE _ _ _ _ _ hra hrb).mono ?_; rintro e w5 ⟨rfl, hbx⟩
  replace hra := hra.next hbx
  replace hrb := hrb.next hbx
  replace hB := hB.trans (hbx.mono hB.size)
  clear hbx
  rcases hxyz with ⟨rfl, rfl, rfl⟩ | ⟨rfl, rfl, rfl⟩ | ⟨rfl, rfl, rfl⟩
  all_goals
    go_wp2_with fail
    refine (hL' _ _ _ _ _ _ _ hra hrb).mono ?_; rintro e w6 ⟨rfl, rfl⟩
    go_wp2_with fail
    refine (hK' _ _ _ _ _ _ _ hrb hra).mono ?_; rintro e w6 ⟨rfl, rfl⟩
    go_wp2_with fail
    refine (hE' _ _ _ _ _ _ _ hra hrb).mono ?_; rintro e w6 ⟨rfl, rfl⟩
    go_wp2_with fail
    go_ret
    exact ⟨rfl, hB⟩

set_option maxRecDepth 100000 in
set_option maxHeartbeats 1000000 in
theorem walk (A : Option Addr) (c : Nat) (a : List Int) (A' : Option Addr) (c' : Nat) (b : List Int) (wa : Words a) (wb : Words b) (w : World) (hra : Rd w.heap.size w A a) (hrb : Rd w.heap.size w A' b) :
    Calls Try.prog 8 #[.slice A a.length c, .slice A' b.length c'] w fun e w' => e = .returned (.bool true) ∧ Below w.heap.size w w' := by
  have hsa := fun B w h => small100 A a c B w h
  have hsb := fun B w h => small100 A' b c' B w h
  cases ca : isSmall a 100 with
  | false =>
    rw [ca] at hsa
    go_enter Try.func8, Try.ntmps8
    go_wp2_with fail
    refine (awake_any _).mono ?_; rintro e w1 ⟨rfl, hB⟩
    replace hra := hra.next hB
    go_wp2_with fail
    refine (hsa _ _ hra).mono ?_; rintro e w2 ⟨rfl, rfl⟩
    go_wp2_with fail
    go_ret
    exact ⟨rfl, hB⟩
  | true =>
    cases cb : isSmall b 100 with
    | false =>
      rw [ca] at hsa
      rw [cb] at hsb
      go_enter Try.func8, Try.ntmps8
      go_wp2_with fail
      refine (awake_any _).mono ?_; rintro e w1 ⟨rfl, hB⟩
      replace hra := hra.next hB
      replace hrb := hrb.next hB
      go_wp2_with fail
      refine (hsa _ _ hra).mono ?_; rintro e w2 ⟨rfl, rfl⟩
      go_wp2_with fail
      refine (hsb _ _ hrb).mono ?_; rintro e w2 ⟨rfl, rfl⟩
      go_wp2_with fail
      go_ret
      exact ⟨rfl, hB⟩
    | true =>
      obtain ⟨la, ha⟩ := isSmall_bits wa ca
      obtain ⟨lb, hb⟩ := isSmall_bits wb cb
      exact walk_main A c a A' c' b ha hb la lb w hra hrb

set_option maxRecDepth 100000 in
theorem lifted (os : Os) (started : os.Started) (H : Type) (enc : TypeId × Value → H) :
    ReturnsInHanded {} Try.checked os 8 .any (Rows.bitsOrderIsTotalSpec.pre6 enc Try.prog Try.f8 Rows.bitsOrderIsTotalRow.domain false) (Rows.bitsOrderIsTotalSpec.post enc Try.prog Try.f8 false true false false) := by
  refine returnsInHanded_of_change (C := Try.checked) own started (by kernel_rfl) Try.func8
    (ChangeSpec.witness6 (enc := enc) (C := Try.checked) false ⟨#[], #[.slice none 0 0, .slice none 0 0], []⟩ 8 (by kernel_rfl) (by kernel_rfl) (by kernel_rfl) (by kernel_rfl)) ?_
  intro W base args ds gs before hval0 hW hcnd _
  have hval : ∀ (j : Nat) t v, Try.f8.params[j]? = some t → args[j]? = some v → Value.okWide Try.prog W .any base t v := hval0
  have hW' := hW
  obtain ⟨p, q, hA0, hV, rfl, hfz, hnd⟩ := hW
  have hA : DataW.TrodAll enc Try.prog W 0 (fun _ => true) true Try.f8.params.toList args.toList ds p := hA0
  rw [Try.params8] at hA hval
  obtain ⟨v0, v1, d0, d1, p0, p1, rfl, rfl, rfl, h0, h1⟩ := trodAll_two hA
  obtain ⟨rfl, rfl⟩ := trodVars_none hV
  clear hA0 hval0
  simp only [List.append_nil] at hW'
  have l0 : ∀ x ∈ p0, x.block < W.heap.size := fun x hx => hW'.lt x (by simp [hx])
  obtain ⟨A0, x0, c0, rfl, r0, b0⟩ := open_words (hval 0 24 v0 rfl rfl) h0 l0
  have l1 : ∀ x ∈ p1, x.block < W.heap.size := fun x hx => hW'.lt x (by simp [hx])
  obtain ⟨A1, x1, c1, rfl, r1, b1⟩ := open_words (hval 1 24 v1 rfl rfl) h1 l1
  refine (walk A0 c0 x0 A1 c1 x1 b0 b1 W r0 r1).mono fun e W' ⟨he, hb⟩ => ?_
  subst he
  exact ⟨_, rfl, post_of_below (pa := p0 ++ p1) (pv := []) hW' (fun _ _ _ => (trodAll_cons_mk (shut_bool Try.underlying4 _) trodAll_mk0)) (fun sp hsp => trodAll_mk2 (stays h0 hb l0 sp (fun x hx => hsp x (by simp [hx]))) (stays h1 hb l1 sp (fun x hx => hsp x (by simp [hx])))) (fun _ _ => rfl) (by simp)
    hb (ok_one (by kernel_rfl) rfl (okWide_bool_mk Try.underlying4 _))⟩

theorem over : Rows.bitsOrderIsTotalRow.holds Try.pinned (OpenSpec.ofChange Rows.bitsOrderIsTotalSpec) :=
  OpenClaim.holds_of_wide 8 Try.f8 rfl rfl rfl rfl rfl rfl rfl ⟨rfl, rfl, rfl, rfl, rfl⟩ rfl rfl rfl rfl rfl (by kernel_rfl) Try.func8 (by kernel_rfl)
    (of_decide_eq_true (by kernel_rfl)) (by unfold Func.isWrapper; first | (rw [if_pos (by decide +kernel)]; kernel_rfl) | (rw [if_neg (by decide +kernel)]; exact ⟨rfl, rfl⟩))
    (fun os started H enc _ => lifted os started H enc)

theorem proved : Rows.BitsOrderIsTotalSaid := over
end Go.Proofs.Ytcjibadnhhnpmaa.bitsOrderIsTotal
