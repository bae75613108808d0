/- BitsMulCommutes: for every two slices of words that are bit vectors of at most 60 bits, Mul of package bits answers as the reference does, is commutative, and is the multiplication of numbers. No conditions. -/
import Derived.Test.YtcjibadnhhnpmaaBOpen
namespace Go.Proofs.Ytcjibadnhhnpmaa.bitsMulCommutes
open Go.ChangeShapes Go.WideShapes Go.ChangeAt Go.RowKit BitMath

set_option maxRecDepth 100000 in
set_option maxHeartbeats 2000000 in
theorem walk_main (A : Option Addr) (c : Nat) (a : List Int) (A' : Option Addr) (c' : Nat) (b : List Int) (ha : Bits a) (hb : Bits b) (la : a.length ≤ 60) (lb : b.length ≤ 60) (w : World) (hra : Rd w.heap.size w A a) (hrb : Rd w.heap.size w A' b) :
    Calls Try.prog 7 #[.slice A a.length c, .slice A' b.length c'] w fun e w' => e = .returned (.bool true) ∧ Below w.heap.size w w' := by
  have hsa := fun B w h => small60 A a c B w h
  have hsb := fun B w h => small60 A' b c' B w h
  rw [isSmall_of ha la] at hsa
  rw [isSmall_of hb lb] at hsb
  have hS := fun A A' c c' w h h' => mul_any A A' c c' a b ha hb (by omega) (by omega) w h h'
  have hC := fun A A' c c' w h h' => mul_any A A' c c' b a hb ha (by omega) (by omega) w h h'
  have hD := fun A A' c c' w h h' => rMul_any A A' c c' a b ha hb (by omega) (by omega) w h h'
  simp only [Int.mul_comm (val b) (val a), Nat.add_comm b.length a.length] at hC
  obtain ⟨S, hS1, hS2, hS3, hS4⟩ : ∃ S, digs (val a * val b) (a.length + b.length) = S ∧ S.length = a.length + b.length ∧ Bits S ∧ val S = val a * val b := ⟨_, rfl, digs_length _ _, digs_bits _ _, val_mul ha hb⟩
  rw [hS1] at hS hC hD
  have hS5 := Lib.hid (And.intro hS2 (And.intro hS3 hS4))
  clear hS1 hS2 hS3 hS4
  go_enter Try.func7, Try.ntmps7
  go_wp2_with fail
  refine (awake_any _).mono ?_; rintro e w1 ⟨rfl, hB⟩
  replace hra := hra.next hB
  replace hrb := hrb.next hB
  go_wp2_with fail
  refine (hsa _ _ hra).mono ?_; rintro e w2 ⟨rfl, rfl⟩
  go_wp2_with fail
  refine (hsb _ _ hrb).mono ?_; rintro e w2 ⟨rfl, rfl⟩
  go_wp2_with fail
  refine (hS _ _ _ _ _ hra hrb).mono ?_; rintro e w3 ⟨A3, c3, rfl, hR3, hbx⟩
  replace hra := hra.next hbx
  replace hrb := hrb.next hbx
  replace hB := hB.trans (hbx.mono hB.size)
  clear hbx
  go_wp2_with fail
  refine (hD _ _ _ _ _ hra hrb).mono ?_; rintro e w4 ⟨A4, c4, rfl, hR4, hbx⟩
  replace hra := hra.next hbx
  replace hrb := hrb.next hbx
  replace hR3 := hR3.next hbx
  replace hB := hB.trans (hbx.mono hB.size)
  clear hbx
  go_wp2_with fail
  refine (same_is _ _ S S _ _ _ hR3 hR4 (by rw [hS5.out.1]; omega) rfl).mono ?_; rintro e w5 ⟨rfl, hbx⟩
  replace hra := hra.next hbx
  replace hrb := hrb.next hbx
  replace hR3 := hR3.next hbx
  replace hB := hB.trans (hbx.mono hB.size)
  clear hbx
  go_wp2_with fail
  refine (hC _ _ _ _ _ hrb hra).mono ?_; rintro e w6 ⟨A6, c6, rfl, hR6, hbx⟩
  replace hra := hra.next hbx
  replace hrb := hrb.next hbx
  replace hR3 := hR3.next hbx
  replace hB := hB.trans (hbx.mono hB.size)
  clear hbx
  go_wp2_with fail
  refine (same_is _ _ S S _ _ _ hR3 hR6 (by rw [hS5.out.1]; omega) rfl).mono ?_; rintro e w7 ⟨rfl, hbx⟩
  replace hra := hra.next hbx
  replace hrb := hrb.next hbx
  replace hR3 := hR3.next hbx
  replace hB := hB.trans (hbx.mono hB.size)
  clear hbx
  rcases Nat.lt_or_ge 25 a.length with h5 | h5
  · have h5' : (25 : Int) < a.length := by omega
    go_wp2_with fail
    go_ret
    exact ⟨rfl, hB⟩
  · have h5' : (a.length : Int) ≤ 25 := by omega
    rcases Nat.lt_or_ge 25 b.length with h6 | h6
    · have h6' : (25 : Int) < b.length := by omega
      go_wp2_with fail
      go_ret
      exact ⟨rfl, hB⟩
    · have h6' : (b.length : Int) ≤ 25 := by omega
      have g1 := val_nonneg ha
      have g2 := val_nonneg hb
      have g3 := Int.lt_of_lt_of_le (val_lt ha) (p2le h5)
      have g4 := Int.lt_of_lt_of_le (val_lt hb) (p2le h6)
      rw [show (2 : Int) ^ 25 = 33554432 from by decide] at g3 g4
      have hN := fun B w h => number_any A a c B w h (fun x hx => by have := ha x hx; omega)
      have hN' := fun B w h => number_any A' b c' B w h (fun x hx => by have := hb x hx; omega)
      rw [(tu_good ⟨by omega, isBits_of ha⟩).1] at hN
      rw [(tu_good ⟨by omega, isBits_of hb⟩).1] at hN'
      have g5 : 0 ≤ val a * val b := Int.mul_nonneg g1 g2
      have g6 : val a * val b ≤ 33554432 * 33554432 := Int.mul_le_mul (by omega) (by omega) g2 (by omega)
      have hM := fun A c B w h => number_any A S c B w h (fun x hx => by have := hS5.out.2.1 x hx; omega)
      rw [(tu_good ⟨by rw [hS5.out.1]; omega, isBits_of hS5.out.2.1⟩).1, hS5.out.2.2] at hM
      go_wp2_with fail
      refine (hM _ _ _ _ hR3).mono ?_; rintro e w8 ⟨rfl, rfl⟩
      go_wp2_with fail
      refine (hN _ _ hra).mono ?_; rintro e w8 ⟨rfl, rfl⟩
      go_wp2_with fail
      refine (hN' _ _ hrb).mono ?_; rintro e w8 ⟨rfl, rfl⟩
      go_wp2_with fail
      go_ret
      exact ⟨rfl, hB⟩

set_option maxRecDepth 100000 in
set_option maxHeartbeats 1000000 in
theorem walk (A : Option Addr) (c : Nat) (a : List Int) (A' : Option Addr) (c' : Nat) (b : List Int) (wa : Words a) (wb : Words b) (w : World) (hra : Rd w.heap.size w A a) (hrb : Rd w.heap.size w A' b) :
    Calls Try.prog 7 #[.slice A a.length c, .slice A' b.length c'] w fun e w' => e = .returned (.bool true) ∧ Below w.heap.size w w' := by
  have hsa := fun B w h => small60 A a c B w h
  have hsb := fun B w h => small60 A' b c' B w h
  cases ca : isSmall a 60 with
  | false =>
    rw [ca] at hsa
    go_enter Try.func7, Try.ntmps7
    go_wp2_with fail
    refine (awake_any _).mono ?_; rintro e w1 ⟨rfl, hB⟩
    replace hra := hra.next hB
    go_wp2_with fail
    refine (hsa _ _ hra).mono ?_; rintro e w2 ⟨rfl, rfl⟩
    go_wp2_with fail
    go_ret
    exact ⟨rfl, hB⟩
  | true =>
    cases cb : isSmall b 60 with
    | false =>
      rw [ca] at hsa
      rw [cb] at hsb
      go_enter Try.func7, Try.ntmps7
      go_wp2_with fail
      refine (awake_any _).mono ?_; rintro e w1 ⟨rfl, hB⟩
      replace hra := hra.next hB
      replace hrb := hrb.next hB
      go_wp2_with fail
      refine (hsa _ _ hra).mono ?_; rintro e w2 ⟨rfl, rfl⟩
      go_wp2_with fail
      refine (hsb _ _ hrb).mono ?_; rintro e w2 ⟨rfl, rfl⟩
      go_wp2_with fail
      go_ret
      exact ⟨rfl, hB⟩
    | true =>
      obtain ⟨la, ha⟩ := isSmall_bits wa ca
      obtain ⟨lb, hb⟩ := isSmall_bits wb cb
      exact walk_main A c a A' c' b ha hb la lb w hra hrb

set_option maxRecDepth 100000 in
theorem lifted (os : Os) (started : os.Started) (H : Type) (enc : TypeId × Value → H) :
    ReturnsInHanded {} Try.checked os 7 .any (Rows.bitsMulCommutesSpec.pre6 enc Try.prog Try.f7 Rows.bitsMulCommutesRow.domain false) (Rows.bitsMulCommutesSpec.post enc Try.prog Try.f7 false true false false) := by
  refine returnsInHanded_of_change (C := Try.checked) own started (by kernel_rfl) Try.func7
    (ChangeSpec.witness6 (enc := enc) (C := Try.checked) false ⟨#[], #[.slice none 0 0, .slice none 0 0], []⟩ 8 (by kernel_rfl) (by kernel_rfl) (by kernel_rfl) (by kernel_rfl)) ?_
  intro W base args ds gs before hval0 hW hcnd _
  have hval : ∀ (j : Nat) t v, Try.f7.params[j]? = some t → args[j]? = some v → Value.okWide Try.prog W .any base t v := hval0
  have hW' := hW
  obtain ⟨p, q, hA0, hV, rfl, hfz, hnd⟩ := hW
  have hA : DataW.TrodAll enc Try.prog W 0 (fun _ => true) true Try.f7.params.toList args.toList ds p := hA0
  rw [Try.params7] at hA hval
  obtain ⟨v0, v1, d0, d1, p0, p1, rfl, rfl, rfl, h0, h1⟩ := trodAll_two hA
  obtain ⟨rfl, rfl⟩ := trodVars_none hV
  clear hA0 hval0
  simp only [List.append_nil] at hW'
  have l0 : ∀ x ∈ p0, x.block < W.heap.size := fun x hx => hW'.lt x (by simp [hx])
  obtain ⟨A0, x0, c0, rfl, r0, b0⟩ := open_words (hval 0 24 v0 rfl rfl) h0 l0
  have l1 : ∀ x ∈ p1, x.block < W.heap.size := fun x hx => hW'.lt x (by simp [hx])
  obtain ⟨A1, x1, c1, rfl, r1, b1⟩ := open_words (hval 1 24 v1 rfl rfl) h1 l1
  refine (walk A0 c0 x0 A1 c1 x1 b0 b1 W r0 r1).mono fun e W' ⟨he, hb⟩ => ?_
  subst he
  exact ⟨_, rfl, post_of_below (pa := p0 ++ p1) (pv := []) hW' (fun _ _ _ => (trodAll_cons_mk (shut_bool Try.underlying4 _) trodAll_mk0)) (fun sp hsp => trodAll_mk2 (stays h0 hb l0 sp (fun x hx => hsp x (by simp [hx]))) (stays h1 hb l1 sp (fun x hx => hsp x (by simp [hx])))) (fun _ _ => rfl) (by simp)
    hb (ok_one (by kernel_rfl) rfl (okWide_bool_mk Try.underlying4 _))⟩

theorem over : Rows.bitsMulCommutesRow.holds Try.pinned (OpenSpec.ofChange Rows.bitsMulCommutesSpec) :=
  OpenClaim.holds_of_wide 7 Try.f7 rfl rfl rfl rfl rfl rfl rfl ⟨rfl, rfl, rfl, rfl, rfl⟩ rfl rfl rfl rfl rfl (by kernel_rfl) Try.func7 (by kernel_rfl)
    (of_decide_eq_true (by kernel_rfl)) (by unfold Func.isWrapper; first | (rw [if_pos (by decide +kernel)]; kernel_rfl) | (rw [if_neg (by decide +kernel)]; exact ⟨rfl, rfl⟩))
    (fun os started H enc _ => lifted os started H enc)

theorem proved : Rows.BitsMulCommutesSaid := over
end Go.Proofs.Ytcjibadnhhnpmaa.bitsMulCommutes
