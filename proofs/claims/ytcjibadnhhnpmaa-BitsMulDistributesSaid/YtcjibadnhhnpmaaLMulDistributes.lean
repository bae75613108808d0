/- BitsMulDistributes: for every three slices of words that are bit vectors of at most 20 bits, Mul of package bits distributes over Add. No conditions. -/
import Derived.Test.YtcjibadnhhnpmaaBOpen
namespace Go.Proofs.Ytcjibadnhhnpmaa.bitsMulDistributes
open Go.ChangeShapes Go.WideShapes Go.ChangeAt Go.RowKit BitMath

set_option maxRecDepth 100000 in
set_option maxHeartbeats 2000000 in
theorem walk_main (A : Option Addr) (c : Nat) (a : List Int) (A' : Option Addr) (c' : Nat) (b : List Int) (A'' : Option Addr) (c'' : Nat) (d : List Int) (ha : Bits a) (hb : Bits b) (hd : Bits d) (la : a.length ≤ 20) (lb : b.length ≤ 20) (ld : d.length ≤ 20) (w : World) (hra : Rd w.heap.size w A a) (hrb : Rd w.heap.size w A' b) (hrd : Rd w.heap.size w A'' d) :
    Calls Try.prog 9 #[.slice A a.length c, .slice A' b.length c', .slice A'' d.length c''] w fun e w' => e = .returned (.bool true) ∧ Below w.heap.size w w' := by
  have hsa := fun B w h => small20 A a c B w h
  have hsb := fun B w h => small20 A' b c' B w h
  have hsd := fun B w h => small20 A'' d c'' B w h
  rw [isSmall_of ha la] at hsa
  rw [isSmall_of hb lb] at hsb
  rw [isSmall_of hd ld] at hsd
  have hA1 := fun A A' c c' w h h' => add_any A A' c c' b d hb hd (by omega) (by omega) w h h'
  have hM2 := fun A A' c c' w h h' => mul_any A A' c c' a b ha hb (by omega) (by omega) w h h'
  have hM3 := fun A A' c c' w h h' => mul_any A A' c c' a d ha hd (by omega) (by omega) w h h'
  obtain ⟨S, hS1, hS2, hS3, hS4⟩ : ∃ S, digs (val b + val d) (max b.length d.length + 1) = S ∧ S.length = max b.length d.length + 1 ∧ Bits S ∧ val S = val b + val d := ⟨_, rfl, digs_length _ _, digs_bits _ _, val_add hb hd⟩
  obtain ⟨P, hP1, hP2, hP3, hP4⟩ : ∃ S, digs (val a * val b) (a.length + b.length) = S ∧ S.length = a.length + b.length ∧ Bits S ∧ val S = val a * val b := ⟨_, rfl, digs_length _ _, digs_bits _ _, val_mul ha hb⟩
  obtain ⟨R, hR1, hR2, hR3, hR4⟩ : ∃ S, digs (val a * val d) (a.length + d.length) = S ∧ S.length = a.length + d.length ∧ Bits S ∧ val S = val a * val d := ⟨_, rfl, digs_length _ _, digs_bits _ _, val_mul ha hd⟩
  rw [hS1] at hA1
  rw [hP1] at hM2
  rw [hR1] at hM3
  have hM1 := fun A A' c c' w h h' => mul_any A A' c c' a S ha hS3 (by omega) (by omega) w h h'
  have hA2 := fun A A' c c' w h h' => add_any A A' c c' P R hP3 hR3 (by omega) (by omega) w h h'
  obtain ⟨T, hT1, hT2, hT3, hT4⟩ : ∃ T, digs (val a * val S) (a.length + S.length) = T ∧ T.length = a.length + S.length ∧ Bits T ∧ val T = val a * val S := ⟨_, rfl, digs_length _ _, digs_bits _ _, val_mul ha hS3⟩
  obtain ⟨U, hU1, hU2, hU3, hU4⟩ : ∃ T, digs (val P + val R) (max P.length R.length + 1) = T ∧ T.length = max P.length R.length + 1 ∧ Bits T ∧ val T = val P + val R := ⟨_, rfl, digs_length _ _, digs_bits _ _, val_add hP3 hR3⟩
  rw [hT1] at hM1
  rw [hU1] at hA2
  have hE := fun A A' c c' w h h' => equal_any A A' c c' T U hT3 hU3 (by omega) (by omega) w h h'
  rw [show eq01 (val T) (val U) = 1 from if_pos (by rw [hT4, hU4, hS4, hP4, hR4, Int.mul_add])] at hE
  clear hS1 hS2 hS3 hS4 hP1 hP2 hP3 hP4 hR1 hR2 hR3 hR4 hT1 hT2 hT3 hT4 hU1 hU2 hU3 hU4
  go_enter Try.func9, Try.ntmps9
  go_wp2_with fail
  refine (awake_any _).mono ?_; rintro e w1 ⟨rfl, hB⟩
  replace hra := hra.next hB
  replace hrb := hrb.next hB
  replace hrd := hrd.next hB
  go_wp2_with fail
  refine (hsa _ _ hra).mono ?_; rintro e w2 ⟨rfl, rfl⟩
  go_wp2_with fail
  refine (hsb _ _ hrb).mono ?_; rintro e w2 ⟨rfl, rfl⟩
  go_wp2_with fail
  refine (hsd _ _ hrd).mono ?_; rintro e w2 ⟨rfl, rfl⟩
  go_wp2_with fail
  refine (hA1 _ _ _ _ _ hrb hrd).mono ?_; rintro e w3 ⟨A3, c3, rfl, hR3, hbx⟩
  replace hra := hra.next hbx
  replace hrb := hrb.next hbx
  replace hrd := hrd.next hbx
  replace hB := hB.trans (hbx.mono hB.size)
  clear hbx
  go_wp2_with fail
  refine (hM1 _ _ _ _ _ hra hR3).mono ?_; rintro e w4 ⟨A4, c4, rfl, hR4, hbx⟩
  replace hra := hra.next hbx
  replace hrb := hrb.next hbx
  replace hrd := hrd.next hbx
  replace hB := hB.trans (hbx.mono hB.size)
  clear hbx
  go_wp2_with fail
  refine (hM2 _ _ _ _ _ hra hrb).mono ?_; rintro e w5 ⟨A5, c5, rfl, hR5, hbx⟩
  replace hra := hra.next hbx
  replace hrd := hrd.next hbx
  replace hR4 := hR4.next hbx
  replace hB := hB.trans (hbx.mono hB.size)
  clear hbx
  go_wp2_with fail
  refine (hM3 _ _ _ _ _ hra hrd).mono ?_; rintro e w6 ⟨A6, c6, rfl, hR6, hbx⟩
  replace hR4 := hR4.next hbx
  replace hR5 := hR5.next hbx
  replace hB := hB.trans (hbx.mono hB.size)
  clear hbx
  go_wp2_with fail
  refine (hA2 _ _ _ _ _ hR5 hR6).mono ?_; rintro e w7 ⟨A7, c7, rfl, hR7, hbx⟩
  replace hR4 := hR4.next hbx
  replace hB := hB.trans (hbx.mono hB.size)
  clear hbx
  go_wp2_with fail
  refine (hE _ _ _ _ _ hR4 hR7).mono ?_; rintro e w8 ⟨rfl, hbx⟩
  replace hB := hB.trans (hbx.mono hB.size)
  clear hbx
  go_wp2_with fail
  go_ret
  exact ⟨rfl, hB⟩

set_option maxRecDepth 100000 in
set_option maxHeartbeats 1000000 in
theorem walk (A : Option Addr) (c : Nat) (a : List Int) (A' : Option Addr) (c' : Nat) (b : List Int) (A'' : Option Addr) (c'' : Nat) (d : List Int) (wa : Words a) (wb : Words b) (wd : Words d) (w : World) (hra : Rd w.heap.size w A a) (hrb : Rd w.heap.size w A' b) (hrd : Rd w.heap.size w A'' d) :
    Calls Try.prog 9 #[.slice A a.length c, .slice A' b.length c', .slice A'' d.length c''] w fun e w' => e = .returned (.bool true) ∧ Below w.heap.size w w' := by
  have hsa := fun B w h => small20 A a c B w h
  have hsb := fun B w h => small20 A' b c' B w h
  have hsd := fun B w h => small20 A'' d c'' B w h
  cases ca : isSmall a 20 with
  | false =>
    rw [ca] at hsa
    go_enter Try.func9, Try.ntmps9
    go_wp2_with fail
    refine (awake_any _).mono ?_; rintro e w1 ⟨rfl, hB⟩
    replace hra := hra.next hB
    replace hrb := hrb.next hB
    replace hrd := hrd.next hB
    go_wp2_with fail
    refine (hsa _ _ hra).mono ?_; rintro e w2 ⟨rfl, rfl⟩
    go_wp2_with fail
    go_ret
    exact ⟨rfl, hB⟩
  | true =>
    cases cb : isSmall b 20 with
    | false =>
      rw [ca] at hsa
      rw [cb] at hsb
      go_enter Try.func9, Try.ntmps9
      go_wp2_with fail
      refine (awake_any _).mono ?_; rintro e w1 ⟨rfl, hB⟩
      replace hra := hra.next hB
      replace hrb := hrb.next hB
      replace hrd := hrd.next hB
      go_wp2_with fail
      refine (hsa _ _ hra).mono ?_; rintro e w2 ⟨rfl, rfl⟩
      go_wp2_with fail
      refine (hsb _ _ hrb).mono ?_; rintro e w2 ⟨rfl, rfl⟩
      go_wp2_with fail
      go_ret
      exact ⟨rfl, hB⟩
    | true =>
      cases cd : isSmall d 20 with
      | false =>
        rw [ca] at hsa
        rw [cb] at hsb
        rw [cd] at hsd
        go_enter Try.func9, Try.ntmps9
        go_wp2_with fail
        refine (awake_any _).mono ?_; rintro e w1 ⟨rfl, hB⟩
        replace hra := hra.next hB
        replace hrb := hrb.next hB
        replace hrd := hrd.next hB
        go_wp2_with fail
        refine (hsa _ _ hra).mono ?_; rintro e w2 ⟨rfl, rfl⟩
        go_wp2_with fail
        refine (hsb _ _ hrb).mono ?_; rintro e w2 ⟨rfl, rfl⟩
        go_wp2_with fail
        refine (hsd _ _ hrd).mono ?_; rintro e w2 ⟨rfl, rfl⟩
        go_wp2_with fail
        go_ret
        exact ⟨rfl, hB⟩
      | true =>
        obtain ⟨la, ha⟩ := isSmall_bits wa ca
        obtain ⟨lb, hb⟩ := isSmall_bits wb cb
        obtain ⟨ld, hd⟩ := isSmall_bits wd cd
        exact walk_main A c a A' c' b A'' c'' d ha hb hd la lb ld w hra hrb hrd

set_option maxRecDepth 100000 in
theorem lifted (os : Os) (started : os.Started) (H : Type) (enc : TypeId × Value → H) :
    ReturnsInHanded {} Try.checked os 9 .any (Rows.bitsMulDistributesSpec.pre6 enc Try.prog Try.f9 Rows.bitsMulDistributesRow.domain false) (Rows.bitsMulDistributesSpec.post enc Try.prog Try.f9 false true false false) := by
  refine returnsInHanded_of_change (C := Try.checked) own started (by kernel_rfl) Try.func9
    (ChangeSpec.witness6 (enc := enc) (C := Try.checked) false ⟨#[], #[.slice none 0 0, .slice none 0 0, .slice none 0 0], []⟩ 8 (by kernel_rfl) (by kernel_rfl) (by kernel_rfl) (by kernel_rfl)) ?_
  intro W base args ds gs before hval0 hW hcnd _
  have hval : ∀ (j : Nat) t v, Try.f9.params[j]? = some t → args[j]? = some v → Value.okWide Try.prog W .any base t v := hval0
  have hW' := hW
  obtain ⟨p, q, hA0, hV, rfl, hfz, hnd⟩ := hW
  have hA : DataW.TrodAll enc Try.prog W 0 (fun _ => true) true Try.f9.params.toList args.toList ds p := hA0
  rw [Try.params9] at hA hval
  obtain ⟨v0, v1, v2, d0, d1, d2, p0, p1, p2, rfl, rfl, rfl, h0, h1, h2⟩ := trodAll_three hA
  obtain ⟨rfl, rfl⟩ := trodVars_none hV
  clear hA0 hval0
  simp only [List.append_nil] at hW'
  have l0 : ∀ x ∈ p0, x.block < W.heap.size := fun x hx => hW'.lt x (by simp [hx])
  obtain ⟨A0, x0, c0, rfl, r0, b0⟩ := open_words (hval 0 24 v0 rfl rfl) h0 l0
  have l1 : ∀ x ∈ p1, x.block < W.heap.size := fun x hx => hW'.lt x (by simp [hx])
  obtain ⟨A1, x1, c1, rfl, r1, b1⟩ := open_words (hval 1 24 v1 rfl rfl) h1 l1
  have l2 : ∀ x ∈ p2, x.block < W.heap.size := fun x hx => hW'.lt x (by simp [hx])
  obtain ⟨A2, x2, c2, rfl, r2, b2⟩ := open_words (hval 2 24 v2 rfl rfl) h2 l2
  refine (walk A0 c0 x0 A1 c1 x1 A2 c2 x2 b0 b1 b2 W r0 r1 r2).mono fun e W' ⟨he, hb⟩ => ?_
  subst he
  exact ⟨_, rfl, post_of_below (pa := p0 ++ (p1 ++ p2)) (pv := []) hW' (fun _ _ _ => (trodAll_cons_mk (shut_bool Try.underlying4 _) trodAll_mk0)) (fun sp hsp => trodAll_mk3 (stays h0 hb l0 sp (fun x hx => hsp x (by simp [hx]))) (stays h1 hb l1 sp (fun x hx => hsp x (by simp [hx]))) (stays h2 hb l2 sp (fun x hx => hsp x (by simp [hx])))) (fun _ _ => rfl) (by simp)
    hb (ok_one (by kernel_rfl) rfl (okWide_bool_mk Try.underlying4 _))⟩

theorem over : Rows.bitsMulDistributesRow.holds Try.pinned (OpenSpec.ofChange Rows.bitsMulDistributesSpec) :=
  OpenClaim.holds_of_wide 9 Try.f9 rfl rfl rfl rfl rfl rfl rfl ⟨rfl, rfl, rfl, rfl, rfl⟩ rfl rfl rfl rfl rfl (by kernel_rfl) Try.func9 (by kernel_rfl)
    (of_decide_eq_true (by kernel_rfl)) (by unfold Func.isWrapper; first | (rw [if_pos (by decide +kernel)]; kernel_rfl) | (rw [if_neg (by decide +kernel)]; exact ⟨rfl, rfl⟩))
    (fun os started H enc _ => lifted os started H enc)

theorem proved : Rows.BitsMulDistributesSaid := over
end Go.Proofs.Ytcjibadnhhnpmaa.bitsMulDistributes
