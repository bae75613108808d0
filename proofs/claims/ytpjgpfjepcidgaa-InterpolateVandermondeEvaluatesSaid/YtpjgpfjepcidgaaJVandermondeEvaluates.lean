/- InterpolateVandermondeEvaluates: for every prime and every two slices of words, the law returns true and changes nothing that lay. No conditions. -/
import Derived.Test.YtpjgpfjepcidgaaIOpen
namespace Go.Proofs.Ytpjgpfjepcidgaa.interpolateVandermondeEvaluates
open Go.ChangeShapes Go.WideShapes Go.ChangeAt Go.RowKit PolyMath FieldMath

set_option maxRecDepth 100000 in
set_option maxHeartbeats 4000000 in
theorem walk_main (p : Int) (A : Option Addr) (c : Nat) (xs : List Int) (B : Option Addr) (d : Nat) (f : List Int) (hp : OkP p) (_wp : Wd p) (wxs : Words xs) (wf : Words f) (h0 : (qOf p != 0) = true) (h1 : xs.length ≤ 12) (h2 : f.length ≤ 12) (h3 : decide (∀ x ∈ xs, x < p) = true) (h4 : decide (∀ x ∈ f, x < p) = true) (w : World) (sxs : Sl w A c xs) (sf : Sl w B d f) :
    Calls Try.prog 8 #[.int .u64 p, .slice A xs.length c, .slice B f.length d] w fun e w' => e = .returned (.bool true) ∧ Below w.heap.size w w' := by
  have hbd := hp.bd
  have hx := el_of wxs (of_decide_eq_true h3)
  have hf := el_of wf (of_decide_eq_true h4)
  have g0 := fun W => rSupported_any p W
  rw [h0] at g0
  have h1' : (xs.length : Int) ≤ 12 := by omega
  have h2' : (f.length : Int) ≤ 12 := by omega
  have g3 := fun W h => below_any p A c xs W h (by omega)
  rw [h3] at g3
  have g4 := fun W h => below_any p B d f W h (by omega)
  rw [h4] at g4
  go_enter Try.func8, Try.ntmps8
  go_wp2_with fail
  refine (awake_any _).mono ?_; rintro e w1 ⟨rfl, hB⟩
  replace sxs := sxs.next hB
  replace sf := sf.next hB
  go_wp2_with fail
  refine (g0 _).mono ?_; rintro e w2 ⟨rfl, hb⟩
  replace sxs := sxs.next hb
  replace sf := sf.next hb
  replace hB := hB.trans (hb.mono hB.size)
  clear hb
  go_wp2_with fail
  refine (g3 _ sxs).mono ?_; rintro e w' ⟨rfl, rfl⟩
  go_wp2_with fail
  refine (g4 _ sf).mono ?_; rintro e w' ⟨rfl, rfl⟩
  go_wp2_with fail
  refine (vand_any p f.length hp f.length (by omega) (by omega) A c xs hx (by omega) _ sxs).mono ?_
  rintro e w3 ⟨A3, c3, rfl, hs3, hb⟩
  replace sxs := sxs.next hb
  replace sf := sf.next hb
  replace hB := hB.trans (hb.mono hB.size)
  clear hb
  go_wp2_with fail
  refine (rVand_any p hp f.length (by omega) A c xs hx (by omega) _ sxs).mono ?_
  rintro e w4 ⟨A4, c4, rfl, hs4, hb⟩
  replace sxs := sxs.next hb
  replace sf := sf.next hb
  replace hs3 := hs3.next hb
  replace hB := hB.trans (hb.mono hB.size)
  clear hb
  have hsr := rows_b A3 A4 (vmx p xs f.length) c3 c4 w4 hs3 hs4 (by rw [vmx_len]; omega) (fun r hr => by unfold vmx at hr; obtain ⟨x, _, rfl⟩ := List.mem_map.1 hr; rw [pows_len]; omega)
  rw [vmx_len] at hsr
  go_wp2_with fail
  refine hsr.mono ?_
  rintro e w5 ⟨rfl, hb⟩
  replace sxs := sxs.next hb
  replace sf := sf.next hb
  replace hs3 := hs3.next hb
  replace hB := hB.trans (hb.mono hB.size)
  clear hb hs4 hsr
  go_wp2_with fail
  refine (vand_any p (-1) hp 0 (by omega) (by decide) A c xs hx (by omega) _ sxs).mono ?_
  rintro e w6 ⟨A6, c6, rfl, _, hb⟩
  replace sxs := sxs.next hb
  replace sf := sf.next hb
  replace hs3 := hs3.next hb
  replace hB := hB.trans (hb.mono hB.size)
  clear hb
  go_wp2_with fail
  go_loopw [8] (fun i wr => ∃ k : Nat, k ≤ xs.length ∧ i = .int .i64 k ∧ Below w6.heap.size w6 wr) (fun i _ => xs.length - (intOf i).toNat)
  case atStart => exact ⟨0, Nat.zero_le _, rfl, Below.refl _ _⟩
  case round =>
    obtain ⟨k, hk, rfl, hBr⟩ := hrel
    rename World => W0
    by_cases hlt : k < xs.length
    · obtain ⟨bx, ox, x, hA, hbx, hxk, hcx⟩ := sxs.at_ hlt
      obtain ⟨br, or_, r, A7, c7, hA7, hbr, hrk, hcr, hsr⟩ := hs3.at_ (show k < (vmx p xs f.length).length by rw [vmx_len]; exact hlt)
      have hr : r = pows p x f.length := by unfold vmx at hrk; rw [List.getElem?_map, hxk] at hrk; injection hrk with hrk; exact hrk.symm
      have hxb := hx x (List.mem_of_getElem? hxk)
      have hre : El p r := by
        rw [hr]; intro y hy
        unfold pows at hy
        obtain ⟨n, _, rfl⟩ := List.mem_map.1 hy
        exact md _ _ (by omega)
      have hrl : r.length = f.length := by rw [hr, pows_len]
      have hval : fsum p (fun n => fmul p (co r n) (co f n)) f.length = pev p f x := by rw [hr]; exact pows_value p x f
      have hV := Lib.hid hval
      have hkN : (k : Int) < xs.length := by omega
      have hev := fun W (h : Sl W B d f) => eval_any p x hp hxb B d f hf (by omega) W h
      subst hA hA7
      clear hxk hrk hr hval
      go_wp2
      go_loopw [9, 10] (fun s i wr => ∃ (j : Nat) (S : Int), j ≤ f.length ∧ i = .int .i64 j ∧ s = .int .u64 S ∧ 0 ≤ S ∧ S < p ∧ Hid (fsum p (fun n => fmul p (co r n) (co f n)) j = S) ∧ Below W0.heap.size W0 wr) (fun _ i _ => f.length - (intOf i).toNat)
      case atStart => exact ⟨0, 0, Nat.zero_le _, rfl, rfl, by omega, by omega, Lib.hid rfl, Below.refl _ _⟩
      case round =>
        obtain ⟨j, S, hj, rfl, rfl, hS0, hS, hE, hBi⟩ := hrel
        have hBB := hBr.trans (hBi.mono hBr.size)
        have hcx2 := (hBB.cell (p := ⟨bx, ox + k, none⟩) hbx).trans hcx
        by_cases hltj : j < f.length
        · obtain ⟨bf, of_, y, hBf, hbf, hyj, hcy⟩ := (sf.next hBB).at_ hltj
          obtain ⟨b7, o7, v, hA7, hb7, hvj, hcv⟩ := (hsr.next hBB).at_ (show j < r.length by omega)
          have hcr2 := (hBB.cell (p := ⟨br, or_ + k, none⟩) hbr).trans hcr
          have hyb := hf y (List.mem_of_getElem? hyj)
          have hvb := hre v (List.mem_of_getElem? hvj)
          have hn : fsum p (fun n => fmul p (co r n) (co f n)) (j + 1) = fadd p S (fmul p v y) := by show fadd p (fsum p _ j) (fmul p (co r j) (co f j)) = _; rw [hE.out, co_at hvj, co_at hyj]
          have hN := Lib.hid hn
          have hm := fmul_bd p v y (by omega)
          have hm2 := fadd_bd p S (fmul p v y) (by omega)
          have hjN : (j : Int) < f.length := by omega
          have hjr : (j : Int) < r.length := by omega
          subst hBf hA7
          clear hyj hvj hn
          go_wp2_with fail
          go_quiet (first | (go_at_call 23; exact quiet_left (mul_any _ _ _ hp hvb.1 hvb.2 hyb.1 hyb.2 _)) | (go_at_call 22; exact quiet_left (add_any _ _ _ hp hS0 hS hm.1 hm.2 _)))
          go_wp2
          go_roundw
          case rel => exact ⟨j + 1, _, by omega, by simp, rfl, hm2.1, hm2.2, hN, below_drewN hBi _⟩
          case measure => simp [intOf]; omega
        · obtain rfl : j = f.length := by omega
          have hS1 : S = pev p f x := by rw [← hE.out]; exact hV.out
          subst hS1
          have hev2 := hev _ (sf.next hBB)
          go_wp2_with (go_at_call 16; refine hev2.mono ?_; clear hev2; rintro e w8 ⟨rfl, hb8⟩)
          go_roundw
          case rel => exact ⟨k + 1, by omega, by simp, hBB.trans (hb8.mono hBB.size)⟩
          case measure => simp [intOf]; omega
    · obtain rfl : k = xs.length := by omega
      go_wp2
      go_ret
      exact ⟨rfl, hB.trans (hBr.mono hB.size)⟩

set_option maxRecDepth 100000 in
set_option maxHeartbeats 4000000 in
theorem walk (p : Int) (A : Option Addr) (c : Nat) (xs : List Int) (B : Option Addr) (d : Nat) (f : List Int) (wp : Wd p) (wxs : Words xs) (wf : Words f) (w : World) (sxs : Sl w A c xs) (sf : Sl w B d f) :
    Calls Try.prog 8 #[.int .u64 p, .slice A xs.length c, .slice B f.length d] w fun e w' => e = .returned (.bool true) ∧ Below w.heap.size w w' := by
  rcases sup_cases p with h0 | ⟨h0, hp⟩
  · have g0 := fun W => rSupported_any p W
    rw [h0] at g0
    go_enter Try.func8, Try.ntmps8
    go_wp2_with fail
    refine (awake_any _).mono ?_; rintro e w1 ⟨rfl, hB⟩
    replace sxs := sxs.next hB
    replace sf := sf.next hB
    go_wp2_with fail
    refine (g0 _).mono ?_; rintro e w2 ⟨rfl, hb⟩
    replace sxs := sxs.next hb
    replace sf := sf.next hb
    replace hB := hB.trans (hb.mono hB.size)
    clear hb
    go_wp2_with fail
    go_ret
    exact ⟨rfl, hB⟩
  · rcases Nat.lt_or_ge 12 xs.length with h1 | h1
    · have g0 := fun W => rSupported_any p W
      rw [h0] at g0
      have h1' : (12 : Int) < xs.length := by omega
      go_enter Try.func8, Try.ntmps8
      go_wp2_with fail
      refine (awake_any _).mono ?_; rintro e w1 ⟨rfl, hB⟩
      replace sxs := sxs.next hB
      replace sf := sf.next hB
      go_wp2_with fail
      refine (g0 _).mono ?_; rintro e w2 ⟨rfl, hb⟩
      replace sxs := sxs.next hb
      replace sf := sf.next hb
      replace hB := hB.trans (hb.mono hB.size)
      clear hb
      go_wp2_with fail
      go_ret
      exact ⟨rfl, hB⟩
    · rcases Nat.lt_or_ge 12 f.length with h2 | h2
      · have g0 := fun W => rSupported_any p W
        rw [h0] at g0
        have h1' : (xs.length : Int) ≤ 12 := by omega
        have h2' : (12 : Int) < f.length := by omega
        go_enter Try.func8, Try.ntmps8
        go_wp2_with fail
        refine (awake_any _).mono ?_; rintro e w1 ⟨rfl, hB⟩
        replace sxs := sxs.next hB
        replace sf := sf.next hB
        go_wp2_with fail
        refine (g0 _).mono ?_; rintro e w2 ⟨rfl, hb⟩
        replace sxs := sxs.next hb
        replace sf := sf.next hb
        replace hB := hB.trans (hb.mono hB.size)
        clear hb
        go_wp2_with fail
        go_ret
        exact ⟨rfl, hB⟩
      · rcases Bool.eq_false_or_eq_true (decide (∀ x ∈ xs, x < p)) with h3 | h3; rotate_left
        · have g0 := fun W => rSupported_any p W
          rw [h0] at g0
          have h1' : (xs.length : Int) ≤ 12 := by omega
          have h2' : (f.length : Int) ≤ 12 := by omega
          have g3 := fun W h => below_any p A c xs W h (by omega)
          rw [h3] at g3
          go_enter Try.func8, Try.ntmps8
          go_wp2_with fail
          refine (awake_any _).mono ?_; rintro e w1 ⟨rfl, hB⟩
          replace sxs := sxs.next hB
          replace sf := sf.next hB
          go_wp2_with fail
          refine (g0 _).mono ?_; rintro e w2 ⟨rfl, hb⟩
          replace sxs := sxs.next hb
          replace sf := sf.next hb
          replace hB := hB.trans (hb.mono hB.size)
          clear hb
          go_wp2_with fail
          refine (g3 _ sxs).mono ?_; rintro e w' ⟨rfl, rfl⟩
          go_wp2_with fail
          go_ret
          exact ⟨rfl, hB⟩
        · rcases Bool.eq_false_or_eq_true (decide (∀ x ∈ f, x < p)) with h4 | h4; rotate_left
          · have g0 := fun W => rSupported_any p W
            rw [h0] at g0
            have h1' : (xs.length : Int) ≤ 12 := by omega
            have h2' : (f.length : Int) ≤ 12 := by omega
            have g3 := fun W h => below_any p A c xs W h (by omega)
            rw [h3] at g3
            have g4 := fun W h => below_any p B d f W h (by omega)
            rw [h4] at g4
            go_enter Try.func8, Try.ntmps8
            go_wp2_with fail
            refine (awake_any _).mono ?_; rintro e w1 ⟨rfl, hB⟩
            replace sxs := sxs.next hB
            replace sf := sf.next hB
            go_wp2_with fail
            refine (g0 _).mono ?_; rintro e w2 ⟨rfl, hb⟩
            replace sxs := sxs.next hb
            replace sf := sf.next hb
            replace hB := hB.trans (hb.mono hB.size)
            clear hb
            go_wp2_with fail
            refine (g3 _ sxs).mono ?_; rintro e w' ⟨rfl, rfl⟩
            go_wp2_with fail
            refine (g4 _ sf).mono ?_; rintro e w' ⟨rfl, rfl⟩
            go_wp2_with fail
            go_ret
            exact ⟨rfl, hB⟩
          · exact walk_main p A c xs B d f hp wp wxs wf h0 h1 h2 h3 h4 w sxs sf

set_option maxRecDepth 100000 in
theorem lifted (os : Os) (started : os.Started) (H : Type) (enc : TypeId × Value → H) :
    ReturnsInHanded {} Try.checked os 8 .any (Rows.interpolateVandermondeEvaluatesSpec.pre6 enc Try.prog Try.f8 Rows.interpolateVandermondeEvaluatesRow.domain false) (Rows.interpolateVandermondeEvaluatesSpec.post enc Try.prog Try.f8 false true false false) := by
  refine returnsInHanded_of_change (C := Try.checked) own started (by kernel_rfl) Try.func8
    (ChangeSpec.witness6 (enc := enc) (C := Try.checked) false ⟨#[], #[.int .u64 0, .slice none 0 0, .slice none 0 0], []⟩ 8 (by kernel_rfl) (by kernel_rfl) (by kernel_rfl) (by kernel_rfl)) ?_
  intro W base args ds gs before hval0 hW hcnd _
  have hval : ∀ (j : Nat) t v, Try.f8.params[j]? = some t → args[j]? = some v → Value.okWide Try.prog W .any base t v := hval0
  have hW' := hW
  obtain ⟨p, q, hA0, hV, rfl, hfz, hnd⟩ := hW
  have hA : DataW.TrodAll enc Try.prog W 0 (fun _ => true) true Try.f8.params.toList args.toList ds p := hA0
  rw [Try.params8] at hA hval
  obtain ⟨v0, v1, v2, d0, d1, d2, p0, p1, p2, rfl, rfl, rfl, t0, t1, t2⟩ := trodAll_three hA
  obtain ⟨rfl, rfl⟩ := trodVars_none hV
  clear hA0 hval0
  simp only [List.append_nil] at hW'
  have l0 : ∀ x ∈ p0, x.block < W.heap.size := fun x hx => hW'.lt x (by simp [hx])
  obtain ⟨x0, rfl, b0⟩ := arg_word (hval 0 22 v0 rfl rfl) t0
  have l1 : ∀ x ∈ p1, x.block < W.heap.size := fun x hx => hW'.lt x (by simp [hx])
  obtain ⟨A1, x1, c1, rfl, r1, b1⟩ := arg_sl (hval 1 27 v1 rfl rfl) t1 l1
  have l2 : ∀ x ∈ p2, x.block < W.heap.size := fun x hx => hW'.lt x (by simp [hx])
  obtain ⟨A2, x2, c2, rfl, r2, b2⟩ := arg_sl (hval 2 27 v2 rfl rfl) t2 l2
  refine (walk x0 A1 c1 x1 A2 c2 x2 b0 b1 b2 W r1 r2).mono fun e W' ⟨he, hb⟩ => ?_
  subst he
  exact ⟨_, rfl, post_of_below (pa := p0 ++ (p1 ++ p2)) (pv := []) hW' (fun _ _ _ => (trodAll_cons_mk (shut_bool Try.underlying4 _) trodAll_mk0)) (fun sp hsp => trodAll_mk3 (stay_word t0 hb l0 sp (fun x hx => hsp x (by simp [hx]))) (stays t1 hb l1 sp (fun x hx => hsp x (by simp [hx]))) (stays t2 hb l2 sp (fun x hx => hsp x (by simp [hx])))) (fun _ _ => rfl) (by simp)
    hb (ok_one (by kernel_rfl) rfl (okWide_bool_mk Try.underlying4 _))⟩

theorem over : Rows.interpolateVandermondeEvaluatesRow.holds Try.pinned (OpenSpec.ofChange Rows.interpolateVandermondeEvaluatesSpec) :=
  OpenClaim.holds_of_wide 8 Try.f8 rfl rfl rfl rfl rfl rfl rfl ⟨rfl, rfl, rfl, rfl, rfl⟩ rfl rfl rfl rfl rfl (by kernel_rfl) Try.func8 (by kernel_rfl)
    (of_decide_eq_true (by kernel_rfl)) (by unfold Func.isWrapper; first | (rw [if_pos (by decide +kernel)]; kernel_rfl) | (rw [if_neg (by decide +kernel)]; exact ⟨rfl, rfl⟩))
    (fun os started H enc _ => lifted os started H enc)

theorem proved : Rows.InterpolateVandermondeEvaluatesSaid := over
end Go.Proofs.Ytpjgpfjepcidgaa.interpolateVandermondeEvaluates
