/- InterpolateIsUnique: for every prime and every two slices of words, the law returns true and changes nothing that lay. No conditions. -/
import Derived.Test.YtpjgpfjepcidgaaIGrow
namespace Go.Proofs.Ytpjgpfjepcidgaa.interpolateIsUnique
open Go.ChangeShapes Go.WideShapes Go.ChangeAt Go.RowKit PolyMath FieldMath

set_option maxRecDepth 100000 in
set_option maxHeartbeats 4000000 in
theorem walk_main (p : Int) (A : Option Addr) (c : Nat) (f : List Int) (B : Option Addr) (d : Nat) (xs : List Int) (hp : OkP p) (_wp : Wd p) (wf : Words f) (wxs : Words xs) (h0 : (qOf p != 0) = true) (h1 : f.length ≤ 10) (h2 : xs.length ≤ 12) (h3 : f.length ≤ xs.length) (h4 : decide (∀ x ∈ f, x < p) = true) (h5 : decide (∀ x ∈ xs, x < p) = true) (h6 : decide (xs).Nodup = true) (w : World) (sf : Sl w A c f) (sxs : Sl w B d xs) :
    Calls Try.prog 4 #[.int .u64 p, .slice A f.length c, .slice B xs.length d] w fun e w' => e = .returned (.bool true) ∧ Below w.heap.size w w' := by
  obtain ⟨i0, hi, hz0, hz1, hz2⟩ := info_parts info_pt
  have hbd := hp.bd
  have hf := el_of wf (of_decide_eq_true h4)
  have hx := el_of wxs (of_decide_eq_true h5)
  have hnd := of_decide_eq_true h6
  have hpx : px (xs.map fun x => (x, pev p f x)) = xs := px_zip
  have hpy : py (xs.map fun x => (x, pev p f x)) = xs.map (pev p f) := py_zip
  have hxe : El p (px (xs.map fun x => (x, pev p f x))) := by rw [hpx]; exact hx
  have hye : El p (py (xs.map fun x => (x, pev p f x))) := by
    rw [hpy]; intro y hy
    obtain ⟨x, _, rfl⟩ := List.mem_map.1 hy
    exact pev_bd (by omega) _ _
  have hnp : (px (xs.map fun x => (x, pev p f x))).Nodup := by rw [hpx]; exact hnd
  have hit : thru p (xs.map fun x => (x, pev p f x)) = trim f := by
    have t1 := thru_itp hp.good hnp hxe hye
    rw [hpx, hpy] at t1
    exact t1.unique hp.good hnd hx (Itp.own hf h3)
  have hpol := fun W A1 c1 (h : Pt W A1 c1 (xs.map fun x => (x, pev p f x))) => pol_any p hp A1 c1 _ hxe hye (by rw [List.length_map]; omega) W h
  unfold PolRow at hpol
  rw [hit, List.length_map] at hpol
  have hPOL := Lib.hid hpol
  have hNP := Lib.hid hnp
  have htl : (trim f).length ≤ 10 := by rw [trim_length]; have := tn_le f; omega
  clear hpx hpy hxe hye hnp hit hpol hnd
  have g0 := fun W => rSupported_any p W
  rw [h0] at g0
  have h1' : (f.length : Int) ≤ 10 := by omega
  have h2' : (xs.length : Int) ≤ 12 := by omega
  have h3' : (f.length : Int) ≤ xs.length := by omega
  have g4 := fun W h => below_any p A c f W h (by omega)
  rw [h4] at g4
  have g5 := fun W h => below_any p B d xs W h (by omega)
  rw [h5] at g5
  have g6 := fun W h => unlike_b B d xs W h (by omega) _ h6
  go_enter Try.func4, Try.ntmps4
  go_wp2_with fail
  refine (awake_any _).mono ?_; rintro e w1 ⟨rfl, hB⟩
  replace sf := sf.next hB
  replace sxs := sxs.next hB
  go_wp2_with fail
  refine (g0 _).mono ?_; rintro e w2 ⟨rfl, hb⟩
  replace sf := sf.next hb
  replace sxs := sxs.next hb
  replace hB := hB.trans (hb.mono hB.size)
  clear hb
  go_wp2_with fail
  refine (g4 _ sf).mono ?_; rintro e w' ⟨rfl, rfl⟩
  go_wp2_with fail
  refine (g5 _ sxs).mono ?_; rintro e w' ⟨rfl, rfl⟩
  go_wp2_with fail
  refine (g6 _ sxs).mono ?_; rintro e w3 ⟨rfl, hb⟩
  replace sf := sf.next hb
  replace sxs := sxs.next hb
  replace hB := hB.trans (hb.mono hB.size)
  clear hb
  go_wp2_with fail
  have e1 : decide ((10 : Int) < f.length) = false := decide_eq_false (by omega)
  have e2 : decide ((12 : Int) < xs.length) = false := decide_eq_false (by omega)
  have e3 : decide (xs.length < f.length) = false := decide_eq_false (by omega)
  simp only [e1, e2, e3, Bool.or_false]
  clear h3 h3' e1 e2 e3
  go_loopw [7, 8] (fun v i wr => ∃ k : Nat, k ≤ xs.length ∧ i = .int .i64 k ∧ wr.ownsRow w3.heap.size 34 2 v k (pcells ((xs.take k).map fun x => (x, pev p f x))) ∧ Below w3.heap.size w3 wr) (fun _ i _ => xs.length - (intOf i).toNat)
  case atStart => exact ⟨0, Nat.zero_le _, rfl, World.ownsRow_nil _ _ _ _, Below.refl _ _⟩
  case round =>
    obtain ⟨k, hk, rfl, hrow, hBr⟩ := hrel
    by_cases hlt : k < xs.length
    · obtain ⟨b, off, x, hA, hbl, hxk, hcx0⟩ := sxs.at_ hlt
      subst hA
      have hcx := (hBr.cell (p := ⟨b, off + k, none⟩) hbl).trans hcx0
      have hblr : b < wr.heap.size := Nat.lt_of_lt_of_le hbl hBr.size
      have hxb := hx x (List.mem_of_getElem? hxk)
      have hsn : pcells ((xs.take (k + 1)).map fun x => (x, pev p f x)) = pcells ((xs.take k).map fun x => (x, pev p f x)) ++ [.int .u64 x, .int .u64 (pev p f x)] := by
        rw [List.take_add_one, hxk, List.map_append]; exact pcells_snoc _ (x, pev p f x)
      have hSN := Lib.hid hsn
      have hev := eval_any p x hp hxb A c f hf (by omega) wr.drew (sf.next hBr).drew
      have hkN : (k : Int) < xs.length := by omega
      have hdr : Below wr.heap.size wr wr.drew := (Below.refl _ wr).drew
      have hfar : ∀ v, wr.ownsRow w3.heap.size 34 2 v k (pcells ((xs.take k).map fun x => (x, pev p f x))) → some b ≠ v.ownBlock := fun v h e => by have := (World.ownsRow.lt h b e.symm).1; omega
      have hsz3 := hBr.size
      clear hxk hsn hcx0
      generalize pev p f x = y at *
      go_wp2_with fail
      go_region_held3 (fun w' => w'.cell? ⟨b, off + k, none⟩ = some (.int .u64 x))
        (first | assumption | exact hcx)
        (first
          | (go_at_call 16; (with_reducible refine hev.mono ?_); rintro e w6 ⟨rfl, hb6⟩; have hB6 := hdr.trans (hb6.mono hdr.size); have own6 := own_belowN hrow hB6; have hbl6 : b < w6.heap.size := Nat.lt_of_lt_of_le hblr hB6.size; have cx6 := (hB6.cell (p := ⟨b, off + k, none⟩) hblr).trans hcx; have cx6' := ((bnew (Below.refl w6.heap.size w6) (.cells #[.int .u64 x, .int .u64 y] 34) (Nat.le_refl _)).cell (p := ⟨b, off + k, none⟩) hbl6).trans cx6; have hsz6 := hB6.size; clear hb6 hev)
          | (refine step_append_lies _ (by rfl) _ _ _ (by rfl) w3.heap.size 34 i0 _ 2 16 Try.underlying23 hi hz0 hz1 hz2 rfl (by omega) _ k _ (by rfl) (own6.alloc _) ⟨w6.heap.size, 0, none⟩ 1 1 [.int .u64 x, .int .u64 y] (by rfl) (by rfl) (World.news_of_block (cs := #[.int .u64 x, .int .u64 y]) (t := 34) (fr := (0, 0)) (World.alloc_heap_new w6 _)) (by simp [Value.oneCell']) (by omega) (by simp only [maxLen]; omega) (by omega) (by simp; omega) (w6.heap.size + 1) (by simp) ?_; intro gg cap w7 hown7 hgrow hat hlt7; have cx7 := hgrow.cell cx6' (hfar _ hrow)))
      all_goals
        have hB7 : Below w3.heap.size w3 w7 := (bnew (hBr.trans (hB6.mono hBr.size)) (.cells #[.int .u64 x, .int .u64 y] 34) (Nat.le_refl _)).grown hgrow (by simp; omega) (fun k e => (hrow.lt k e).1)
        go_wp2_with fail
        go_roundw
        case rel => exact ⟨k + 1, by omega, by simp, by rw [hSN.out]; exact hown7, hB7⟩
        case measure => simp [intOf]; omega
    · obtain rfl : k = xs.length := by omega
      rw [List.take_length] at hrow
      obtain ⟨A7, c7, hv, hs7⟩ := pown_form hrow
      rw [List.length_map] at hv
      subst hv
      have hB8 := hB.trans (hBr.mono hB.size)
      have sf8 := sf.next hBr
      clear hrow
      go_wp2_with fail
      refine (hPOL.out _ _ _ hs7).mono ?_
      rintro e w8 (⟨_, A8, c8, rfl, hs8, hb⟩ | ⟨hn, _⟩)
      case inr => exact absurd hNP.out hn
      have sf9 := sf8.next hb
      have hB9 := hB8.trans (hb.mono hB8.size)
      clear hb
      go_wp2_with fail
      refine (rTrim_any A c f _ sf9 (by omega)).mono ?_
      rintro e w9 ⟨A9, c9, rfl, hs9, hb⟩
      have hs8' := hs8.next hb
      have hB10 := hB9.trans (hb.mono hB9.size)
      clear hb
      go_wp2_with fail
      refine (same_b _ _ (trim f) _ _ _ hs8' hs9 (by omega)).mono ?_
      rintro e w10 ⟨rfl, hb⟩
      have hB11 := hB10.trans (hb.mono hB10.size)
      go_wp2_with fail
      go_ret
      exact ⟨rfl, hB11⟩

set_option maxRecDepth 100000 in
set_option maxHeartbeats 4000000 in
theorem walk (p : Int) (A : Option Addr) (c : Nat) (f : List Int) (B : Option Addr) (d : Nat) (xs : List Int) (wp : Wd p) (wf : Words f) (wxs : Words xs) (w : World) (sf : Sl w A c f) (sxs : Sl w B d xs) :
    Calls Try.prog 4 #[.int .u64 p, .slice A f.length c, .slice B xs.length d] w fun e w' => e = .returned (.bool true) ∧ Below w.heap.size w w' := by
  rcases sup_cases p with h0 | ⟨h0, hp⟩
  · have g0 := fun W => rSupported_any p W
    rw [h0] at g0
    go_enter Try.func4, Try.ntmps4
    go_wp2_with fail
    refine (awake_any _).mono ?_; rintro e w1 ⟨rfl, hB⟩
    replace sf := sf.next hB
    replace sxs := sxs.next hB
    go_wp2_with fail
    refine (g0 _).mono ?_; rintro e w2 ⟨rfl, hb⟩
    replace sf := sf.next hb
    replace sxs := sxs.next hb
    replace hB := hB.trans (hb.mono hB.size)
    clear hb
    go_wp2_with fail
    go_ret
    exact ⟨rfl, hB⟩
  · rcases Nat.lt_or_ge 10 f.length with h1 | h1
    · have g0 := fun W => rSupported_any p W
      rw [h0] at g0
      have h1' : (10 : Int) < f.length := by omega
      go_enter Try.func4, Try.ntmps4
      go_wp2_with fail
      refine (awake_any _).mono ?_; rintro e w1 ⟨rfl, hB⟩
      replace sf := sf.next hB
      replace sxs := sxs.next hB
      go_wp2_with fail
      refine (g0 _).mono ?_; rintro e w2 ⟨rfl, hb⟩
      replace sf := sf.next hb
      replace sxs := sxs.next hb
      replace hB := hB.trans (hb.mono hB.size)
      clear hb
      go_wp2_with fail
      go_ret
      exact ⟨rfl, hB⟩
    · rcases Nat.lt_or_ge 12 xs.length with h2 | h2
      · have g0 := fun W => rSupported_any p W
        rw [h0] at g0
        have h1' : (f.length : Int) ≤ 10 := by omega
        have h2' : (12 : Int) < xs.length := by omega
        go_enter Try.func4, Try.ntmps4
        go_wp2_with fail
        refine (awake_any _).mono ?_; rintro e w1 ⟨rfl, hB⟩
        replace sf := sf.next hB
        replace sxs := sxs.next hB
        go_wp2_with fail
        refine (g0 _).mono ?_; rintro e w2 ⟨rfl, hb⟩
        replace sf := sf.next hb
        replace sxs := sxs.next hb
        replace hB := hB.trans (hb.mono hB.size)
        clear hb
        go_wp2_with fail
        go_ret
        exact ⟨rfl, hB⟩
      · rcases Nat.lt_or_ge xs.length f.length with h3 | h3
        · have g0 := fun W => rSupported_any p W
          rw [h0] at g0
          have h1' : (f.length : Int) ≤ 10 := by omega
          have h2' : (xs.length : Int) ≤ 12 := by omega
          have h3' : (xs.length : Int) < f.length := by omega
          go_enter Try.func4, Try.ntmps4
          go_wp2_with fail
          refine (awake_any _).mono ?_; rintro e w1 ⟨rfl, hB⟩
          replace sf := sf.next hB
          replace sxs := sxs.next hB
          go_wp2_with fail
          refine (g0 _).mono ?_; rintro e w2 ⟨rfl, hb⟩
          replace sf := sf.next hb
          replace sxs := sxs.next hb
          replace hB := hB.trans (hb.mono hB.size)
          clear hb
          go_wp2_with fail
          go_ret
          exact ⟨rfl, hB⟩
        · rcases Bool.eq_false_or_eq_true (decide (∀ x ∈ f, x < p)) with h4 | h4; rotate_left
          · have g0 := fun W => rSupported_any p W
            rw [h0] at g0
            have h1' : (f.length : Int) ≤ 10 := by omega
            have h2' : (xs.length : Int) ≤ 12 := by omega
            have h3' : (f.length : Int) ≤ xs.length := by omega
            have g4 := fun W h => below_any p A c f W h (by omega)
            rw [h4] at g4
            go_enter Try.func4, Try.ntmps4
            go_wp2_with fail
            refine (awake_any _).mono ?_; rintro e w1 ⟨rfl, hB⟩
            replace sf := sf.next hB
            replace sxs := sxs.next hB
            go_wp2_with fail
            refine (g0 _).mono ?_; rintro e w2 ⟨rfl, hb⟩
            replace sf := sf.next hb
            replace sxs := sxs.next hb
            replace hB := hB.trans (hb.mono hB.size)
            clear hb
            go_wp2_with fail
            refine (g4 _ sf).mono ?_; rintro e w' ⟨rfl, rfl⟩
            go_wp2_with fail
            go_ret
            exact ⟨rfl, hB⟩
          · rcases Bool.eq_false_or_eq_true (decide (∀ x ∈ xs, x < p)) with h5 | h5; rotate_left
            · have g0 := fun W => rSupported_any p W
              rw [h0] at g0
              have h1' : (f.length : Int) ≤ 10 := by omega
              have h2' : (xs.length : Int) ≤ 12 := by omega
              have h3' : (f.length : Int) ≤ xs.length := by omega
              have g4 := fun W h => below_any p A c f W h (by omega)
              rw [h4] at g4
              have g5 := fun W h => below_any p B d xs W h (by omega)
              rw [h5] at g5
              go_enter Try.func4, Try.ntmps4
              go_wp2_with fail
              refine (awake_any _).mono ?_; rintro e w1 ⟨rfl, hB⟩
              replace sf := sf.next hB
              replace sxs := sxs.next hB
              go_wp2_with fail
              refine (g0 _).mono ?_; rintro e w2 ⟨rfl, hb⟩
              replace sf := sf.next hb
              replace sxs := sxs.next hb
              replace hB := hB.trans (hb.mono hB.size)
              clear hb
              go_wp2_with fail
              refine (g4 _ sf).mono ?_; rintro e w' ⟨rfl, rfl⟩
              go_wp2_with fail
              refine (g5 _ sxs).mono ?_; rintro e w' ⟨rfl, rfl⟩
              go_wp2_with fail
              go_ret
              exact ⟨rfl, hB⟩
            · rcases Bool.eq_false_or_eq_true (decide (xs).Nodup) with h6 | h6; rotate_left
              · have g0 := fun W => rSupported_any p W
                rw [h0] at g0
                have h1' : (f.length : Int) ≤ 10 := by omega
                have h2' : (xs.length : Int) ≤ 12 := by omega
                have h3' : (f.length : Int) ≤ xs.length := by omega
                have g4 := fun W h => below_any p A c f W h (by omega)
                rw [h4] at g4
                have g5 := fun W h => below_any p B d xs W h (by omega)
                rw [h5] at g5
                have g6 := fun W h => unlike_b B d xs W h (by omega) _ h6
                go_enter Try.func4, Try.ntmps4
                go_wp2_with fail
                refine (awake_any _).mono ?_; rintro e w1 ⟨rfl, hB⟩
                replace sf := sf.next hB
                replace sxs := sxs.next hB
                go_wp2_with fail
                refine (g0 _).mono ?_; rintro e w2 ⟨rfl, hb⟩
                replace sf := sf.next hb
                replace sxs := sxs.next hb
                replace hB := hB.trans (hb.mono hB.size)
                clear hb
                go_wp2_with fail
                refine (g4 _ sf).mono ?_; rintro e w' ⟨rfl, rfl⟩
                go_wp2_with fail
                refine (g5 _ sxs).mono ?_; rintro e w' ⟨rfl, rfl⟩
                go_wp2_with fail
                refine (g6 _ sxs).mono ?_; rintro e w3 ⟨rfl, hb⟩
                replace sf := sf.next hb
                replace sxs := sxs.next hb
                replace hB := hB.trans (hb.mono hB.size)
                clear hb
                go_wp2_with fail
                go_ret
                exact ⟨rfl, hB⟩
              · exact walk_main p A c f B d xs hp wp wf wxs h0 h1 h2 h3 h4 h5 h6 w sf sxs

set_option maxRecDepth 100000 in
theorem lifted (os : Os) (started : os.Started) (H : Type) (enc : TypeId × Value → H) :
    ReturnsInHanded {} Try.checked os 4 .any (Rows.interpolateIsUniqueSpec.pre6 enc Try.prog Try.f4 Rows.interpolateIsUniqueRow.domain false) (Rows.interpolateIsUniqueSpec.post enc Try.prog Try.f4 false true false false) := by
  refine returnsInHanded_of_change (C := Try.checked) own started (by kernel_rfl) Try.func4
    (ChangeSpec.witness6 (enc := enc) (C := Try.checked) false ⟨#[], #[.int .u64 0, .slice none 0 0, .slice none 0 0], []⟩ 8 (by kernel_rfl) (by kernel_rfl) (by kernel_rfl) (by kernel_rfl)) ?_
  intro W base args ds gs before hval0 hW hcnd _
  have hval : ∀ (j : Nat) t v, Try.f4.params[j]? = some t → args[j]? = some v → Value.okWide Try.prog W .any base t v := hval0
  have hW' := hW
  obtain ⟨p, q, hA0, hV, rfl, hfz, hnd⟩ := hW
  have hA : DataW.TrodAll enc Try.prog W 0 (fun _ => true) true Try.f4.params.toList args.toList ds p := hA0
  rw [Try.params4] at hA hval
  obtain ⟨v0, v1, v2, d0, d1, d2, p0, p1, p2, rfl, rfl, rfl, t0, t1, t2⟩ := trodAll_three hA
  obtain ⟨rfl, rfl⟩ := trodVars_none hV
  clear hA0 hval0
  simp only [List.append_nil] at hW'
  have l0 : ∀ x ∈ p0, x.block < W.heap.size := fun x hx => hW'.lt x (by simp [hx])
  obtain ⟨x0, rfl, b0⟩ := arg_word (hval 0 22 v0 rfl rfl) t0
  have l1 : ∀ x ∈ p1, x.block < W.heap.size := fun x hx => hW'.lt x (by simp [hx])
  obtain ⟨A1, x1, c1, rfl, r1, b1⟩ := arg_sl (hval 1 27 v1 rfl rfl) t1 l1
  have l2 : ∀ x ∈ p2, x.block < W.heap.size := fun x hx => hW'.lt x (by simp [hx])
  obtain ⟨A2, x2, c2, rfl, r2, b2⟩ := arg_sl (hval 2 27 v2 rfl rfl) t2 l2
  refine (walk x0 A1 c1 x1 A2 c2 x2 b0 b1 b2 W r1 r2).mono fun e W' ⟨he, hb⟩ => ?_
  subst he
  exact ⟨_, rfl, post_of_below (pa := p0 ++ (p1 ++ p2)) (pv := []) hW' (fun _ _ _ => (trodAll_cons_mk (shut_bool Try.underlying4 _) trodAll_mk0)) (fun sp hsp => trodAll_mk3 (stay_word t0 hb l0 sp (fun x hx => hsp x (by simp [hx]))) (stays t1 hb l1 sp (fun x hx => hsp x (by simp [hx]))) (stays t2 hb l2 sp (fun x hx => hsp x (by simp [hx])))) (fun _ _ => rfl) (by simp)
    hb (ok_one (by kernel_rfl) rfl (okWide_bool_mk Try.underlying4 _))⟩

theorem over : Rows.interpolateIsUniqueRow.holds Try.pinned (OpenSpec.ofChange Rows.interpolateIsUniqueSpec) :=
  OpenClaim.holds_of_wide 4 Try.f4 rfl rfl rfl rfl rfl rfl rfl ⟨rfl, rfl, rfl, rfl, rfl⟩ rfl rfl rfl rfl rfl (by kernel_rfl) Try.func4 (by kernel_rfl)
    (of_decide_eq_true (by kernel_rfl)) (by unfold Func.isWrapper; first | (rw [if_pos (by decide +kernel)]; kernel_rfl) | (rw [if_neg (by decide +kernel)]; exact ⟨rfl, rfl⟩))
    (fun os started H enc _ => lifted os started H enc)

theorem proved : Rows.InterpolateIsUniqueSaid := over
end Go.Proofs.Ytpjgpfjepcidgaa.interpolateIsUnique
