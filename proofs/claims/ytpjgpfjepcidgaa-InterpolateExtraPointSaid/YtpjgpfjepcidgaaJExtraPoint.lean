/- InterpolateExtraPoint: for every prime, every slice of points and every point, the law returns true and changes nothing that lay. No conditions. -/
import Derived.Test.YtpjgpfjepcidgaaIGrow
namespace Go.Proofs.Ytpjgpfjepcidgaa.interpolateExtraPoint
open Go.ChangeShapes Go.WideShapes Go.ChangeAt Go.RowKit PolyMath FieldMath

set_option maxRecDepth 100000 in
set_option maxHeartbeats 4000000 in
theorem walk_main (p : Int) (A : Option Addr) (c : Nat) (ps : List (Int × Int)) (mx : Int) (my : Int) (hp : OkP p) (_wp : Wd p) (wps : PWords ps) (wmx : Wd mx) (wmy : Wd my) (h0 : (qOf p != 0) = true) (h1 : ps.length ≤ 11) (h2 : decide (∀ q ∈ ps, q.1 < p ∧ q.2 < p) = true) (h3 : mx < p) (h4 : my < p) (w : World) (sps : Pt w A c ps) :
    Calls Try.prog 9 #[.int .u64 p, .slice A ps.length c, .agg #[.int .u64 mx, .int .u64 my]] w fun e w' => e = .returned (.bool true) ∧ Below w.heap.size w w' := by
  obtain ⟨i0, hi, hz0, hz1, hz2⟩ := info_parts info_pt
  have hbd := hp.bd
  have hx := px_el wps (of_decide_eq_true h2)
  have hy := py_el wps (of_decide_eq_true h2)
  have hmx : 0 ≤ mx ∧ mx < p := ⟨wmx.1, h3⟩
  have hmy : 0 ≤ my ∧ my < p := ⟨wmy.1, h4⟩
  obtain ⟨PS, hPS0⟩ : ∃ PS, PS = ps ++ [(mx, my)] := ⟨_, rfl⟩
  have hPS := Lib.hid hPS0
  have hPSl : Hid (PS.length = ps.length + 1) := Lib.hid (by rw [hPS0, List.length_append]; rfl)
  have e1 : px PS = px ps ++ [mx] := by rw [hPS0]; exact px_snoc _ _ _
  have e2 : py PS = py ps ++ [my] := by rw [hPS0]; exact py_snoc _ _ _
  have hxE : El p (px PS) := by rw [e1]; intro z hz; rcases List.mem_append.1 hz with h | h; exact hx z h; rw [List.mem_singleton.1 h]; exact hmx
  have hyE : El p (py PS) := by rw [e2]; intro z hz; rcases List.mem_append.1 hz with h | h; exact hy z h; rw [List.mem_singleton.1 h]; exact hmy
  have hEL := Lib.hid (⟨hxE, hyE⟩ : _ ∧ _)
  have hIT : Hid ((px PS).Nodup → (px ps).Nodup ∧ Itp p (px ps) (py ps) (thru p ps) ∧ Itp p (px PS) (py PS) (thru p PS) ∧ (pev p (thru p ps) mx = my → thru p PS = thru p ps) ∧ (pev p (thru p ps) mx ≠ my → tn (thru p PS) = ps.length + 1)) := Lib.hid fun hnd => by
    have hn0 : (px ps).Nodup := by rw [e1] at hnd; exact (List.nodup_append.1 hnd).1
    have t0 := thru_itp hp.good hn0 hx hy
    have t1 := thru_itp hp.good hnd hxE hyE
    have hll : (py ps).length = (px ps).length := by rw [px_len, py_len]
    refine ⟨hn0, t0, t1, fun e => ?_, fun e => ?_⟩
    · have t2 := t0.more hll e
      rw [← e1, ← e2] at t2
      exact t1.unique hp.good hnd hxE t2
    · rw [e1, e2] at t1
      have := t0.off hp.good hll hn0 hx e t1
      rwa [px_len] at this
  clear hPS0 e1 e2 hxE hyE
  have g0 := fun W => rSupported_any p W
  rw [h0] at g0
  have h1' : (ps.length : Int) ≤ 11 := by omega
  have g2 := fun W h => points_any p A c ps W h (by omega)
  rw [h2] at g2
  go_enter Try.func9, Try.ntmps9
  go_wp2_with fail
  refine (awake_any _).mono ?_; rintro e w1 ⟨rfl, hB⟩
  have k0 : w1.cell? ⟨w.heap.size, 0, none⟩ = some (.int .u64 mx) := by rw [(bcell hB).1 _ _ (by simp)]; go_simp
  have k1 : w1.cell? ⟨w.heap.size, 1, none⟩ = some (.int .u64 my) := by rw [(bcell hB).1 _ _ (by simp)]; go_simp
  have hq : w.heap.size < w1.heap.size := by have h := hB.size; simp at h; omega
  replace sps := (sps.push _).next hB
  replace hB := (bnew (Below.refl w.heap.size w) (.cells #[.int .u64 mx, .int .u64 my] 34) (Nat.le_refl _)).trans (hB.mono (by simp))
  go_wp2_with fail
  refine (g0 _).mono ?_; rintro e w2 ⟨rfl, hb⟩
  replace sps := sps.next hb
  replace k0 := (hb.cell (p := ⟨w.heap.size, 0, none⟩) hq).trans k0
  replace k1 := (hb.cell (p := ⟨w.heap.size, 1, none⟩) hq).trans k1
  replace hq := Nat.lt_of_lt_of_le hq hb.size
  replace hB := hB.trans (hb.mono hB.size)
  clear hb
  go_wp2_with fail
  refine (g2 _ sps).mono ?_; rintro e w' ⟨rfl, rfl⟩
  have bE := bnew (Below.refl w2.heap.size w2) (.cells #[] 34) (Nat.le_refl _)
  have bEM := bnew bE (.cells #[.int .u64 mx, .int .u64 my] 34) (Nat.le_refl _)
  have bM := bnew (Below.refl w2.heap.size w2) (.cells #[.int .u64 mx, .int .u64 my] 34) (Nat.le_refl _)
  have bME := bnew bM (.cells #[] 34) (Nat.le_refl _)
  have a0 := (bE.cell (p := ⟨w.heap.size, 0, none⟩) hq).trans k0
  have a1 := (bE.cell (p := ⟨w.heap.size, 1, none⟩) hq).trans k1
  have b0 := (bEM.cell (p := ⟨w.heap.size, 0, none⟩) hq).trans k0
  have b1 := (bEM.cell (p := ⟨w.heap.size, 1, none⟩) hq).trans k1
  have c0 := (bM.cell (p := ⟨w.heap.size, 0, none⟩) hq).trans k0
  have c1 := (bM.cell (p := ⟨w.heap.size, 1, none⟩) hq).trans k1
  have d0 := (bME.cell (p := ⟨w.heap.size, 0, none⟩) hq).trans k0
  have d1 := (bME.cell (p := ⟨w.heap.size, 1, none⟩) hq).trans k1
  have oA : (w2.alloc (.cells #[] 34)).ownsRow w2.heap.size 34 2 (.slice (some ⟨w2.heap.size, 0, none⟩) 0 0) 0 [] := World.ownsRow_lit w2 #[] 0 (Nat.le_refl _) (Nat.zero_le _) rfl
  have oB := oA.alloc (.cells #[.int .u64 mx, .int .u64 my] 34)
  have oC : ((w2.alloc (.cells #[.int .u64 mx, .int .u64 my] 34)).alloc (.cells #[] 34)).ownsRow w2.heap.size 34 2 (.slice (some ⟨w2.heap.size + 1, 0, none⟩) 0 0) 0 [] := by
    have := World.ownsRow_lit (base := w2.heap.size) (e := 34) (size := 2) (w2.alloc (.cells #[.int .u64 mx, .int .u64 my] 34)) #[] 0 (by simp) (Nat.zero_le _) rfl
    rwa [World.size_alloc] at this
  have mB : ((w2.alloc (.cells #[] 34)).alloc (.cells #[.int .u64 mx, .int .u64 my] 34)).heap[w2.heap.size + 1]? = some (.cells #[.int .u64 mx, .int .u64 my] 34) := by
    have := World.alloc_heap_new (w2.alloc (.cells #[] 34)) (.cells #[.int .u64 mx, .int .u64 my] 34)
    rwa [World.size_alloc] at this
  have mC : ((w2.alloc (.cells #[.int .u64 mx, .int .u64 my] 34)).alloc (.cells #[] 34)).heap[w2.heap.size]? = some (.cells #[.int .u64 mx, .int .u64 my] 34) := by
    rw [(bnew (Below.refl (w2.alloc (.cells #[.int .u64 mx, .int .u64 my] 34)).heap.size (w2.alloc (.cells #[.int .u64 mx, .int .u64 my] 34))) (.cells #[] 34) (Nat.le_refl _)).block w2.heap.size (by simp)]
    exact World.alloc_heap_new w2 _
  have s2 : w2.heap.size ≤ w2.heap.size := Nat.le_refl _
  cases A with
  | none =>
    obtain ⟨hps, rfl⟩ := sps.empty
    have HP := Lib.hid hps
    have HL : Hid (ps.length = 0) := Lib.hid (by rw [hps]; rfl)
    clear hps
    go_wp2_with fail
    go_region_held3 (fun w' => w'.cell? ⟨w.heap.size, 0, none⟩ = some (.int .u64 mx) ∧ w'.cell? ⟨w.heap.size, 1, none⟩ = some (.int .u64 my))
      (first | (refine ⟨?_, ?_⟩ <;> assumption) | exact ⟨k0, k1⟩ | exact ⟨a0, a1⟩ | exact ⟨b0, b1⟩ | exact ⟨c0, c1⟩ | exact ⟨d0, d1⟩ | exact ⟨g0, g1⟩)
      (first
            | (refine step_append_nothing _ (by rfl) _ _ _ (by rfl) 34 i0 Try.underlying23 hi _ _ _ (by rfl) (by rfl) HL.out ?_)
            | (refine step_append_own _ (by rfl) _ _ _ (by rfl) w2.heap.size 34 i0 _ 2 16 Try.underlying23 hi hz0 hz1 hz2 rfl (by omega) _ 0 [] (by rfl) oB ⟨w2.heap.size + 1, 0, none⟩ 1 1 [.int .u64 mx, .int .u64 my] (by rfl) (by rfl) (World.news_of_block (cs := #[.int .u64 mx, .int .u64 my]) (t := 34) (fr := (0, 0)) mB) (by simp [Value.oneCell']) (by simp only [maxLen]; omega) (by omega) (by first | omega | (simp; done) | (simp; omega)) ?_; intro v6 w6 hown6 hgrow6; have b6 : Below w2.heap.size w2 w6 := bEM.drew.grown hgrow6 (by first | omega | (simp; done) | (simp; omega)) (fun q e => (World.ownsRow.lt oB q e).1); have g0 := (b6.cell (p := ⟨w.heap.size, 0, none⟩) hq).trans k0; have g1 := (b6.cell (p := ⟨w.heap.size, 1, none⟩) hq).trans k1)
            | (refine step_append_own _ (by rfl) _ _ _ (by rfl) w2.heap.size 34 i0 _ 2 16 Try.underlying23 hi hz0 hz1 hz2 rfl (by omega) _ 0 [] (by rfl) oC ⟨w2.heap.size, 0, none⟩ 1 1 [.int .u64 mx, .int .u64 my] (by rfl) (by rfl) (World.news_of_block (cs := #[.int .u64 mx, .int .u64 my]) (t := 34) (fr := (0, 0)) mC) (by simp [Value.oneCell']) (by simp only [maxLen]; omega) (by omega) (by first | omega | (simp; done) | (simp; omega)) ?_; intro v6 w6 hown6 hgrow6; have b6 : Below w2.heap.size w2 w6 := bME.drew.grown hgrow6 (by first | omega | (simp; done) | (simp; omega)) (fun q e => (World.ownsRow.lt oC q e).1); have g0 := (b6.cell (p := ⟨w.heap.size, 0, none⟩) hq).trans k0; have g1 := (b6.cell (p := ⟨w.heap.size, 1, none⟩) hq).trans k1))
    all_goals
      replace hown6 : w6.ownsRow w2.heap.size 34 2 v6 (ps.length + 1) (pcells (ps ++ [(mx, my)])) := by rw [HP.out]; exact hown6
      clear bE bEM bM bME a0 a1 b0 b1 c0 c1 d0 d1 oA oB oC mB mC
      obtain ⟨A7, c7, hv7, hs7⟩ := pown_form hown6
      rw [← hPS.out] at hs7 hv7
      rw [hPSl.out] at hv7
      subst hv7
      replace sps := sps.next b6
      replace k0 := (b6.cell (p := ⟨w.heap.size, 0, none⟩) hq).trans k0
      replace k1 := (b6.cell (p := ⟨w.heap.size, 1, none⟩) hq).trans k1
      replace hq := Nat.lt_of_lt_of_le hq b6.size
      replace hB := hB.trans (b6.mono hB.size)
      have hpl := places_row A7 c7 PS (by rw [hPSl.out]; omega) w6 hs7
      rw [hPSl.out] at hpl
      clear hown6 b6
      go_wp2_with fail
      refine hpl.mono ?_
      rintro e w7 ⟨Aq, cq, rfl, sq, hb⟩
      replace sps := sps.next hb
      replace hs7 := hs7.next hb
      replace k0 := (hb.cell (p := ⟨w.heap.size, 0, none⟩) hq).trans k0
      replace k1 := (hb.cell (p := ⟨w.heap.size, 1, none⟩) hq).trans k1
      replace hq := Nat.lt_of_lt_of_le hq hb.size
      replace hB := hB.trans (hb.mono hB.size)
      clear hb hpl
      by_cases hnd : (px PS).Nodup
      rotate_left
      · go_wp2_with fail
        refine (unlike_b Aq cq (px PS) _ sq (by rw [px_len, hPSl.out]; omega) false (decide_eq_false hnd)).mono ?_
        rintro e w8 ⟨rfl, hb⟩
        go_wp2_with fail
        go_ret
        exact ⟨rfl, hB.trans (hb.mono hB.size)⟩
      · go_wp2_with fail
        refine (unlike_b Aq cq (px PS) _ sq (by rw [px_len, hPSl.out]; omega) true (decide_eq_true hnd)).mono ?_
        rintro e w8 ⟨rfl, hb⟩
        replace sps := sps.next hb
        replace hs7 := hs7.next hb
        replace k0 := (hb.cell (p := ⟨w.heap.size, 0, none⟩) hq).trans k0
        replace k1 := (hb.cell (p := ⟨w.heap.size, 1, none⟩) hq).trans k1
        replace hq := Nat.lt_of_lt_of_le hq hb.size
        replace hB := hB.trans (hb.mono hB.size)
        clear hb sq
        obtain ⟨hn0, t0, t1, hmore, hoff⟩ := hIT.out hnd
        have hND := Lib.hid hnd
        have hN0 := Lib.hid hn0
        have l0 := t0.fl
        have l1 := t1.fl
        have f0 := t0.fe
        rw [px_len] at l0 l1
        rw [hPSl.out] at l1
        have hMO := Lib.hid hmore
        have hOF := Lib.hid hoff
        clear hnd hn0 t0 t1 hmore hoff
        go_wp2_with fail
        refine (pol_any p hp _ _ ps hx hy (by omega) _ sps).mono ?_
        rintro e w9 (⟨_, A9, c9, rfl, hs9, hb⟩ | ⟨hn, _⟩)
        case inr => exact absurd hN0.out hn
        replace hs7 := hs7.next hb
        replace k0 := (hb.cell (p := ⟨w.heap.size, 0, none⟩) hq).trans k0
        replace k1 := (hb.cell (p := ⟨w.heap.size, 1, none⟩) hq).trans k1
        replace hq := Nat.lt_of_lt_of_le hq hb.size
        replace hB := hB.trans (hb.mono hB.size)
        clear hb sps
        have hp2 := pol_any p hp A7 c7 PS hEL.out.1 hEL.out.2 (by rw [hPSl.out]; omega) w9 hs7
        rw [hPSl.out] at hp2
        go_wp2_with fail
        refine hp2.mono ?_
        rintro e w10 (⟨_, A10, c10, rfl, hs10, hb⟩ | ⟨hn, _⟩)
        case inr => exact absurd hND.out hn
        replace hs9 := hs9.next hb
        replace k0 := (hb.cell (p := ⟨w.heap.size, 0, none⟩) hq).trans k0
        replace k1 := (hb.cell (p := ⟨w.heap.size, 1, none⟩) hq).trans k1
        replace hq := Nat.lt_of_lt_of_le hq hb.size
        replace hB := hB.trans (hb.mono hB.size)
        clear hb hp2 hs7
        have hev := eval_any p mx hp hmx A9 c9 (thru p ps) f0 (by omega) w10.drew hs9.drew
        have hdr : Below w10.heap.size w10 w10.drew := (Below.refl _ w10).drew
        by_cases hval : pev p (thru p ps) mx = my
        · have hsame := hMO.out hval
          rw [hval] at hev
          rw [hsame] at hs10 ⊢
          clear hval hsame
          generalize thru p ps = F at *
          go_wp2_with fail
          go_region_held3 (fun w' => w'.cell? ⟨w.heap.size, 0, none⟩ = some (.int .u64 mx) ∧ w'.cell? ⟨w.heap.size, 1, none⟩ = some (.int .u64 my))
            (refine ⟨?_, ?_⟩ <;> assumption)
            (first
              | (go_at_call 16; (with_reducible refine hev.mono ?_); rintro e w11 ⟨rfl, hb11⟩; have hB11 := hdr.trans (hb11.mono hdr.size); have q0 := (hB11.cell (p := ⟨w.heap.size, 0, none⟩) hq).trans k0; have q1 := (hB11.cell (p := ⟨w.heap.size, 1, none⟩) hq).trans k1; clear hb11 hev))
          all_goals
            have hs9' := hs9.next hB11
            have hs10' := hs10.next hB11
            go_wp2_with fail
            refine (same_b _ _ F _ _ _ hs9' hs10' (by omega)).mono ?_
            rintro e w12 ⟨rfl, hb⟩
            have hB12 := hB.trans (hB11.mono hB.size)
            go_wp2_with fail
            go_ret
            exact ⟨rfl, hB12.trans (hb.mono hB12.size)⟩
        · have hdg := hOF.out hval
          have hDG := Lib.hid hdg
          have hne : (pev p (thru p ps) mx == my) = false := beq_eq_false_iff_ne.2 hval
          have hne2 : ¬ my = pev p (thru p ps) mx := fun e => hval e.symm
          clear hdg
          generalize pev p (thru p ps) mx = V at *
          generalize thru p PS = G at *
          generalize thru p ps = F at *
          go_wp2_with fail
          go_region_held3 (fun w' => w'.cell? ⟨w.heap.size, 0, none⟩ = some (.int .u64 mx) ∧ w'.cell? ⟨w.heap.size, 1, none⟩ = some (.int .u64 my))
            (refine ⟨?_, ?_⟩ <;> assumption)
            (first
              | (go_at_call 16; (with_reducible refine hev.mono ?_); rintro e w11 ⟨rfl, hb11⟩; have hB11 := hdr.trans (hb11.mono hdr.size); have q0 := (hB11.cell (p := ⟨w.heap.size, 0, none⟩) hq).trans k0; have q1 := (hB11.cell (p := ⟨w.heap.size, 1, none⟩) hq).trans k1; clear hb11 hev))
          all_goals
            have hs10' := hs10.next hB11
            have hdp := deg_pos A10 c10 ps.length G _ hs10' (by omega) hDG.out
            have hB12 := hB.trans (hB11.mono hB.size)
            go_wp2_with fail
            refine hdp.mono ?_
            rintro e w12 ⟨rfl, rfl⟩
            go_wp2_with fail
            go_ret
            exact ⟨by simp, hB12⟩
  | some ad =>
    obtain ⟨hl5, hnws⟩ : (ps.length ≤ 11) ∧ True := ⟨h1, trivial⟩
    clear hnws
    have nA := (sps.push (.cells #[] 34)).news
    have nB := ((sps.push (.cells #[] 34)).push (.cells #[.int .u64 mx, .int .u64 my] 34)).news
    have nC := ((sps.push (.cells #[.int .u64 mx, .int .u64 my] 34)).push (.cells #[] 34)).news
    go_wp2_with fail
    go_region_held3 (fun w' => w'.cell? ⟨w.heap.size, 0, none⟩ = some (.int .u64 mx) ∧ w'.cell? ⟨w.heap.size, 1, none⟩ = some (.int .u64 my))
      (first | (refine ⟨?_, ?_⟩ <;> assumption) | exact ⟨k0, k1⟩ | exact ⟨a0, a1⟩ | exact ⟨b0, b1⟩ | exact ⟨c0, c1⟩ | exact ⟨d0, d1⟩ | exact ⟨e0, e1⟩ | exact ⟨f0', f1'⟩ | exact ⟨g0, g1⟩)
      (first
            | (refine step_append_own _ (by rfl) _ _ _ (by rfl) w2.heap.size 34 i0 _ 2 16 Try.underlying23 hi hz0 hz1 hz2 rfl (by omega) _ 0 [] (by rfl) oB ad ps.length c (pcells ps) (by rfl) (pcells_len ps) nB (pc_one ps) (by simp only [maxLen]; omega) (by omega) (by first | omega | (simp; done) | (simp; omega)) ?_; intro v1 w5 hown1 hgrow1; have own5 : w5.ownsRow w2.heap.size 34 2 v1 ps.length (pcells ps) := (by simpa using hown1); have b5 : Below w2.heap.size w2 w5 := bEM.drew.grown hgrow1 (by first | omega | (simp; done) | (simp; omega)) (fun q e => (World.ownsRow.lt oB q e).1); have e0 := (b5.cell (p := ⟨w.heap.size, 0, none⟩) hq).trans k0; have e1 := (b5.cell (p := ⟨w.heap.size, 1, none⟩) hq).trans k1; have s5 := b5.size; have m5 := (hgrow1.block (w2.heap.size + 1) (by simp) (by simp [Value.ownBlock])).trans mB; have way := (rfl : (0 : Nat) = 0); clear hown1)
            | (refine step_append_own _ (by rfl) _ _ _ (by rfl) w2.heap.size 34 i0 _ 2 16 Try.underlying23 hi hz0 hz1 hz2 rfl (by omega) _ 0 [] (by rfl) oC ad ps.length c (pcells ps) (by rfl) (pcells_len ps) nC (pc_one ps) (by simp only [maxLen]; omega) (by omega) (by first | omega | (simp; done) | (simp; omega)) ?_; intro v1 w5 hown1 hgrow1; have own5 : w5.ownsRow w2.heap.size 34 2 v1 ps.length (pcells ps) := (by simpa using hown1); have b5 : Below w2.heap.size w2 w5 := bME.drew.grown hgrow1 (by first | omega | (simp; done) | (simp; omega)) (fun q e => (World.ownsRow.lt oC q e).1); have e0 := (b5.cell (p := ⟨w.heap.size, 0, none⟩) hq).trans k0; have e1 := (b5.cell (p := ⟨w.heap.size, 1, none⟩) hq).trans k1; have s5 := b5.size; have n5 := (hgrow1.block w2.heap.size (by first | omega | (simp; done) | (simp; omega)) (by simp [Value.ownBlock])).trans mC; clear hown1)
            | (refine step_append_own _ (by rfl) _ _ _ (by rfl) w2.heap.size 34 i0 _ 2 16 Try.underlying23 hi hz0 hz1 hz2 rfl (by omega) _ 0 [] (by rfl) oA ad ps.length c (pcells ps) (by rfl) (pcells_len ps) nA (pc_one ps) (by simp only [maxLen]; omega) (by omega) (by first | omega | (simp; done) | (simp; omega)) ?_; intro v1 w5 hown1 hgrow1; have own5 : w5.ownsRow w2.heap.size 34 2 v1 ps.length (pcells ps) := (by simpa using hown1); have b5 : Below w2.heap.size w2 w5 := bE.drew.grown hgrow1 (by first | omega | (simp; done) | (simp; omega)) (fun q e => (World.ownsRow.lt oA q e).1); have e0 := (b5.cell (p := ⟨w.heap.size, 0, none⟩) hq).trans k0; have e1 := (b5.cell (p := ⟨w.heap.size, 1, none⟩) hq).trans k1; have s5 := b5.size; have f0' := ((bnew b5 (.cells #[.int .u64 mx, .int .u64 my] 34) (Nat.le_refl _)).cell (p := ⟨w.heap.size, 0, none⟩) hq).trans k0; have f1' := ((bnew b5 (.cells #[.int .u64 mx, .int .u64 my] 34) (Nat.le_refl _)).cell (p := ⟨w.heap.size, 1, none⟩) hq).trans k1; clear hown1)
            | (refine step_append_own _ (by rfl) _ _ _ (by rfl) w2.heap.size 34 i0 _ 2 16 Try.underlying23 hi hz0 hz1 hz2 rfl (by omega) _ ps.length (pcells ps) (by rfl) own5 ⟨w2.heap.size + 1, 0, none⟩ 1 1 [.int .u64 mx, .int .u64 my] (by rfl) (by rfl) (World.news_of_block (cs := #[.int .u64 mx, .int .u64 my]) (t := 34) (fr := (0, 0)) m5) (by simp [Value.oneCell']) (by simp only [maxLen]; omega) (by omega) (by first | omega | (simp; done) | (simp; omega)) ?_; intro v6 w6 hown6 hgrow6; have b6 : Below w2.heap.size w2 w6 := b5.grown hgrow6 (by first | omega | (simp; done) | (simp; omega)) (fun q e => (World.ownsRow.lt own5 q e).1); have g0 := (b6.cell (p := ⟨w.heap.size, 0, none⟩) hq).trans k0; have g1 := (b6.cell (p := ⟨w.heap.size, 1, none⟩) hq).trans k1)
            | (refine step_append_own _ (by rfl) _ _ _ (by rfl) w2.heap.size 34 i0 _ 2 16 Try.underlying23 hi hz0 hz1 hz2 rfl (by omega) _ ps.length (pcells ps) (by rfl) own5 ⟨w2.heap.size, 0, none⟩ 1 1 [.int .u64 mx, .int .u64 my] (by rfl) (by rfl) (World.news_of_block (cs := #[.int .u64 mx, .int .u64 my]) (t := 34) (fr := (0, 0)) n5) (by simp [Value.oneCell']) (by simp only [maxLen]; omega) (by omega) (by first | omega | (simp; done) | (simp; omega)) ?_; intro v6 w6 hown6 hgrow6; have b6 : Below w2.heap.size w2 w6 := b5.grown hgrow6 (by first | omega | (simp; done) | (simp; omega)) (fun q e => (World.ownsRow.lt own5 q e).1); have g0 := (b6.cell (p := ⟨w.heap.size, 0, none⟩) hq).trans k0; have g1 := (b6.cell (p := ⟨w.heap.size, 1, none⟩) hq).trans k1)
            | (refine step_append_own _ (by rfl) _ _ _ (by rfl) w2.heap.size 34 i0 _ 2 16 Try.underlying23 hi hz0 hz1 hz2 rfl (by omega) _ ps.length (pcells ps) (by rfl) (own5.alloc _) ⟨w5.heap.size, 0, none⟩ 1 1 [.int .u64 mx, .int .u64 my] (by rfl) (by rfl) (World.news_of_block (cs := #[.int .u64 mx, .int .u64 my]) (t := 34) (fr := (0, 0)) (World.alloc_heap_new w5 _)) (by simp [Value.oneCell']) (by simp only [maxLen]; omega) (by omega) (by first | omega | (simp; done) | (simp; omega)) ?_; intro v6 w6 hown6 hgrow6; have b6 : Below w2.heap.size w2 w6 := (bnew b5 (.cells #[.int .u64 mx, .int .u64 my] 34) (Nat.le_refl _)).grown hgrow6 (by first | omega | (simp; done) | (simp; omega)) (fun q e => (World.ownsRow.lt own5 q e).1); have g0 := (b6.cell (p := ⟨w.heap.size, 0, none⟩) hq).trans k0; have g1 := (b6.cell (p := ⟨w.heap.size, 1, none⟩) hq).trans k1))
    all_goals
      replace hown6 : w6.ownsRow w2.heap.size 34 2 v6 (ps.length + 1) (pcells (ps ++ [(mx, my)])) := by rw [pcells_snoc]; exact hown6
      clear bE bEM bM bME a0 a1 b0 b1 c0 c1 d0 d1 oA oB oC mB mC nA nB nC
      obtain ⟨A7, c7, hv7, hs7⟩ := pown_form hown6
      rw [← hPS.out] at hs7 hv7
      rw [hPSl.out] at hv7
      subst hv7
      replace sps := sps.next b6
      replace k0 := (b6.cell (p := ⟨w.heap.size, 0, none⟩) hq).trans k0
      replace k1 := (b6.cell (p := ⟨w.heap.size, 1, none⟩) hq).trans k1
      replace hq := Nat.lt_of_lt_of_le hq b6.size
      replace hB := hB.trans (b6.mono hB.size)
      have hpl := places_row A7 c7 PS (by rw [hPSl.out]; omega) w6 hs7
      rw [hPSl.out] at hpl
      clear hown6 b6
      go_wp2_with fail
      refine hpl.mono ?_
      rintro e w7 ⟨Aq, cq, rfl, sq, hb⟩
      replace sps := sps.next hb
      replace hs7 := hs7.next hb
      replace k0 := (hb.cell (p := ⟨w.heap.size, 0, none⟩) hq).trans k0
      replace k1 := (hb.cell (p := ⟨w.heap.size, 1, none⟩) hq).trans k1
      replace hq := Nat.lt_of_lt_of_le hq hb.size
      replace hB := hB.trans (hb.mono hB.size)
      clear hb hpl
      by_cases hnd : (px PS).Nodup
      rotate_left
      · go_wp2_with fail
        refine (unlike_b Aq cq (px PS) _ sq (by rw [px_len, hPSl.out]; omega) false (decide_eq_false hnd)).mono ?_
        rintro e w8 ⟨rfl, hb⟩
        go_wp2_with fail
        go_ret
        exact ⟨rfl, hB.trans (hb.mono hB.size)⟩
      · go_wp2_with fail
        refine (unlike_b Aq cq (px PS) _ sq (by rw [px_len, hPSl.out]; omega) true (decide_eq_true hnd)).mono ?_
        rintro e w8 ⟨rfl, hb⟩
        replace sps := sps.next hb
        replace hs7 := hs7.next hb
        replace k0 := (hb.cell (p := ⟨w.heap.size, 0, none⟩) hq).trans k0
        replace k1 := (hb.cell (p := ⟨w.heap.size, 1, none⟩) hq).trans k1
        replace hq := Nat.lt_of_lt_of_le hq hb.size
        replace hB := hB.trans (hb.mono hB.size)
        clear hb sq
        obtain ⟨hn0, t0, t1, hmore, hoff⟩ := hIT.out hnd
        have hND := Lib.hid hnd
        have hN0 := Lib.hid hn0
        have l0 := t0.fl
        have l1 := t1.fl
        have f0 := t0.fe
        rw [px_len] at l0 l1
        rw [hPSl.out] at l1
        have hMO := Lib.hid hmore
        have hOF := Lib.hid hoff
        clear hnd hn0 t0 t1 hmore hoff
        go_wp2_with fail
        refine (pol_any p hp _ _ ps hx hy (by omega) _ sps).mono ?_
        rintro e w9 (⟨_, A9, c9, rfl, hs9, hb⟩ | ⟨hn, _⟩)
        case inr => exact absurd hN0.out hn
        replace hs7 := hs7.next hb
        replace k0 := (hb.cell (p := ⟨w.heap.size, 0, none⟩) hq).trans k0
        replace k1 := (hb.cell (p := ⟨w.heap.size, 1, none⟩) hq).trans k1
        replace hq := Nat.lt_of_lt_of_le hq hb.size
        replace hB := hB.trans (hb.mono hB.size)
        clear hb sps
        have hp2 := pol_any p hp A7 c7 PS hEL.out.1 hEL.out.2 (by rw [hPSl.out]; omega) w9 hs7
        rw [hPSl.out] at hp2
        go_wp2_with fail
        refine hp2.mono ?_
        rintro e w10 (⟨_, A10, c10, rfl, hs10, hb⟩ | ⟨hn, _⟩)
        case inr => exact absurd hND.out hn
        replace hs9 := hs9.next hb
        replace k0 := (hb.cell (p := ⟨w.heap.size, 0, none⟩) hq).trans k0
        replace k1 := (hb.cell (p := ⟨w.heap.size, 1, none⟩) hq).trans k1
        replace hq := Nat.lt_of_lt_of_le hq hb.size
        replace hB := hB.trans (hb.mono hB.size)
        clear hb hp2 hs7
        have hev := eval_any p mx hp hmx A9 c9 (thru p ps) f0 (by omega) w10.drew hs9.drew
        have hdr : Below w10.heap.size w10 w10.drew := (Below.refl _ w10).drew
        by_cases hval : pev p (thru p ps) mx = my
        · have hsame := hMO.out hval
          rw [hval] at hev
          rw [hsame] at hs10 ⊢
          clear hval hsame
          generalize thru p ps = F at *
          go_wp2_with fail
          go_region_held3 (fun w' => w'.cell? ⟨w.heap.size, 0, none⟩ = some (.int .u64 mx) ∧ w'.cell? ⟨w.heap.size, 1, none⟩ = some (.int .u64 my))
            (refine ⟨?_, ?_⟩ <;> assumption)
            (first
              | (go_at_call 16; (with_reducible refine hev.mono ?_); rintro e w11 ⟨rfl, hb11⟩; have hB11 := hdr.trans (hb11.mono hdr.size); have q0 := (hB11.cell (p := ⟨w.heap.size, 0, none⟩) hq).trans k0; have q1 := (hB11.cell (p := ⟨w.heap.size, 1, none⟩) hq).trans k1; clear hb11 hev))
          all_goals
            have hs9' := hs9.next hB11
            have hs10' := hs10.next hB11
            go_wp2_with fail
            refine (same_b _ _ F _ _ _ hs9' hs10' (by omega)).mono ?_
            rintro e w12 ⟨rfl, hb⟩
            have hB12 := hB.trans (hB11.mono hB.size)
            go_wp2_with fail
            go_ret
            exact ⟨rfl, hB12.trans (hb.mono hB12.size)⟩
        · have hdg := hOF.out hval
          have hDG := Lib.hid hdg
          have hne : (pev p (thru p ps) mx == my) = false := beq_eq_false_iff_ne.2 hval
          have hne2 : ¬ my = pev p (thru p ps) mx := fun e => hval e.symm
          clear hdg
          generalize pev p (thru p ps) mx = V at *
          generalize thru p PS = G at *
          generalize thru p ps = F at *
          go_wp2_with fail
          go_region_held3 (fun w' => w'.cell? ⟨w.heap.size, 0, none⟩ = some (.int .u64 mx) ∧ w'.cell? ⟨w.heap.size, 1, none⟩ = some (.int .u64 my))
            (refine ⟨?_, ?_⟩ <;> assumption)
            (first
              | (go_at_call 16; (with_reducible refine hev.mono ?_); rintro e w11 ⟨rfl, hb11⟩; have hB11 := hdr.trans (hb11.mono hdr.size); have q0 := (hB11.cell (p := ⟨w.heap.size, 0, none⟩) hq).trans k0; have q1 := (hB11.cell (p := ⟨w.heap.size, 1, none⟩) hq).trans k1; clear hb11 hev))
          all_goals
            have hs10' := hs10.next hB11
            have hdp := deg_pos A10 c10 ps.length G _ hs10' (by omega) hDG.out
            have hB12 := hB.trans (hB11.mono hB.size)
            go_wp2_with fail
            refine hdp.mono ?_
            rintro e w12 ⟨rfl, rfl⟩
            go_wp2_with fail
            go_ret
            exact ⟨by simp, hB12⟩

set_option maxRecDepth 100000 in
set_option maxHeartbeats 4000000 in
theorem walk (p : Int) (A : Option Addr) (c : Nat) (ps : List (Int × Int)) (mx : Int) (my : Int) (wp : Wd p) (wps : PWords ps) (wmx : Wd mx) (wmy : Wd my) (w : World) (sps : Pt w A c ps) :
    Calls Try.prog 9 #[.int .u64 p, .slice A ps.length c, .agg #[.int .u64 mx, .int .u64 my]] w fun e w' => e = .returned (.bool true) ∧ Below w.heap.size w w' := by
  rcases sup_cases p with h0 | ⟨h0, hp⟩
  · have g0 := fun W => rSupported_any p W
    rw [h0] at g0
    go_enter Try.func9, Try.ntmps9
    go_wp2_with fail
    refine (awake_any _).mono ?_; rintro e w1 ⟨rfl, hB⟩
    have k0 : w1.cell? ⟨w.heap.size, 0, none⟩ = some (.int .u64 mx) := by rw [(bcell hB).1 _ _ (by simp)]; go_simp
    have k1 : w1.cell? ⟨w.heap.size, 1, none⟩ = some (.int .u64 my) := by rw [(bcell hB).1 _ _ (by simp)]; go_simp
    have hq : w.heap.size < w1.heap.size := by have h := hB.size; simp at h; omega
    replace sps := (sps.push _).next hB
    replace hB := (bnew (Below.refl w.heap.size w) (.cells #[.int .u64 mx, .int .u64 my] 34) (Nat.le_refl _)).trans (hB.mono (by simp))
    go_wp2_with fail
    refine (g0 _).mono ?_; rintro e w2 ⟨rfl, hb⟩
    replace sps := sps.next hb
    replace k0 := (hb.cell (p := ⟨w.heap.size, 0, none⟩) hq).trans k0
    replace k1 := (hb.cell (p := ⟨w.heap.size, 1, none⟩) hq).trans k1
    replace hq := Nat.lt_of_lt_of_le hq hb.size
    replace hB := hB.trans (hb.mono hB.size)
    clear hb
    go_wp2_with fail
    go_ret
    exact ⟨rfl, hB⟩
  · rcases Nat.lt_or_ge 11 ps.length with h1 | h1
    · have g0 := fun W => rSupported_any p W
      rw [h0] at g0
      have h1' : (11 : Int) < ps.length := by omega
      go_enter Try.func9, Try.ntmps9
      go_wp2_with fail
      refine (awake_any _).mono ?_; rintro e w1 ⟨rfl, hB⟩
      have k0 : w1.cell? ⟨w.heap.size, 0, none⟩ = some (.int .u64 mx) := by rw [(bcell hB).1 _ _ (by simp)]; go_simp
      have k1 : w1.cell? ⟨w.heap.size, 1, none⟩ = some (.int .u64 my) := by rw [(bcell hB).1 _ _ (by simp)]; go_simp
      have hq : w.heap.size < w1.heap.size := by have h := hB.size; simp at h; omega
      replace sps := (sps.push _).next hB
      replace hB := (bnew (Below.refl w.heap.size w) (.cells #[.int .u64 mx, .int .u64 my] 34) (Nat.le_refl _)).trans (hB.mono (by simp))
      go_wp2_with fail
      refine (g0 _).mono ?_; rintro e w2 ⟨rfl, hb⟩
      replace sps := sps.next hb
      replace k0 := (hb.cell (p := ⟨w.heap.size, 0, none⟩) hq).trans k0
      replace k1 := (hb.cell (p := ⟨w.heap.size, 1, none⟩) hq).trans k1
      replace hq := Nat.lt_of_lt_of_le hq hb.size
      replace hB := hB.trans (hb.mono hB.size)
      clear hb
      go_wp2_with fail
      go_ret
      exact ⟨rfl, hB⟩
    · rcases Bool.eq_false_or_eq_true (decide (∀ q ∈ ps, q.1 < p ∧ q.2 < p)) with h2 | h2; rotate_left
      · have g0 := fun W => rSupported_any p W
        rw [h0] at g0
        have h1' : (ps.length : Int) ≤ 11 := by omega
        have g2 := fun W h => points_any p A c ps W h (by omega)
        rw [h2] at g2
        go_enter Try.func9, Try.ntmps9
        go_wp2_with fail
        refine (awake_any _).mono ?_; rintro e w1 ⟨rfl, hB⟩
        have k0 : w1.cell? ⟨w.heap.size, 0, none⟩ = some (.int .u64 mx) := by rw [(bcell hB).1 _ _ (by simp)]; go_simp
        have k1 : w1.cell? ⟨w.heap.size, 1, none⟩ = some (.int .u64 my) := by rw [(bcell hB).1 _ _ (by simp)]; go_simp
        have hq : w.heap.size < w1.heap.size := by have h := hB.size; simp at h; omega
        replace sps := (sps.push _).next hB
        replace hB := (bnew (Below.refl w.heap.size w) (.cells #[.int .u64 mx, .int .u64 my] 34) (Nat.le_refl _)).trans (hB.mono (by simp))
        go_wp2_with fail
        refine (g0 _).mono ?_; rintro e w2 ⟨rfl, hb⟩
        replace sps := sps.next hb
        replace k0 := (hb.cell (p := ⟨w.heap.size, 0, none⟩) hq).trans k0
        replace k1 := (hb.cell (p := ⟨w.heap.size, 1, none⟩) hq).trans k1
        replace hq := Nat.lt_of_lt_of_le hq hb.size
        replace hB := hB.trans (hb.mono hB.size)
        clear hb
        go_wp2_with fail
        refine (g2 _ sps).mono ?_; rintro e w' ⟨rfl, rfl⟩
        go_wp2_with fail
        go_ret
        exact ⟨rfl, hB⟩
      · rcases Int.lt_or_le mx p with h3 | h3; rotate_left
        · have g0 := fun W => rSupported_any p W
          rw [h0] at g0
          have h1' : (ps.length : Int) ≤ 11 := by omega
          have g2 := fun W h => points_any p A c ps W h (by omega)
          rw [h2] at g2
          have h3' : p ≤ mx := by omega
          go_enter Try.func9, Try.ntmps9
          go_wp2_with fail
          refine (awake_any _).mono ?_; rintro e w1 ⟨rfl, hB⟩
          have k0 : w1.cell? ⟨w.heap.size, 0, none⟩ = some (.int .u64 mx) := by rw [(bcell hB).1 _ _ (by simp)]; go_simp
          have k1 : w1.cell? ⟨w.heap.size, 1, none⟩ = some (.int .u64 my) := by rw [(bcell hB).1 _ _ (by simp)]; go_simp
          have hq : w.heap.size < w1.heap.size := by have h := hB.size; simp at h; omega
          replace sps := (sps.push _).next hB
          replace hB := (bnew (Below.refl w.heap.size w) (.cells #[.int .u64 mx, .int .u64 my] 34) (Nat.le_refl _)).trans (hB.mono (by simp))
          go_wp2_with fail
          refine (g0 _).mono ?_; rintro e w2 ⟨rfl, hb⟩
          replace sps := sps.next hb
          replace k0 := (hb.cell (p := ⟨w.heap.size, 0, none⟩) hq).trans k0
          replace k1 := (hb.cell (p := ⟨w.heap.size, 1, none⟩) hq).trans k1
          replace hq := Nat.lt_of_lt_of_le hq hb.size
          replace hB := hB.trans (hb.mono hB.size)
          clear hb
          go_wp2_with fail
          refine (g2 _ sps).mono ?_; rintro e w' ⟨rfl, rfl⟩
          go_wp2_with fail
          go_ret
          exact ⟨rfl, hB⟩
        · rcases Int.lt_or_le my p with h4 | h4; rotate_left
          · have g0 := fun W => rSupported_any p W
            rw [h0] at g0
            have h1' : (ps.length : Int) ≤ 11 := by omega
            have g2 := fun W h => points_any p A c ps W h (by omega)
            rw [h2] at g2
            have h4' : p ≤ my := by omega
            go_enter Try.func9, Try.ntmps9
            go_wp2_with fail
            refine (awake_any _).mono ?_; rintro e w1 ⟨rfl, hB⟩
            have k0 : w1.cell? ⟨w.heap.size, 0, none⟩ = some (.int .u64 mx) := by rw [(bcell hB).1 _ _ (by simp)]; go_simp
            have k1 : w1.cell? ⟨w.heap.size, 1, none⟩ = some (.int .u64 my) := by rw [(bcell hB).1 _ _ (by simp)]; go_simp
            have hq : w.heap.size < w1.heap.size := by have h := hB.size; simp at h; omega
            replace sps := (sps.push _).next hB
            replace hB := (bnew (Below.refl w.heap.size w) (.cells #[.int .u64 mx, .int .u64 my] 34) (Nat.le_refl _)).trans (hB.mono (by simp))
            go_wp2_with fail
            refine (g0 _).mono ?_; rintro e w2 ⟨rfl, hb⟩
            replace sps := sps.next hb
            replace k0 := (hb.cell (p := ⟨w.heap.size, 0, none⟩) hq).trans k0
            replace k1 := (hb.cell (p := ⟨w.heap.size, 1, none⟩) hq).trans k1
            replace hq := Nat.lt_of_lt_of_le hq hb.size
            replace hB := hB.trans (hb.mono hB.size)
            clear hb
            go_wp2_with fail
            refine (g2 _ sps).mono ?_; rintro e w' ⟨rfl, rfl⟩
            go_wp2_with fail
            go_ret
            exact ⟨rfl, hB⟩
          · exact walk_main p A c ps mx my hp wp wps wmx wmy h0 h1 h2 h3 h4 w sps

set_option maxRecDepth 100000 in
theorem lifted (os : Os) (started : os.Started) (H : Type) (enc : TypeId × Value → H) :
    ReturnsInHanded {} Try.checked os 9 .any (Rows.interpolateExtraPointSpec.pre6 enc Try.prog Try.f9 Rows.interpolateExtraPointRow.domain false) (Rows.interpolateExtraPointSpec.post enc Try.prog Try.f9 false true false false) := by
  refine returnsInHanded_of_change (C := Try.checked) own started (by kernel_rfl) Try.func9
    (ChangeSpec.witness6 (enc := enc) (C := Try.checked) false ⟨#[], #[.int .u64 0, .slice none 0 0, .agg #[.int .u64 0, .int .u64 0]], []⟩ 8 (by kernel_rfl) (by kernel_rfl) (by kernel_rfl) (by kernel_rfl)) ?_
  intro W base args ds gs before hval0 hW hcnd _
  have hval : ∀ (j : Nat) t v, Try.f9.params[j]? = some t → args[j]? = some v → Value.okWide Try.prog W .any base t v := hval0
  have hW' := hW
  obtain ⟨p, q, hA0, hV, rfl, hfz, hnd⟩ := hW
  have hA : DataW.TrodAll enc Try.prog W 0 (fun _ => true) true Try.f9.params.toList args.toList ds p := hA0
  rw [Try.params9] at hA hval
  obtain ⟨v0, v1, v2, d0, d1, d2, p0, p1, p2, rfl, rfl, rfl, t0, t1, t2⟩ := trodAll_three hA
  obtain ⟨rfl, rfl⟩ := trodVars_none hV
  clear hA0 hval0
  simp only [List.append_nil] at hW'
  have l0 : ∀ x ∈ p0, x.block < W.heap.size := fun x hx => hW'.lt x (by simp [hx])
  obtain ⟨x0, rfl, b0⟩ := arg_word (hval 0 22 v0 rfl rfl) t0
  have l1 : ∀ x ∈ p1, x.block < W.heap.size := fun x hx => hW'.lt x (by simp [hx])
  obtain ⟨A1, x1, c1, rfl, r1, b1⟩ := arg_pt (hval 1 23 v1 rfl rfl) t1 l1
  have l2 : ∀ x ∈ p2, x.block < W.heap.size := fun x hx => hW'.lt x (by simp [hx])
  obtain ⟨x2, y2, rfl, b2, bb2⟩ := arg_point (hval 2 34 v2 rfl rfl) t2
  refine (walk x0 A1 c1 x1 x2 y2 b0 b1 b2 bb2 W r1).mono fun e W' ⟨he, hb⟩ => ?_
  subst he
  exact ⟨_, rfl, post_of_below (pa := p0 ++ (p1 ++ p2)) (pv := []) hW' (fun _ _ _ => (trodAll_cons_mk (shut_bool Try.underlying4 _) trodAll_mk0)) (fun sp hsp => trodAll_mk3 (stay_word t0 hb l0 sp (fun x hx => hsp x (by simp [hx]))) (stay_pt t1 hb l1 sp (fun x hx => hsp x (by simp [hx]))) (stay_point t2 hb l2 sp (fun x hx => hsp x (by simp [hx])))) (fun _ _ => rfl) (by simp)
    hb (ok_one (by kernel_rfl) rfl (okWide_bool_mk Try.underlying4 _))⟩

theorem over : Rows.interpolateExtraPointRow.holds Try.pinned (OpenSpec.ofChange Rows.interpolateExtraPointSpec) :=
  OpenClaim.holds_of_wide 9 Try.f9 rfl rfl rfl rfl rfl rfl rfl ⟨rfl, rfl, rfl, rfl, rfl⟩ rfl rfl rfl rfl rfl (by kernel_rfl) Try.func9 (by kernel_rfl)
    (of_decide_eq_true (by kernel_rfl)) (by unfold Func.isWrapper; first | (rw [if_pos (by decide +kernel)]; kernel_rfl) | (rw [if_neg (by decide +kernel)]; exact ⟨rfl, rfl⟩))
    (fun os started H enc _ => lifted os started H enc)

theorem proved : Rows.InterpolateExtraPointSaid := over
end Go.Proofs.Ytpjgpfjepcidgaa.interpolateExtraPoint
