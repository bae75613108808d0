/- InterpolateIsLinear: for every prime, every slice of points and every slice of words, the law returns true and changes nothing that lay. No conditions. -/
import Derived.Test.YtpjgpfjepcidgaaIGrow
namespace Go.Proofs.Ytpjgpfjepcidgaa.interpolateIsLinear
open Go.ChangeShapes Go.WideShapes Go.ChangeAt Go.RowKit PolyMath FieldMath

set_option maxRecDepth 100000 in
set_option maxHeartbeats 4000000 in
theorem walk_main (p : Int) (A : Option Addr) (c : Nat) (ps : List (Int × Int)) (B : Option Addr) (d : Nat) (ys : List Int) (hp : OkP p) (_wp : Wd p) (wps : PWords ps) (wys : Words ys) (h0 : (qOf p != 0) = true) (h1 : ps.length ≤ 12) (h2 : ys.length = ps.length) (h3 : decide (∀ q ∈ ps, q.1 < p ∧ q.2 < p) = true) (h4 : decide (∀ x ∈ ys, x < p) = true) (h5 : decide (px ps).Nodup = true) (w : World) (sps : Pt w A c ps) (sys : Sl w B d ys) :
    Calls Try.prog 7 #[.int .u64 p, .slice A ps.length c, .slice B ys.length d] w fun e w' => e = .returned (.bool true) ∧ Below w.heap.size w w' := by
  obtain ⟨i0, hi, hz0, hz1, hz2⟩ := info_parts info_pt
  have hbd := hp.bd
  have hx := px_el wps (of_decide_eq_true h3)
  have hy := py_el wps (of_decide_eq_true h3)
  have hys := el_of wys (of_decide_eq_true h4)
  have hnd := of_decide_eq_true h5
  obtain ⟨us, hus⟩ : ∃ us, us = (List.range ps.length).map fun i => fadd p (co (py ps) i) (co ys i) := ⟨_, rfl⟩
  have husl : us.length = ps.length := by rw [hus]; simp
  have huse : El p us := by rw [hus]; intro y hy; obtain ⟨i, _, rfl⟩ := List.mem_map.1 hy; exact fadd_bd p _ _ (by omega)
  have husc : ∀ i, i < ps.length → co us i = fadd p (co (py ps) i) (co ys i) := fun i h => by rw [hus, co_map, if_pos h]
  have hx1 : px (zipL (px ps) ys ps.length) = px ps := px_zipL _ _ (px_len ps)
  have hx2 : px (zipL (px ps) us ps.length) = px ps := px_zipL _ _ (px_len ps)
  have hy1 : py (zipL (px ps) ys ps.length) = ys := py_zipL _ _ h2
  have hy2 : py (zipL (px ps) us ps.length) = us := py_zipL _ _ husl
  have t0 := thru_itp hp.good hnd hx hy
  have t1 := thru_itp (ps := zipL (px ps) ys ps.length) hp.good (by rw [hx1]; exact hnd) (by rw [hx1]; exact hx) (by rw [hy1]; exact hys)
  have t2 := thru_itp (ps := zipL (px ps) us ps.length) hp.good (by rw [hx2]; exact hnd) (by rw [hx2]; exact hx) (by rw [hy2]; exact huse)
  rw [hx1, hy1] at t1
  rw [hx2, hy2] at t2
  have hsum : thru p (zipL (px ps) us ps.length) = padd p (thru p ps) (thru p (zipL (px ps) ys ps.length)) := t2.unique hp.good hnd hx (t0.add (by omega) t1 (fun i hi => husc i (by rwa [px_len] at hi)))
  have pol0 := fun W A1 c1 (h : Pt W A1 c1 ps) => pol_any p hp A1 c1 ps hx hy (by omega) W h
  have pol1 := fun W A1 c1 (h : Pt W A1 c1 (zipL (px ps) ys ps.length)) => pol_any p hp A1 c1 _ (by rw [hx1]; exact hx) (by rw [hy1]; exact hys) (by rw [zipL_len]; omega) W h
  have pol2 := fun W A1 c1 (h : Pt W A1 c1 (zipL (px ps) us ps.length)) => pol_any p hp A1 c1 _ (by rw [hx2]; exact hx) (by rw [hy2]; exact huse) (by rw [zipL_len]; omega) W h
  unfold PolRow at pol0 pol1 pol2
  rw [zipL_len, hx1] at pol1
  rw [zipL_len, hx2, hsum] at pol2
  have l0 := t0.fl
  have l1 := t1.fl
  have e0 := t0.fe
  have e1 := t1.fe
  rw [px_len] at l0 l1
  have hPS := Lib.hid (⟨pol0, pol1, pol2⟩ : _ ∧ _ ∧ _)
  have hND := Lib.hid hnd
  have hLE := Lib.hid (⟨l0, l1, e0, e1⟩ : _ ∧ _ ∧ _ ∧ _)
  have hUS := Lib.hid husc
  clear hus husl huse husc hx1 hx2 hy1 hy2 t0 t1 t2 hsum pol0 pol1 pol2 l0 l1 e0 e1 hnd
  have g0 := fun W => rSupported_any p W
  rw [h0] at g0
  have h1' : (ps.length : Int) ≤ 12 := by omega
  rw [h2]
  have g3 := fun W h => points_any p A c ps W h (by omega)
  rw [h3] at g3
  have g4 := fun W h => below_any p B d ys W h (by omega)
  rw [h4] at g4
  rw [h2] at g4
  have g5a := fun W h => places_row A c ps (by omega) W h
  have g5 := fun W A1 c1 h => unlike_b A1 c1 (px ps) W h (by rw [px_len]; omega) _ h5
  rw [px_len] at g5
  have H2 := Lib.hid h2
  clear h2
  go_enter Try.func7, Try.ntmps7
  go_wp2_with fail
  refine (awake_any _).mono ?_; rintro e w1 ⟨rfl, hB⟩
  replace sps := sps.next hB
  replace sys := sys.next hB
  go_wp2_with fail
  refine (g0 _).mono ?_; rintro e w2 ⟨rfl, hb⟩
  replace sps := sps.next hb
  replace sys := sys.next hb
  replace hB := hB.trans (hb.mono hB.size)
  clear hb
  go_wp2_with fail
  refine (g3 _ sps).mono ?_; rintro e w' ⟨rfl, rfl⟩
  go_wp2_with fail
  refine (g4 _ sys).mono ?_; rintro e w' ⟨rfl, rfl⟩
  go_wp2_with fail
  refine (g5a _ sps).mono ?_; rintro e w3 ⟨Aq, cq, rfl, sq, hb⟩
  replace sps := sps.next hb
  replace sys := sys.next hb
  replace hB := hB.trans (hb.mono hB.size)
  clear hb
  rw [px_len]
  go_wp2_with fail
  refine (g5 _ _ _ sq).mono ?_; rintro e w4 ⟨rfl, hb⟩
  clear sq
  replace sps := sps.next hb
  replace sys := sys.next hb
  replace hB := hB.trans (hb.mono hB.size)
  clear hb
  go_wp2_with fail
  have e1 : decide ((12 : Int) < ps.length) = false := decide_eq_false (by omega)
  simp only [e1]
  clear e1
  go_loopw [7, 8, 9] (fun v u i wr => ∃ k : Nat, k ≤ ps.length ∧ i = .int .i64 k ∧ Two w4.heap.size wr v u k k (zipL (px ps) ys k) (zipL (px ps) us k) ∧ Below w4.heap.size w4 wr) (fun _ _ i _ => ps.length - (intOf i).toNat)
  case atStart => exact ⟨0, Nat.zero_le _, rfl, ⟨World.ownsRow_nil _ _ _ _, World.ownsRow_nil _ _ _ _, fun e h => by cases h⟩, Below.refl _ _⟩
  case round =>
    obtain ⟨k, hk, rfl, hT, hBr⟩ := hrel
    by_cases hlt : k < ps.length
    · obtain ⟨b, off, x, y, hA, hbl, hxy, hcx0, hcy0⟩ := sps.at_ hlt
      obtain ⟨b', off', z, hA', hbl', hzk, hcz0⟩ := sys.at_ (show k < ys.length by rw [H2.out]; exact hlt)
      subst hA hA'
      have hcx := (hBr.cell (p := ⟨b, off + k * 2, none⟩) hbl).trans hcx0
      have hcy := (hBr.cell (p := ⟨b, off + k * 2 + 1, none⟩) hbl).trans hcy0
      have hcz := (hBr.cell (p := ⟨b', off' + k, none⟩) hbl').trans hcz0
      have hblr : b < wr.heap.size := Nat.lt_of_lt_of_le hbl hBr.size
      have hblr' : b' < wr.heap.size := Nat.lt_of_lt_of_le hbl' hBr.size
      have hyb : 0 ≤ y ∧ y < p := by have := hy.co (p := p) (by omega) k; rwa [py_at hxy] at this
      have hzb := hys z (List.mem_of_getElem? hzk)
      have hn1 : zipL (px ps) ys (k + 1) = zipL (px ps) ys k ++ [(x, z)] := by rw [zipL_next, px_at hxy, co_at hzk]
      have hn2 : zipL (px ps) us (k + 1) = zipL (px ps) us k ++ [(x, fadd p y z)] := by rw [zipL_next, px_at hxy, hUS.out k hlt, py_at hxy, co_at hzk]
      have hN1 := Lib.hid hn1
      have hN2 := Lib.hid hn2
      have hkN : (k : Int) < ps.length := by omega
      have hsz4 := hBr.size
      have hf1 : ∀ (q : Nat), q < w4.heap.size → ∀ v n xs (W : World), W.ownsRow w4.heap.size 34 2 v n xs → some q ≠ v.ownBlock := fun q hq v n xs W h e => by have := (World.ownsRow.lt h q e.symm).1; omega
      have hF1 := Lib.hid hf1
      have hT1 : Two w4.heap.size ((wr.alloc (.cells #[.int .u64 x, .int .u64 z] 34)).drew) u7 u8 k k (zipL (px ps) ys k) (zipL (px ps) us k) := hT.next (bnew (Below.refl _ wr) _ (Nat.le_refl _)).drew
      have hB1 := (bnew hBr (.cells #[.int .u64 x, .int .u64 z] 34) (Nat.le_refl _)).drew
      have dx := (hB1.cell (p := ⟨b, off + k * 2, none⟩) hbl).trans hcx0
      have dy := (hB1.cell (p := ⟨b, off + k * 2 + 1, none⟩) hbl).trans hcy0
      have dz := (hB1.cell (p := ⟨b', off' + k, none⟩) hbl').trans hcz0
      clear hxy hzk hn1 hn2 hf1
      go_wp2_with fail
      go_region_held3 (fun w' => w'.cell? ⟨b, off + k * 2, none⟩ = some (.int .u64 x) ∧ w'.cell? ⟨b', off' + k, none⟩ = some (.int .u64 z))
        (first | (refine ⟨?_, ?_⟩ <;> assumption) | exact ⟨hcx, hcz⟩ | exact ⟨dx, dz⟩)
        (first
          | (refine step_append_lies _ (by rfl) _ _ _ (by rfl) w4.heap.size 34 i0 _ 2 16 Try.underlying23 hi hz0 hz1 hz2 rfl (by omega) _ k _ (by rfl) hT1.a ⟨wr.heap.size, 0, none⟩ 1 1 [.int .u64 x, .int .u64 z] (by rfl) (by rfl) (World.news_of_block (cs := #[.int .u64 x, .int .u64 z]) (t := 34) (fr := (0, 0)) (World.alloc_heap_new wr _)) (by simp [Value.oneCell']) (by omega) (by simp only [maxLen]; omega) (by omega) (by simp; omega) (wr.heap.size + 1) (by simp) ?_; intro g7 cap7 w7 hown7 hgrow7 hat7 hlt7; have cx7 := hgrow7.cell dx (hF1.out b hbl _ _ _ _ hT1.a); have cy7 := hgrow7.cell dy (hF1.out b hbl _ _ _ _ hT1.a); have cz7 := hgrow7.cell dz (hF1.out b' hbl' _ _ _ _ hT1.a)))
      all_goals
        have hT2 := hT1.add (by simp) hown7 hgrow7 hat7
        have hB2 : Below w4.heap.size w4 w7 := hB1.grown hgrow7 (by simp; omega) (fun q e => (World.ownsRow.lt hT1.a q e).1)
        rw [← hN1.out] at hT2
        have hT3 : Two w4.heap.size ((w7.alloc (.cells #[.int .u64 x, .int .u64 (fadd p y z)] 34)).drew) u8 (.slice (some ⟨g7, 0, none⟩) (k + 1) cap7) k (k + 1) (zipL (px ps) us k) (zipL (px ps) ys (k + 1)) := hT2.swap.next (bnew (Below.refl _ w7) _ (Nat.le_refl _)).drew
        have hB3 := (bnew hB2 (.cells #[.int .u64 x, .int .u64 (fadd p y z)] 34) (Nat.le_refl _)).drew
        have hsz7 := hB2.size
        have ex := (hB3.cell (p := ⟨b, off + k * 2, none⟩) hbl).trans hcx0
        have ey := (hB3.cell (p := ⟨b, off + k * 2 + 1, none⟩) hbl).trans hcy0
        have ez := (hB3.cell (p := ⟨b', off' + k, none⟩) hbl').trans hcz0
        clear hown7 hgrow7 hat7 hT1 hT hT2
        go_wp2_with fail
        go_region_held3 (fun w' => w'.cell? ⟨b, off + k * 2, none⟩ = some (.int .u64 x) ∧ w'.cell? ⟨b, off + k * 2 + 1, none⟩ = some (.int .u64 y) ∧ w'.cell? ⟨b', off' + k, none⟩ = some (.int .u64 z))
          (first | (refine ⟨?_, ?_, ?_⟩ <;> assumption) | exact ⟨cx7, cy7, cz7⟩ | exact ⟨ex, ey, ez⟩)
          (first
            | (go_at_call 22; (with_reducible refine (add_any _ _ _ hp hyb.1 hyb.2 hzb.1 hzb.2 _).mono ?_); rintro e w' ⟨rfl, rfl⟩)
            | (refine step_append_lies _ (by rfl) _ _ _ (by rfl) w4.heap.size 34 i0 _ 2 16 Try.underlying23 hi hz0 hz1 hz2 rfl (by omega) _ k _ (by rfl) hT3.a ⟨w7.heap.size, 0, none⟩ 1 1 [.int .u64 x, .int .u64 (fadd p y z)] (by rfl) (by rfl) (World.news_of_block (cs := #[.int .u64 x, .int .u64 (fadd p y z)]) (t := 34) (fr := (0, 0)) (World.alloc_heap_new w7 _)) (by simp [Value.oneCell']) (by omega) (by simp only [maxLen]; omega) (by omega) (by simp; omega) (w7.heap.size + 1) (by simp) ?_; intro g8 cap8 w8 hown8 hgrow8 hat8 hlt8; have cx8 := hgrow8.cell ex (hF1.out b hbl _ _ _ _ hT3.a); have cy8 := hgrow8.cell ey (hF1.out b hbl _ _ _ _ hT3.a); have cz8 := hgrow8.cell ez (hF1.out b' hbl' _ _ _ _ hT3.a)))
        all_goals
          have hT4 := (hT3.add (by simp) hown8 hgrow8 hat8).swap
          rw [← hN2.out] at hT4
          have hB4 : Below w4.heap.size w4 w8 := hB3.grown hgrow8 (by simp; omega) (fun q e => (World.ownsRow.lt hT3.a q e).1)
          go_wp2_with fail
          go_roundw
          case rel => exact ⟨k + 1, by omega, by simp, hT4, hB4⟩
          case measure => simp [intOf]; omega
    · obtain rfl : k = ps.length := by omega
      obtain ⟨A7, c7, hv7, hs7⟩ := pown_form hT.a
      obtain ⟨A8, c8, hv8, hs8⟩ := pown_form hT.b
      rw [zipL_len] at hv7 hv8
      subst hv7 hv8
      obtain ⟨l0, l1, e0, e1⟩ := hLE.out
      have sp9 := sps.next hBr
      have hB9 := hB.trans (hBr.mono hB.size)
      generalize zipL (px ps) ys ps.length = Z1 at *
      generalize zipL (px ps) us ps.length = Z2 at *
      clear hT
      go_wp2_with fail
      refine (hPS.out.1 _ _ _ sp9).mono ?_
      rintro e w9 (⟨_, A9, c9, rfl, hs9, hb⟩ | ⟨hn, _⟩)
      case inr => exact absurd hND.out hn
      replace hs7 := hs7.next hb
      replace hs8 := hs8.next hb
      replace hB9 := hB9.trans (hb.mono hB9.size)
      clear hb
      go_wp2_with fail
      refine (hPS.out.2.1 _ _ _ hs7).mono ?_
      rintro e w10 (⟨_, A10, c10, rfl, hs10, hb⟩ | ⟨hn, _⟩)
      case inr => exact absurd hND.out hn
      replace hs8 := hs8.next hb
      replace hs9 := hs9.next hb
      replace hB9 := hB9.trans (hb.mono hB9.size)
      clear hb
      go_wp2_with fail
      refine (hPS.out.2.2 _ _ _ hs8).mono ?_
      rintro e w11 (⟨_, A11, c11, rfl, hs11, hb⟩ | ⟨hn, _⟩)
      case inr => exact absurd hND.out hn
      replace hs9 := hs9.next hb
      replace hs10 := hs10.next hb
      replace hB9 := hB9.trans (hb.mono hB9.size)
      clear hb
      have had := add_row p hp A9 A10 c9 c10 (thru p ps) (thru p Z1) e0 e1 (by omega) (by omega) w11 hs9 hs10
      have hpl := padd_len p (thru p ps) (thru p Z1)
      clear hPS
      generalize padd p (thru p ps) (thru p Z1) = S at *
      generalize thru p ps = F1 at *
      generalize thru p Z1 = F2 at *
      go_wp2_with fail
      refine had.mono ?_
      rintro e w12 ⟨A12, c12, rfl, hs12, hb⟩
      replace hs11 := hs11.next hb
      replace hB9 := hB9.trans (hb.mono hB9.size)
      clear hb had
      go_wp2_with fail
      refine (same_b _ _ S _ _ _ hs11 hs12 (by omega)).mono ?_
      rintro e w13 ⟨rfl, hb⟩
      replace hB9 := hB9.trans (hb.mono hB9.size)
      go_wp2_with fail
      go_ret
      exact ⟨rfl, hB9⟩

set_option maxRecDepth 100000 in
set_option maxHeartbeats 4000000 in
theorem walk (p : Int) (A : Option Addr) (c : Nat) (ps : List (Int × Int)) (B : Option Addr) (d : Nat) (ys : List Int) (wp : Wd p) (wps : PWords ps) (wys : Words ys) (w : World) (sps : Pt w A c ps) (sys : Sl w B d ys) :
    Calls Try.prog 7 #[.int .u64 p, .slice A ps.length c, .slice B ys.length d] w fun e w' => e = .returned (.bool true) ∧ Below w.heap.size w w' := by
  rcases sup_cases p with h0 | ⟨h0, hp⟩
  · have g0 := fun W => rSupported_any p W
    rw [h0] at g0
    go_enter Try.func7, Try.ntmps7
    go_wp2_with fail
    refine (awake_any _).mono ?_; rintro e w1 ⟨rfl, hB⟩
    replace sps := sps.next hB
    replace sys := sys.next hB
    go_wp2_with fail
    refine (g0 _).mono ?_; rintro e w2 ⟨rfl, hb⟩
    replace sps := sps.next hb
    replace sys := sys.next hb
    replace hB := hB.trans (hb.mono hB.size)
    clear hb
    go_wp2_with fail
    go_ret
    exact ⟨rfl, hB⟩
  · rcases Nat.lt_or_ge 12 ps.length with h1 | h1
    · have g0 := fun W => rSupported_any p W
      rw [h0] at g0
      have h1' : (12 : Int) < ps.length := by omega
      go_enter Try.func7, Try.ntmps7
      go_wp2_with fail
      refine (awake_any _).mono ?_; rintro e w1 ⟨rfl, hB⟩
      replace sps := sps.next hB
      replace sys := sys.next hB
      go_wp2_with fail
      refine (g0 _).mono ?_; rintro e w2 ⟨rfl, hb⟩
      replace sps := sps.next hb
      replace sys := sys.next hb
      replace hB := hB.trans (hb.mono hB.size)
      clear hb
      go_wp2_with fail
      go_ret
      exact ⟨rfl, hB⟩
    · rcases Decidable.em (ys.length = ps.length) with h2 | h2; rotate_left
      · have g0 := fun W => rSupported_any p W
        rw [h0] at g0
        have h1' : (ps.length : Int) ≤ 12 := by omega
        have h2' : ¬ (ys.length : Int) = ps.length := by omega
        go_enter Try.func7, Try.ntmps7
        go_wp2_with fail
        refine (awake_any _).mono ?_; rintro e w1 ⟨rfl, hB⟩
        replace sps := sps.next hB
        replace sys := sys.next hB
        go_wp2_with fail
        refine (g0 _).mono ?_; rintro e w2 ⟨rfl, hb⟩
        replace sps := sps.next hb
        replace sys := sys.next hb
        replace hB := hB.trans (hb.mono hB.size)
        clear hb
        go_wp2_with fail
        go_ret
        exact ⟨rfl, hB⟩
      · rcases Bool.eq_false_or_eq_true (decide (∀ q ∈ ps, q.1 < p ∧ q.2 < p)) with h3 | h3; rotate_left
        · have g0 := fun W => rSupported_any p W
          rw [h0] at g0
          have h1' : (ps.length : Int) ≤ 12 := by omega
          rw [h2]
          have g3 := fun W h => points_any p A c ps W h (by omega)
          rw [h3] at g3
          have H2 := Lib.hid h2
          clear h2
          go_enter Try.func7, Try.ntmps7
          go_wp2_with fail
          refine (awake_any _).mono ?_; rintro e w1 ⟨rfl, hB⟩
          replace sps := sps.next hB
          replace sys := sys.next hB
          go_wp2_with fail
          refine (g0 _).mono ?_; rintro e w2 ⟨rfl, hb⟩
          replace sps := sps.next hb
          replace sys := sys.next hb
          replace hB := hB.trans (hb.mono hB.size)
          clear hb
          go_wp2_with fail
          refine (g3 _ sps).mono ?_; rintro e w' ⟨rfl, rfl⟩
          go_wp2_with fail
          go_ret
          exact ⟨rfl, hB⟩
        · rcases Bool.eq_false_or_eq_true (decide (∀ x ∈ ys, x < p)) with h4 | h4; rotate_left
          · have g0 := fun W => rSupported_any p W
            rw [h0] at g0
            have h1' : (ps.length : Int) ≤ 12 := by omega
            rw [h2]
            have g3 := fun W h => points_any p A c ps W h (by omega)
            rw [h3] at g3
            have g4 := fun W h => below_any p B d ys W h (by omega)
            rw [h4] at g4
            rw [h2] at g4
            have H2 := Lib.hid h2
            clear h2
            go_enter Try.func7, Try.ntmps7
            go_wp2_with fail
            refine (awake_any _).mono ?_; rintro e w1 ⟨rfl, hB⟩
            replace sps := sps.next hB
            replace sys := sys.next hB
            go_wp2_with fail
            refine (g0 _).mono ?_; rintro e w2 ⟨rfl, hb⟩
            replace sps := sps.next hb
            replace sys := sys.next hb
            replace hB := hB.trans (hb.mono hB.size)
            clear hb
            go_wp2_with fail
            refine (g3 _ sps).mono ?_; rintro e w' ⟨rfl, rfl⟩
            go_wp2_with fail
            refine (g4 _ sys).mono ?_; rintro e w' ⟨rfl, rfl⟩
            go_wp2_with fail
            go_ret
            exact ⟨rfl, hB⟩
          · rcases Bool.eq_false_or_eq_true (decide (px ps).Nodup) with h5 | h5; rotate_left
            · have g0 := fun W => rSupported_any p W
              rw [h0] at g0
              have h1' : (ps.length : Int) ≤ 12 := by omega
              rw [h2]
              have g3 := fun W h => points_any p A c ps W h (by omega)
              rw [h3] at g3
              have g4 := fun W h => below_any p B d ys W h (by omega)
              rw [h4] at g4
              rw [h2] at g4
              have g5a := fun W h => places_row A c ps (by omega) W h
              have g5 := fun W A1 c1 h => unlike_b A1 c1 (px ps) W h (by rw [px_len]; omega) _ h5
              rw [px_len] at g5
              have H2 := Lib.hid h2
              clear h2
              go_enter Try.func7, Try.ntmps7
              go_wp2_with fail
              refine (awake_any _).mono ?_; rintro e w1 ⟨rfl, hB⟩
              replace sps := sps.next hB
              replace sys := sys.next hB
              go_wp2_with fail
              refine (g0 _).mono ?_; rintro e w2 ⟨rfl, hb⟩
              replace sps := sps.next hb
              replace sys := sys.next hb
              replace hB := hB.trans (hb.mono hB.size)
              clear hb
              go_wp2_with fail
              refine (g3 _ sps).mono ?_; rintro e w' ⟨rfl, rfl⟩
              go_wp2_with fail
              refine (g4 _ sys).mono ?_; rintro e w' ⟨rfl, rfl⟩
              go_wp2_with fail
              refine (g5a _ sps).mono ?_; rintro e w3 ⟨Aq, cq, rfl, sq, hb⟩
              replace sps := sps.next hb
              replace sys := sys.next hb
              replace hB := hB.trans (hb.mono hB.size)
              clear hb
              rw [px_len]
              go_wp2_with fail
              refine (g5 _ _ _ sq).mono ?_; rintro e w4 ⟨rfl, hb⟩
              clear sq
              replace sps := sps.next hb
              replace sys := sys.next hb
              replace hB := hB.trans (hb.mono hB.size)
              clear hb
              go_wp2_with fail
              go_ret
              exact ⟨rfl, hB⟩
            · exact walk_main p A c ps B d ys hp wp wps wys h0 h1 h2 h3 h4 h5 w sps sys

set_option maxRecDepth 100000 in
theorem lifted (os : Os) (started : os.Started) (H : Type) (enc : TypeId × Value → H) :
    ReturnsInHanded {} Try.checked os 7 .any (Rows.interpolateIsLinearSpec.pre6 enc Try.prog Try.f7 Rows.interpolateIsLinearRow.domain false) (Rows.interpolateIsLinearSpec.post enc Try.prog Try.f7 false true false false) := by
  refine returnsInHanded_of_change (C := Try.checked) own started (by kernel_rfl) Try.func7
    (ChangeSpec.witness6 (enc := enc) (C := Try.checked) false ⟨#[], #[.int .u64 0, .slice none 0 0, .slice none 0 0], []⟩ 8 (by kernel_rfl) (by kernel_rfl) (by kernel_rfl) (by kernel_rfl)) ?_
  intro W base args ds gs before hval0 hW hcnd _
  have hval : ∀ (j : Nat) t v, Try.f7.params[j]? = some t → args[j]? = some v → Value.okWide Try.prog W .any base t v := hval0
  have hW' := hW
  obtain ⟨p, q, hA0, hV, rfl, hfz, hnd⟩ := hW
  have hA : DataW.TrodAll enc Try.prog W 0 (fun _ => true) true Try.f7.params.toList args.toList ds p := hA0
  rw [Try.params7] at hA hval
  obtain ⟨v0, v1, v2, d0, d1, d2, p0, p1, p2, rfl, rfl, rfl, t0, t1, t2⟩ := trodAll_three hA
  obtain ⟨rfl, rfl⟩ := trodVars_none hV
  clear hA0 hval0
  simp only [List.append_nil] at hW'
  have l0 : ∀ x ∈ p0, x.block < W.heap.size := fun x hx => hW'.lt x (by simp [hx])
  obtain ⟨x0, rfl, b0⟩ := arg_word (hval 0 22 v0 rfl rfl) t0
  have l1 : ∀ x ∈ p1, x.block < W.heap.size := fun x hx => hW'.lt x (by simp [hx])
  obtain ⟨A1, x1, c1, rfl, r1, b1⟩ := arg_pt (hval 1 23 v1 rfl rfl) t1 l1
  have l2 : ∀ x ∈ p2, x.block < W.heap.size := fun x hx => hW'.lt x (by simp [hx])
  obtain ⟨A2, x2, c2, rfl, r2, b2⟩ := arg_sl (hval 2 27 v2 rfl rfl) t2 l2
  refine (walk x0 A1 c1 x1 A2 c2 x2 b0 b1 b2 W r1 r2).mono fun e W' ⟨he, hb⟩ => ?_
  subst he
  exact ⟨_, rfl, post_of_below (pa := p0 ++ (p1 ++ p2)) (pv := []) hW' (fun _ _ _ => (trodAll_cons_mk (shut_bool Try.underlying4 _) trodAll_mk0)) (fun sp hsp => trodAll_mk3 (stay_word t0 hb l0 sp (fun x hx => hsp x (by simp [hx]))) (stay_pt t1 hb l1 sp (fun x hx => hsp x (by simp [hx]))) (stays t2 hb l2 sp (fun x hx => hsp x (by simp [hx])))) (fun _ _ => rfl) (by simp)
    hb (ok_one (by kernel_rfl) rfl (okWide_bool_mk Try.underlying4 _))⟩

theorem over : Rows.interpolateIsLinearRow.holds Try.pinned (OpenSpec.ofChange Rows.interpolateIsLinearSpec) :=
  OpenClaim.holds_of_wide 7 Try.f7 rfl rfl rfl rfl rfl rfl rfl ⟨rfl, rfl, rfl, rfl, rfl⟩ rfl rfl rfl rfl rfl (by kernel_rfl) Try.func7 (by kernel_rfl)
    (of_decide_eq_true (by kernel_rfl)) (by unfold Func.isWrapper; first | (rw [if_pos (by decide +kernel)]; kernel_rfl) | (rw [if_neg (by decide +kernel)]; exact ⟨rfl, rfl⟩))
    (fun os started H enc _ => lifted os started H enc)

theorem proved : Rows.InterpolateIsLinearSaid := over
end Go.Proofs.Ytpjgpfjepcidgaa.interpolateIsLinear
