/- InterpolateWeightsEvaluate: for every Ask (a prime, two slices of words, a word), the law returns true and changes nothing that lay. No conditions. -/
import Derived.Test.YtpjgpfjepcidgaaIOpen
namespace Go.Proofs.Ytpjgpfjepcidgaa.interpolateWeightsEvaluate
open Go.ChangeShapes Go.WideShapes Go.ChangeAt Go.RowKit PolyMath FieldMath

set_option maxRecDepth 100000 in
set_option maxHeartbeats 4000000 in
theorem walk_main (p : Int) (A : Option Addr) (c : Nat) (f : List Int) (B : Option Addr) (d : Nat) (xs : List Int) (z : Int) (hp : OkP p) (_wp : Wd p) (wf : Words f) (wxs : Words xs) (wz : Wd z) (h0 : (qOf p != 0) = true) (h1 : f.length ≤ 10) (h2 : xs.length ≤ 12) (h3 : f.length ≤ xs.length) (h4 : decide (∀ x ∈ f, x < p) = true) (h5 : decide (∀ x ∈ xs, x < p) = true) (h6 : decide (xs).Nodup = true) (h7 : z < p) (w : World) (sf : Sl w A c f) (sxs : Sl w B d xs) :
    Calls Try.prog 6 #[.agg #[.int .u64 p, .slice A f.length c, .slice B xs.length d, .int .u64 z]] w fun e w' => e = .returned (.bool true) ∧ Below w.heap.size w w' := by
  have hbd := hp.bd
  have hf := el_of wf (of_decide_eq_true h4)
  have hx := el_of wxs (of_decide_eq_true h5)
  have hnd := of_decide_eq_true h6
  have hz : 0 ≤ z ∧ z < p := ⟨wz.1, h7⟩
  have hval := Lib.hid (wts_value hp.good hnd hx hf h3 z)
  have hND := Lib.hid hnd
  clear hnd
  have g0 := fun W => rSupported_any p W
  rw [h0] at g0
  have h1' : (f.length : Int) ≤ 10 := by omega
  have h2' : (xs.length : Int) ≤ 12 := by omega
  have h3' : (f.length : Int) ≤ xs.length := by omega
  have g4 := fun W h => below_any p A c f W h (by omega)
  rw [h4] at g4
  have g5 := fun W h => below_any p B d xs W h (by omega)
  rw [h5] at g5
  have g6 := fun W h => unlike_b B d xs W h (by omega) _ h6
  go_enter Try.func6, Try.ntmps6
  go_wp2_with fail
  refine (awake_any _).mono ?_; rintro e w1 ⟨rfl, hB⟩
  have k0 : w1.cell? ⟨w.heap.size, 0, none⟩ = some (.int .u64 p) := by rw [(bcell hB).1 _ _ (by simp)]; go_simp
  have k1 : w1.cell? ⟨w.heap.size, 1, none⟩ = some (.slice A f.length c) := by rw [(bcell hB).1 _ _ (by simp)]; go_simp
  have k2 : w1.cell? ⟨w.heap.size, 2, none⟩ = some (.slice B xs.length d) := by rw [(bcell hB).1 _ _ (by simp)]; go_simp
  have k3 : w1.cell? ⟨w.heap.size, 3, none⟩ = some (.int .u64 z) := by rw [(bcell hB).1 _ _ (by simp)]; go_simp
  have hq : w.heap.size < w1.heap.size := by have h := hB.size; simp at h; omega
  replace sf := (sf.push _).next hB
  replace sxs := (sxs.push _).next hB
  replace hB := (bnew (Below.refl w.heap.size w) (.cells #[.int .u64 p, .slice A f.length c, .slice B xs.length d, .int .u64 z] 43) (Nat.le_refl _)).trans (hB.mono (by simp))
  go_wp2_with fail
  refine (g0 _).mono ?_; rintro e w2 ⟨rfl, hb⟩
  replace sf := sf.next hb
  replace sxs := sxs.next hb
  replace k0 := (hb.cell (p := ⟨w.heap.size, 0, none⟩) hq).trans k0
  replace k1 := (hb.cell (p := ⟨w.heap.size, 1, none⟩) hq).trans k1
  replace k2 := (hb.cell (p := ⟨w.heap.size, 2, none⟩) hq).trans k2
  replace k3 := (hb.cell (p := ⟨w.heap.size, 3, none⟩) hq).trans k3
  replace hq := Nat.lt_of_lt_of_le hq hb.size
  replace hB := hB.trans (hb.mono hB.size)
  clear hb
  go_wp2_with fail
  refine (g4 _ sf).mono ?_; rintro e w' ⟨rfl, rfl⟩
  go_wp2_with fail
  refine (g5 _ sxs).mono ?_; rintro e w' ⟨rfl, rfl⟩
  go_wp2_with fail
  refine (g6 _ sxs).mono ?_; rintro e w3 ⟨rfl, hb⟩
  replace sf := sf.next hb
  replace sxs := sxs.next hb
  replace k0 := (hb.cell (p := ⟨w.heap.size, 0, none⟩) hq).trans k0
  replace k1 := (hb.cell (p := ⟨w.heap.size, 1, none⟩) hq).trans k1
  replace k2 := (hb.cell (p := ⟨w.heap.size, 2, none⟩) hq).trans k2
  replace k3 := (hb.cell (p := ⟨w.heap.size, 3, none⟩) hq).trans k3
  replace hq := Nat.lt_of_lt_of_le hq hb.size
  replace hB := hB.trans (hb.mono hB.size)
  clear hb
  go_wp2_with fail
  clear h3 h3'
  refine (wt_any p z hp hz B d xs hx (by omega) _ sxs).mono ?_
  rintro e w5 (⟨_, A3, c3, rfl, hs3, hb⟩ | ⟨hnd', _⟩)
  case inr => exact absurd hND.out hnd'
  replace sf := sf.next hb
  replace sxs := sxs.next hb
  replace k0 := (hb.cell (p := ⟨w.heap.size, 0, none⟩) hq).trans k0
  replace k1 := (hb.cell (p := ⟨w.heap.size, 1, none⟩) hq).trans k1
  replace k2 := (hb.cell (p := ⟨w.heap.size, 2, none⟩) hq).trans k2
  replace k3 := (hb.cell (p := ⟨w.heap.size, 3, none⟩) hq).trans k3
  replace hq := Nat.lt_of_lt_of_le hq hb.size
  replace hB := hB.trans (hb.mono hB.size)
  clear hb
  rw [wts_len]
  have hWl := Lib.hid (wts_len p xs z)
  have hWe := wts_el (p := p) (by omega) xs z
  generalize wts p xs z = F at *
  go_wp2_with fail
  go_loopw [5, 6] (fun s i wr => ∃ (k : Nat) (S : Int), k ≤ xs.length ∧ i = .int .i64 k ∧ s = .int .u64 S ∧ 0 ≤ S ∧ S < p ∧ Hid (fsum p (fun i => fmul p (co F i) (pev p f (co xs i))) k = S) ∧ Below w5.heap.size w5 wr) (fun _ i _ => xs.length - (intOf i).toNat)
  case atStart => exact ⟨0, 0, Nat.zero_le _, rfl, rfl, by omega, by omega, Lib.hid rfl, Below.refl _ _⟩
  case round =>
    obtain ⟨k, S, hk, rfl, rfl, hS0, hS, hE, hBr⟩ := hrel
    have j0 := (hBr.cell (p := ⟨w.heap.size, 0, none⟩) hq).trans k0
    have j1 := (hBr.cell (p := ⟨w.heap.size, 1, none⟩) hq).trans k1
    have j2 := (hBr.cell (p := ⟨w.heap.size, 2, none⟩) hq).trans k2
    have j3 := (hBr.cell (p := ⟨w.heap.size, 3, none⟩) hq).trans k3
    have hqr := Nat.lt_of_lt_of_le hq hBr.size
    by_cases hlt : k < xs.length
    · obtain ⟨bx, ox, x, hA, hbx, hxk, hcx⟩ := (sxs.next hBr).at_ hlt
      obtain ⟨bw, ow, v, hA3, hbw, hvk, hcv⟩ := (hs3.next hBr).at_ (show k < F.length by rw [hWl.out]; exact hlt)
      have hxb := hx x (List.mem_of_getElem? hxk)
      have hvb := hWe v (List.mem_of_getElem? hvk)
      have hn : fsum p (fun i => fmul p (co F i) (pev p f (co xs i))) (k + 1) = fadd p S (fmul p v (pev p f x)) := by show fadd p (fsum p _ k) (fmul p (co F k) (pev p f (co xs k))) = _; rw [hE.out, co_at hvk, co_at hxk]
      have hN := Lib.hid hn
      have hyb := pev_bd (p := p) (by omega) f x
      have hm := fmul_bd p v (pev p f x) (by omega)
      have hm2 := fadd_bd p S (fmul p v (pev p f x)) (by omega)
      have hev := eval_any p x hp hxb A c f hf (by omega) wr.drew (sf.next hBr).drew
      have hdr : Below wr.heap.size wr wr.drew := (Below.refl _ wr).drew
      have hkN : (k : Int) < xs.length := by omega
      have hkN2 : (k : Int) < xs.length := by omega
      subst hA hA3
      clear hxk hvk hn
      generalize pev p f x = y at *
      go_wp2_with fail
      go_region_held3 (fun w' => w'.cell? ⟨w.heap.size, 0, none⟩ = some (.int .u64 p) ∧ w'.cell? ⟨w.heap.size, 1, none⟩ = some (.slice A f.length c) ∧ w'.cell? ⟨w.heap.size, 2, none⟩ = some (.slice (some ⟨bx, ox, none⟩) xs.length d) ∧ w'.cell? ⟨bw, ow + k, none⟩ = some (.int .u64 v) ∧ w'.cell? ⟨bx, ox + k, none⟩ = some (.int .u64 x))
        (refine ⟨?_, ?_, ?_, ?_, ?_⟩ <;> assumption)
        (first
          | (go_at_call 16; (with_reducible refine hev.mono ?_); rintro e w6 ⟨rfl, hb6⟩; have hB6 := hdr.trans (hb6.mono hdr.size); have q0 := (hB6.cell (p := ⟨w.heap.size, 0, none⟩) hqr).trans j0; have q1 := (hB6.cell (p := ⟨w.heap.size, 1, none⟩) hqr).trans j1; have q2 := (hB6.cell (p := ⟨w.heap.size, 2, none⟩) hqr).trans j2; have q3 := (hB6.cell (p := ⟨bw, ow + k, none⟩) hbw).trans hcv; have q4 := (hB6.cell (p := ⟨bx, ox + k, none⟩) hbx).trans hcx; clear hb6 hev)
          | (go_at_call 23; (with_reducible refine (mul_any _ _ _ hp hvb.1 hvb.2 hyb.1 hyb.2 _).mono ?_); rintro e w' ⟨rfl, rfl⟩)
          | (go_at_call 22; (with_reducible refine (add_any _ _ _ hp hS0 hS hm.1 hm.2 _).mono ?_); rintro e w' ⟨rfl, rfl⟩))
      all_goals
        go_wp2_with fail
        go_roundw
        case rel => exact ⟨k + 1, _, by omega, by simp, rfl, hm2.1, hm2.2, hN, hBr.trans (hB6.mono hBr.size)⟩
        case measure => simp [intOf]; omega
    · obtain rfl : k = xs.length := by omega
      have hS1 : S = pev p f z := by rw [← hE.out]; exact hval.out
      have hBB := hB.trans (hBr.mono hB.size)
      have hev := eval_any p z hp hz A c f hf (by omega) wr (sf.next hBr)
      subst hS1
      go_wp2_with (go_at_call 16; refine hev.mono ?_; clear hev; rintro e w8 ⟨rfl, hb8⟩)
      go_ret
      exact ⟨by simp, hBB.trans (hb8.mono hBB.size)⟩

set_option maxRecDepth 100000 in
set_option maxHeartbeats 4000000 in
theorem walk (p : Int) (A : Option Addr) (c : Nat) (f : List Int) (B : Option Addr) (d : Nat) (xs : List Int) (z : Int) (wp : Wd p) (wf : Words f) (wxs : Words xs) (wz : Wd z) (w : World) (sf : Sl w A c f) (sxs : Sl w B d xs) :
    Calls Try.prog 6 #[.agg #[.int .u64 p, .slice A f.length c, .slice B xs.length d, .int .u64 z]] w fun e w' => e = .returned (.bool true) ∧ Below w.heap.size w w' := by
  rcases sup_cases p with h0 | ⟨h0, hp⟩
  · have g0 := fun W => rSupported_any p W
    rw [h0] at g0
    go_enter Try.func6, Try.ntmps6
    go_wp2_with fail
    refine (awake_any _).mono ?_; rintro e w1 ⟨rfl, hB⟩
    have k0 : w1.cell? ⟨w.heap.size, 0, none⟩ = some (.int .u64 p) := by rw [(bcell hB).1 _ _ (by simp)]; go_simp
    have k1 : w1.cell? ⟨w.heap.size, 1, none⟩ = some (.slice A f.length c) := by rw [(bcell hB).1 _ _ (by simp)]; go_simp
    have k2 : w1.cell? ⟨w.heap.size, 2, none⟩ = some (.slice B xs.length d) := by rw [(bcell hB).1 _ _ (by simp)]; go_simp
    have k3 : w1.cell? ⟨w.heap.size, 3, none⟩ = some (.int .u64 z) := by rw [(bcell hB).1 _ _ (by simp)]; go_simp
    have hq : w.heap.size < w1.heap.size := by have h := hB.size; simp at h; omega
    replace sf := (sf.push _).next hB
    replace sxs := (sxs.push _).next hB
    replace hB := (bnew (Below.refl w.heap.size w) (.cells #[.int .u64 p, .slice A f.length c, .slice B xs.length d, .int .u64 z] 43) (Nat.le_refl _)).trans (hB.mono (by simp))
    go_wp2_with fail
    refine (g0 _).mono ?_; rintro e w2 ⟨rfl, hb⟩
    replace sf := sf.next hb
    replace sxs := sxs.next hb
    replace k0 := (hb.cell (p := ⟨w.heap.size, 0, none⟩) hq).trans k0
    replace k1 := (hb.cell (p := ⟨w.heap.size, 1, none⟩) hq).trans k1
    replace k2 := (hb.cell (p := ⟨w.heap.size, 2, none⟩) hq).trans k2
    replace k3 := (hb.cell (p := ⟨w.heap.size, 3, none⟩) hq).trans k3
    replace hq := Nat.lt_of_lt_of_le hq hb.size
    replace hB := hB.trans (hb.mono hB.size)
    clear hb
    go_wp2_with fail
    go_ret
    exact ⟨rfl, hB⟩
  · rcases Nat.lt_or_ge 10 f.length with h1 | h1
    · have g0 := fun W => rSupported_any p W
      rw [h0] at g0
      have h1' : (10 : Int) < f.length := by omega
      go_enter Try.func6, Try.ntmps6
      go_wp2_with fail
      refine (awake_any _).mono ?_; rintro e w1 ⟨rfl, hB⟩
      have k0 : w1.cell? ⟨w.heap.size, 0, none⟩ = some (.int .u64 p) := by rw [(bcell hB).1 _ _ (by simp)]; go_simp
      have k1 : w1.cell? ⟨w.heap.size, 1, none⟩ = some (.slice A f.length c) := by rw [(bcell hB).1 _ _ (by simp)]; go_simp
      have k2 : w1.cell? ⟨w.heap.size, 2, none⟩ = some (.slice B xs.length d) := by rw [(bcell hB).1 _ _ (by simp)]; go_simp
      have k3 : w1.cell? ⟨w.heap.size, 3, none⟩ = some (.int .u64 z) := by rw [(bcell hB).1 _ _ (by simp)]; go_simp
      have hq : w.heap.size < w1.heap.size := by have h := hB.size; simp at h; omega
      replace sf := (sf.push _).next hB
      replace sxs := (sxs.push _).next hB
      replace hB := (bnew (Below.refl w.heap.size w) (.cells #[.int .u64 p, .slice A f.length c, .slice B xs.length d, .int .u64 z] 43) (Nat.le_refl _)).trans (hB.mono (by simp))
      go_wp2_with fail
      refine (g0 _).mono ?_; rintro e w2 ⟨rfl, hb⟩
      replace sf := sf.next hb
      replace sxs := sxs.next hb
      replace k0 := (hb.cell (p := ⟨w.heap.size, 0, none⟩) hq).trans k0
      replace k1 := (hb.cell (p := ⟨w.heap.size, 1, none⟩) hq).trans k1
      replace k2 := (hb.cell (p := ⟨w.heap.size, 2, none⟩) hq).trans k2
      replace k3 := (hb.cell (p := ⟨w.heap.size, 3, none⟩) hq).trans k3
      replace hq := Nat.lt_of_lt_of_le hq hb.size
      replace hB := hB.trans (hb.mono hB.size)
      clear hb
      go_wp2_with fail
      go_ret
      exact ⟨rfl, hB⟩
    · rcases Nat.lt_or_ge 12 xs.length with h2 | h2
      · have g0 := fun W => rSupported_any p W
        rw [h0] at g0
        have h1' : (f.length : Int) ≤ 10 := by omega
        have h2' : (12 : Int) < xs.length := by omega
        go_enter Try.func6, Try.ntmps6
        go_wp2_with fail
        refine (awake_any _).mono ?_; rintro e w1 ⟨rfl, hB⟩
        have k0 : w1.cell? ⟨w.heap.size, 0, none⟩ = some (.int .u64 p) := by rw [(bcell hB).1 _ _ (by simp)]; go_simp
        have k1 : w1.cell? ⟨w.heap.size, 1, none⟩ = some (.slice A f.length c) := by rw [(bcell hB).1 _ _ (by simp)]; go_simp
        have k2 : w1.cell? ⟨w.heap.size, 2, none⟩ = some (.slice B xs.length d) := by rw [(bcell hB).1 _ _ (by simp)]; go_simp
        have k3 : w1.cell? ⟨w.heap.size, 3, none⟩ = some (.int .u64 z) := by rw [(bcell hB).1 _ _ (by simp)]; go_simp
        have hq : w.heap.size < w1.heap.size := by have h := hB.size; simp at h; omega
        replace sf := (sf.push _).next hB
        replace sxs := (sxs.push _).next hB
        replace hB := (bnew (Below.refl w.heap.size w) (.cells #[.int .u64 p, .slice A f.length c, .slice B xs.length d, .int .u64 z] 43) (Nat.le_refl _)).trans (hB.mono (by simp))
        go_wp2_with fail
        refine (g0 _).mono ?_; rintro e w2 ⟨rfl, hb⟩
        replace sf := sf.next hb
        replace sxs := sxs.next hb
        replace k0 := (hb.cell (p := ⟨w.heap.size, 0, none⟩) hq).trans k0
        replace k1 := (hb.cell (p := ⟨w.heap.size, 1, none⟩) hq).trans k1
        replace k2 := (hb.cell (p := ⟨w.heap.size, 2, none⟩) hq).trans k2
        replace k3 := (hb.cell (p := ⟨w.heap.size, 3, none⟩) hq).trans k3
        replace hq := Nat.lt_of_lt_of_le hq hb.size
        replace hB := hB.trans (hb.mono hB.size)
        clear hb
        go_wp2_with fail
        go_ret
        exact ⟨rfl, hB⟩
      · rcases Nat.lt_or_ge xs.length f.length with h3 | h3
        · have g0 := fun W => rSupported_any p W
          rw [h0] at g0
          have h1' : (f.length : Int) ≤ 10 := by omega
          have h2' : (xs.length : Int) ≤ 12 := by omega
          have h3' : (xs.length : Int) < f.length := by omega
          go_enter Try.func6, Try.ntmps6
          go_wp2_with fail
          refine (awake_any _).mono ?_; rintro e w1 ⟨rfl, hB⟩
          have k0 : w1.cell? ⟨w.heap.size, 0, none⟩ = some (.int .u64 p) := by rw [(bcell hB).1 _ _ (by simp)]; go_simp
          have k1 : w1.cell? ⟨w.heap.size, 1, none⟩ = some (.slice A f.length c) := by rw [(bcell hB).1 _ _ (by simp)]; go_simp
          have k2 : w1.cell? ⟨w.heap.size, 2, none⟩ = some (.slice B xs.length d) := by rw [(bcell hB).1 _ _ (by simp)]; go_simp
          have k3 : w1.cell? ⟨w.heap.size, 3, none⟩ = some (.int .u64 z) := by rw [(bcell hB).1 _ _ (by simp)]; go_simp
          have hq : w.heap.size < w1.heap.size := by have h := hB.size; simp at h; omega
          replace sf := (sf.push _).next hB
          replace sxs := (sxs.push _).next hB
          replace hB := (bnew (Below.refl w.heap.size w) (.cells #[.int .u64 p, .slice A f.length c, .slice B xs.length d, .int .u64 z] 43) (Nat.le_refl _)).trans (hB.mono (by simp))
          go_wp2_with fail
          refine (g0 _).mono ?_; rintro e w2 ⟨rfl, hb⟩
          replace sf := sf.next hb
          replace sxs := sxs.next hb
          replace k0 := (hb.cell (p := ⟨w.heap.size, 0, none⟩) hq).trans k0
          replace k1 := (hb.cell (p := ⟨w.heap.size, 1, none⟩) hq).trans k1
          replace k2 := (hb.cell (p := ⟨w.heap.size, 2, none⟩) hq).trans k2
          replace k3 := (hb.cell (p := ⟨w.heap.size, 3, none⟩) hq).trans k3
          replace hq := Nat.lt_of_lt_of_le hq hb.size
          replace hB := hB.trans (hb.mono hB.size)
          clear hb
          go_wp2_with fail
          go_ret
          exact ⟨rfl, hB⟩
        · rcases Bool.eq_false_or_eq_true (decide (∀ x ∈ f, x < p)) with h4 | h4; rotate_left
          · have g0 := fun W => rSupported_any p W
            rw [h0] at g0
            have h1' : (f.length : Int) ≤ 10 := by omega
            have h2' : (xs.length : Int) ≤ 12 := by omega
            have h3' : (f.length : Int) ≤ xs.length := by omega
            have g4 := fun W h => below_any p A c f W h (by omega)
            rw [h4] at g4
            go_enter Try.func6, Try.ntmps6
            go_wp2_with fail
            refine (awake_any _).mono ?_; rintro e w1 ⟨rfl, hB⟩
            have k0 : w1.cell? ⟨w.heap.size, 0, none⟩ = some (.int .u64 p) := by rw [(bcell hB).1 _ _ (by simp)]; go_simp
            have k1 : w1.cell? ⟨w.heap.size, 1, none⟩ = some (.slice A f.length c) := by rw [(bcell hB).1 _ _ (by simp)]; go_simp
            have k2 : w1.cell? ⟨w.heap.size, 2, none⟩ = some (.slice B xs.length d) := by rw [(bcell hB).1 _ _ (by simp)]; go_simp
            have k3 : w1.cell? ⟨w.heap.size, 3, none⟩ = some (.int .u64 z) := by rw [(bcell hB).1 _ _ (by simp)]; go_simp
            have hq : w.heap.size < w1.heap.size := by have h := hB.size; simp at h; omega
            replace sf := (sf.push _).next hB
            replace sxs := (sxs.push _).next hB
            replace hB := (bnew (Below.refl w.heap.size w) (.cells #[.int .u64 p, .slice A f.length c, .slice B xs.length d, .int .u64 z] 43) (Nat.le_refl _)).trans (hB.mono (by simp))
            go_wp2_with fail
            refine (g0 _).mono ?_; rintro e w2 ⟨rfl, hb⟩
            replace sf := sf.next hb
            replace sxs := sxs.next hb
            replace k0 := (hb.cell (p := ⟨w.heap.size, 0, none⟩) hq).trans k0
            replace k1 := (hb.cell (p := ⟨w.heap.size, 1, none⟩) hq).trans k1
            replace k2 := (hb.cell (p := ⟨w.heap.size, 2, none⟩) hq).trans k2
            replace k3 := (hb.cell (p := ⟨w.heap.size, 3, none⟩) hq).trans k3
            replace hq := Nat.lt_of_lt_of_le hq hb.size
            replace hB := hB.trans (hb.mono hB.size)
            clear hb
            go_wp2_with fail
            refine (g4 _ sf).mono ?_; rintro e w' ⟨rfl, rfl⟩
            go_wp2_with fail
            go_ret
            exact ⟨rfl, hB⟩
          · rcases Bool.eq_false_or_eq_true (decide (∀ x ∈ xs, x < p)) with h5 | h5; rotate_left
            · have g0 := fun W => rSupported_any p W
              rw [h0] at g0
              have h1' : (f.length : Int) ≤ 10 := by omega
              have h2' : (xs.length : Int) ≤ 12 := by omega
              have h3' : (f.length : Int) ≤ xs.length := by omega
              have g4 := fun W h => below_any p A c f W h (by omega)
              rw [h4] at g4
              have g5 := fun W h => below_any p B d xs W h (by omega)
              rw [h5] at g5
              go_enter Try.func6, Try.ntmps6
              go_wp2_with fail
              refine (awake_any _).mono ?_; rintro e w1 ⟨rfl, hB⟩
              have k0 : w1.cell? ⟨w.heap.size, 0, none⟩ = some (.int .u64 p) := by rw [(bcell hB).1 _ _ (by simp)]; go_simp
              have k1 : w1.cell? ⟨w.heap.size, 1, none⟩ = some (.slice A f.length c) := by rw [(bcell hB).1 _ _ (by simp)]; go_simp
              have k2 : w1.cell? ⟨w.heap.size, 2, none⟩ = some (.slice B xs.length d) := by rw [(bcell hB).1 _ _ (by simp)]; go_simp
              have k3 : w1.cell? ⟨w.heap.size, 3, none⟩ = some (.int .u64 z) := by rw [(bcell hB).1 _ _ (by simp)]; go_simp
              have hq : w.heap.size < w1.heap.size := by have h := hB.size; simp at h; omega
              replace sf := (sf.push _).next hB
              replace sxs := (sxs.push _).next hB
              replace hB := (bnew (Below.refl w.heap.size w) (.cells #[.int .u64 p, .slice A f.length c, .slice B xs.length d, .int .u64 z] 43) (Nat.le_refl _)).trans (hB.mono (by simp))
              go_wp2_with fail
              refine (g0 _).mono ?_; rintro e w2 ⟨rfl, hb⟩
              replace sf := sf.next hb
              replace sxs := sxs.next hb
              replace k0 := (hb.cell (p := ⟨w.heap.size, 0, none⟩) hq).trans k0
              replace k1 := (hb.cell (p := ⟨w.heap.size, 1, none⟩) hq).trans k1
              replace k2 := (hb.cell (p := ⟨w.heap.size, 2, none⟩) hq).trans k2
              replace k3 := (hb.cell (p := ⟨w.heap.size, 3, none⟩) hq).trans k3
              replace hq := Nat.lt_of_lt_of_le hq hb.size
              replace hB := hB.trans (hb.mono hB.size)
              clear hb
              go_wp2_with fail
              refine (g4 _ sf).mono ?_; rintro e w' ⟨rfl, rfl⟩
              go_wp2_with fail
              refine (g5 _ sxs).mono ?_; rintro e w' ⟨rfl, rfl⟩
              go_wp2_with fail
              go_ret
              exact ⟨rfl, hB⟩
            · rcases Bool.eq_false_or_eq_true (decide (xs).Nodup) with h6 | h6; rotate_left
              · have g0 := fun W => rSupported_any p W
                rw [h0] at g0
                have h1' : (f.length : Int) ≤ 10 := by omega
                have h2' : (xs.length : Int) ≤ 12 := by omega
                have h3' : (f.length : Int) ≤ xs.length := by omega
                have g4 := fun W h => below_any p A c f W h (by omega)
                rw [h4] at g4
                have g5 := fun W h => below_any p B d xs W h (by omega)
                rw [h5] at g5
                have g6 := fun W h => unlike_b B d xs W h (by omega) _ h6
                go_enter Try.func6, Try.ntmps6
                go_wp2_with fail
                refine (awake_any _).mono ?_; rintro e w1 ⟨rfl, hB⟩
                have k0 : w1.cell? ⟨w.heap.size, 0, none⟩ = some (.int .u64 p) := by rw [(bcell hB).1 _ _ (by simp)]; go_simp
                have k1 : w1.cell? ⟨w.heap.size, 1, none⟩ = some (.slice A f.length c) := by rw [(bcell hB).1 _ _ (by simp)]; go_simp
                have k2 : w1.cell? ⟨w.heap.size, 2, none⟩ = some (.slice B xs.length d) := by rw [(bcell hB).1 _ _ (by simp)]; go_simp
                have k3 : w1.cell? ⟨w.heap.size, 3, none⟩ = some (.int .u64 z) := by rw [(bcell hB).1 _ _ (by simp)]; go_simp
                have hq : w.heap.size < w1.heap.size := by have h := hB.size; simp at h; omega
                replace sf := (sf.push _).next hB
                replace sxs := (sxs.push _).next hB
                replace hB := (bnew (Below.refl w.heap.size w) (.cells #[.int .u64 p, .slice A f.length c, .slice B xs.length d, .int .u64 z] 43) (Nat.le_refl _)).trans (hB.mono (by simp))
                go_wp2_with fail
                refine (g0 _).mono ?_; rintro e w2 ⟨rfl, hb⟩
                replace sf := sf.next hb
                replace sxs := sxs.next hb
                replace k0 := (hb.cell (p := ⟨w.heap.size, 0, none⟩) hq).trans k0
                replace k1 := (hb.cell (p := ⟨w.heap.size, 1, none⟩) hq).trans k1
                replace k2 := (hb.cell (p := ⟨w.heap.size, 2, none⟩) hq).trans k2
                replace k3 := (hb.cell (p := ⟨w.heap.size, 3, none⟩) hq).trans k3
                replace hq := Nat.lt_of_lt_of_le hq hb.size
                replace hB := hB.trans (hb.mono hB.size)
                clear hb
                go_wp2_with fail
                refine (g4 _ sf).mono ?_; rintro e w' ⟨rfl, rfl⟩
                go_wp2_with fail
                refine (g5 _ sxs).mono ?_; rintro e w' ⟨rfl, rfl⟩
                go_wp2_with fail
                refine (g6 _ sxs).mono ?_; rintro e w3 ⟨rfl, hb⟩
                replace sf := sf.next hb
                replace sxs := sxs.next hb
                replace k0 := (hb.cell (p := ⟨w.heap.size, 0, none⟩) hq).trans k0
                replace k1 := (hb.cell (p := ⟨w.heap.size, 1, none⟩) hq).trans k1
                replace k2 := (hb.cell (p := ⟨w.heap.size, 2, none⟩) hq).trans k2
                replace k3 := (hb.cell (p := ⟨w.heap.size, 3, none⟩) hq).trans k3
                replace hq := Nat.lt_of_lt_of_le hq hb.size
                replace hB := hB.trans (hb.mono hB.size)
                clear hb
                go_wp2_with fail
                go_ret
                exact ⟨rfl, hB⟩
              · rcases Int.lt_or_le z p with h7 | h7; rotate_left
                · have g0 := fun W => rSupported_any p W
                  rw [h0] at g0
                  have h1' : (f.length : Int) ≤ 10 := by omega
                  have h2' : (xs.length : Int) ≤ 12 := by omega
                  have h3' : (f.length : Int) ≤ xs.length := by omega
                  have g4 := fun W h => below_any p A c f W h (by omega)
                  rw [h4] at g4
                  have g5 := fun W h => below_any p B d xs W h (by omega)
                  rw [h5] at g5
                  have g6 := fun W h => unlike_b B d xs W h (by omega) _ h6
                  have h7' : p ≤ z := by omega
                  go_enter Try.func6, Try.ntmps6
                  go_wp2_with fail
                  refine (awake_any _).mono ?_; rintro e w1 ⟨rfl, hB⟩
                  have k0 : w1.cell? ⟨w.heap.size, 0, none⟩ = some (.int .u64 p) := by rw [(bcell hB).1 _ _ (by simp)]; go_simp
                  have k1 : w1.cell? ⟨w.heap.size, 1, none⟩ = some (.slice A f.length c) := by rw [(bcell hB).1 _ _ (by simp)]; go_simp
                  have k2 : w1.cell? ⟨w.heap.size, 2, none⟩ = some (.slice B xs.length d) := by rw [(bcell hB).1 _ _ (by simp)]; go_simp
                  have k3 : w1.cell? ⟨w.heap.size, 3, none⟩ = some (.int .u64 z) := by rw [(bcell hB).1 _ _ (by simp)]; go_simp
                  have hq : w.heap.size < w1.heap.size := by have h := hB.size; simp at h; omega
                  replace sf := (sf.push _).next hB
                  replace sxs := (sxs.push _).next hB
                  replace hB := (bnew (Below.refl w.heap.size w) (.cells #[.int .u64 p, .slice A f.length c, .slice B xs.length d, .int .u64 z] 43) (Nat.le_refl _)).trans (hB.mono (by simp))
                  go_wp2_with fail
                  refine (g0 _).mono ?_; rintro e w2 ⟨rfl, hb⟩
                  replace sf := sf.next hb
                  replace sxs := sxs.next hb
                  replace k0 := (hb.cell (p := ⟨w.heap.size, 0, none⟩) hq).trans k0
                  replace k1 := (hb.cell (p := ⟨w.heap.size, 1, none⟩) hq).trans k1
                  replace k2 := (hb.cell (p := ⟨w.heap.size, 2, none⟩) hq).trans k2
                  replace k3 := (hb.cell (p := ⟨w.heap.size, 3, none⟩) hq).trans k3
                  replace hq := Nat.lt_of_lt_of_le hq hb.size
                  replace hB := hB.trans (hb.mono hB.size)
                  clear hb
                  go_wp2_with fail
                  refine (g4 _ sf).mono ?_; rintro e w' ⟨rfl, rfl⟩
                  go_wp2_with fail
                  refine (g5 _ sxs).mono ?_; rintro e w' ⟨rfl, rfl⟩
                  go_wp2_with fail
                  refine (g6 _ sxs).mono ?_; rintro e w3 ⟨rfl, hb⟩
                  replace sf := sf.next hb
                  replace sxs := sxs.next hb
                  replace k0 := (hb.cell (p := ⟨w.heap.size, 0, none⟩) hq).trans k0
                  replace k1 := (hb.cell (p := ⟨w.heap.size, 1, none⟩) hq).trans k1
                  replace k2 := (hb.cell (p := ⟨w.heap.size, 2, none⟩) hq).trans k2
                  replace k3 := (hb.cell (p := ⟨w.heap.size, 3, none⟩) hq).trans k3
                  replace hq := Nat.lt_of_lt_of_le hq hb.size
                  replace hB := hB.trans (hb.mono hB.size)
                  clear hb
                  go_wp2_with fail
                  go_ret
                  exact ⟨rfl, hB⟩
                · exact walk_main p A c f B d xs z hp wp wf wxs wz h0 h1 h2 h3 h4 h5 h6 h7 w sf sxs

set_option maxRecDepth 100000 in
theorem lifted (os : Os) (started : os.Started) (H : Type) (enc : TypeId × Value → H) :
    ReturnsInHanded {} Try.checked os 6 .any (Rows.interpolateWeightsEvaluateSpec.pre6 enc Try.prog Try.f6 Rows.interpolateWeightsEvaluateRow.domain false) (Rows.interpolateWeightsEvaluateSpec.post enc Try.prog Try.f6 false true false false) := by
  refine returnsInHanded_of_change (C := Try.checked) own started (by kernel_rfl) Try.func6
    (ChangeSpec.witness6 (enc := enc) (C := Try.checked) false ⟨#[], #[.agg #[.int .u64 0, .slice none 0 0, .slice none 0 0, .int .u64 0]], []⟩ 8 (by kernel_rfl) (by kernel_rfl) (by kernel_rfl) (by kernel_rfl)) ?_
  intro W base args ds gs before hval0 hW hcnd _
  have hval : ∀ (j : Nat) t v, Try.f6.params[j]? = some t → args[j]? = some v → Value.okWide Try.prog W .any base t v := hval0
  have hW' := hW
  obtain ⟨p, q, hA0, hV, rfl, hfz, hnd⟩ := hW
  have hA : DataW.TrodAll enc Try.prog W 0 (fun _ => true) true Try.f6.params.toList args.toList ds p := hA0
  rw [Try.params6] at hA hval
  obtain ⟨v0, d0, rfl, rfl, t0⟩ := trodAll_one hA
  obtain ⟨rfl, rfl⟩ := trodVars_none hV
  clear hA0 hval0
  simp only [List.append_nil] at hW'
  have l0 : ∀ x ∈ p, x.block < W.heap.size := fun x hx => hW'.lt x (by simp [hx])
  obtain ⟨x0, A0, f0, c0, B0, u0, k0, z0, rfl, b0, bb0, r0, bw0, rr0, bu0⟩ := arg_ask (hval 0 43 v0 rfl rfl) t0 l0
  refine (walk x0 A0 c0 f0 B0 k0 u0 z0 b0 bw0 bu0 bb0 W r0 rr0).mono fun e W' ⟨he, hb⟩ => ?_
  subst he
  exact ⟨_, rfl, post_of_below (pa := p) (pv := []) hW' (fun _ _ _ => (trodAll_cons_mk (shut_bool Try.underlying4 _) trodAll_mk0)) (fun sp hsp => trodAll_mk1 (stay_ask t0 hb l0 sp (fun x hx => hsp x (by simp [hx])))) (fun _ _ => rfl) (by simp)
    hb (ok_one (by kernel_rfl) rfl (okWide_bool_mk Try.underlying4 _))⟩

theorem over : Rows.interpolateWeightsEvaluateRow.holds Try.pinned (OpenSpec.ofChange Rows.interpolateWeightsEvaluateSpec) :=
  OpenClaim.holds_of_wide 6 Try.f6 rfl rfl rfl rfl rfl rfl rfl ⟨rfl, rfl, rfl, rfl, rfl⟩ rfl rfl rfl rfl rfl (by kernel_rfl) Try.func6 (by kernel_rfl)
    (of_decide_eq_true (by kernel_rfl)) (by unfold Func.isWrapper; first | (rw [if_pos (by decide +kernel)]; kernel_rfl) | (rw [if_neg (by decide +kernel)]; exact ⟨rfl, rfl⟩))
    (fun os started H enc _ => lifted os started H enc)

theorem proved : Rows.InterpolateWeightsEvaluateSaid := over
end Go.Proofs.Ytpjgpfjepcidgaa.interpolateWeightsEvaluate
