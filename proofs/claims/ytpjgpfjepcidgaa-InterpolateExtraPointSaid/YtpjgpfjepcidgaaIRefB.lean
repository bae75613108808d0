/- base, Polynomial, LagrangeWeights of the reference of layer 5: as the code's own; nothing that lay is changed. Conditions: a supported prime, elements of its field, at most 100 of them. -/
import Derived.Test.YtpjgpfjepcidgaaIRefA
import Derived.Test.YtpjgpfjepcidgaaIPoly
import Derived.Test.YtpjgpfjepcidgaaIWts
import Derived.Test.YtpjgpfjepcidgaaPRefMul
namespace Go.Proofs.Ytpjgpfjepcidgaa
open Go.RowKit PolyMath FieldMath

theorem oth_len (xs : List Int) (i k : Nat) : (oth xs i k).length ≤ xs.length := by
  unfold oth
  have h1 := List.length_eraseIdx_le (xs.take k) i
  rw [List.length_take] at h1
  omega

set_option maxHeartbeats 2000000 in
theorem rBase_row (p : Int) (hp : OkP p) (A : Option Addr) (c : Nat) (xs : List Int) (hn : xs.Nodup) (hxs : El p xs) (hl : xs.length ≤ 100) (i : Nat) (hi : i < xs.length) (w : World) (h : Sl w A c xs) :
    Calls Try.prog 39 #[.int .u64 p, .slice A xs.length c, .int .i64 i] w fun e w' => Row w e w' (base p xs i) := by
  have hbd := hp.bd
  have hND := Lib.hid hn
  clear hn
  go_enter Try.func39, Try.ntmps39
  go_wp2
  go_loopw [7, 8] (fun v j wr => ∃ (k : Nat) (A' : Option Addr) (c' : Nat), k ≤ xs.length ∧ j = .int .i64 k ∧ v = .slice A' (basis p (co xs i) [1] (oth xs i k)).length c' ∧ Sl wr A' c' (basis p (co xs i) [1] (oth xs i k)) ∧ Below w.heap.size w wr) (fun _ j _ => xs.length - (intOf j).toNat)
  case atStart => exact ⟨0, some ⟨w.heap.size, 0, none⟩, 1, Nat.zero_le _, rfl, rfl, Sl.l1 w 1, bnew (Below.refl _ _) _ (Nat.le_refl _)⟩
  case round =>
    obtain ⟨k, A', c', hk, rfl, rfl, hs, hB⟩ := hrel
    by_cases hlt : k < xs.length
    · by_cases hki : k = i
      · subst hki
        have hE := Lib.hid (oth_here (xs := xs) hlt)
        have hk' : (k : Int) < xs.length := by omega
        go_wp2
        go_roundw
        case rel => exact ⟨k + 1, _, _, by omega, by simp, by rw [hE.out], by rw [hE.out]; exact hs, hB⟩
        case measure => simp [intOf]; omega
      · obtain ⟨b, off, x, hA, _, hx, hcx⟩ := (h.next hB).at_ hi
        obtain ⟨b', off', y, hA', _, hy, hcy⟩ := (h.next hB).at_ hlt
        rw [hA] at hA'
        injection hA' with hA'
        injection hA' with hA1 hA2
        subst hA1 hA2 hA
        have hxb := hxs x (List.mem_of_getElem? hx)
        have hyb := hxs y (List.mem_of_getElem? hy)
        have hxy : x ≠ y := fun e => hki (by
          obtain ⟨h1, e1⟩ := List.getElem?_eq_some_iff.1 hx
          obtain ⟨h2, e2⟩ := List.getElem?_eq_some_iff.1 hy
          exact nodup_inj hND.out h2 h1 (e2.trans (e.symm.trans e1.symm)))
        have hsb := fsub_bd p x y (by omega)
        have hs0 := fsub_pos hxb hyb hxy
        have hE : basis p (co xs i) [1] (oth xs i (k + 1)) = pmul p (basis p (co xs i) [1] (oth xs i k)) (bfac p x y) := by
          rw [oth_next hy hki, basis_snoc, co_at hx]
        have hFe := basis_el (p := p) (by omega) (co xs i) (oth xs i k) [1] (El.one (by omega))
        have hFl := basis_len p (co xs i) (oth xs i k) [1]
        have hol := oth_len xs i k
        rw [List.length_singleton] at hFl
        have hmul := fun W A2 c2 (h2 : Sl W A2 c2 (bfac p x y)) (h3 : Sl W A' c' (basis p (co xs i) [1] (oth xs i k))) => rMulP_row p hp A' A2 c' c2 _ (bfac p x y) hFe (bfac_el (by omega) x y) (by omega) (show 2 ≤ 400 by omega) W h3 h2
        rw [← hE] at hmul
        have hEH := Lib.hid hE
        have hib := fpow_bd p (fsub p x y) (p - 2) (by omega)
        have hnb := fneg_bd p y (by omega)
        have hBF : Hid (bfac p x y = [fmul p (fneg p y) (fpow p (fsub p x y) (p - 2)), fpow p (fsub p x y) (p - 2)]) := Lib.hid rfl
        have hk' : (k : Int) < xs.length := by omega
        have hi' : (i : Int) < xs.length := by omega
        have hki' : (k : Int) ≠ i := by omega
        clear hx hy hE hxy
        generalize basis p (co xs i) [1] (oth xs i k) = F at *
        go_wp2
        go_quiet (first | (go_at_call 60; exact quiet_left (rSub_any _ _ _ hp hxb.1 hxb.2 hyb.1 hyb.2 _)) | (go_at_call 59; exact quiet_left (rInv_any _ _ hp hs0 hsb.2 _)))
        generalize fpow p (fsub p x y) (p - 2) = v at *
        go_wp2_with (first | (go_at_call 62; refine (rNeg_any _ _ hp hyb.1 hyb.2 _).mono ?_; rintro e w' ⟨rfl, rfl⟩) | (go_at_call 48; refine (rMul_any _ _ _ hp hnb.1 hnb.2 hib.1 hib.2 _).mono ?_; rintro e w' ⟨rfl, rfl⟩))
        have hl2 : Sl ((wr.drewN nq).alloc (.cells #[.int .u64 (fmul p (fneg p y) v), .int .u64 v] 22)) (some ⟨wr.heap.size, 0, none⟩) 2 (bfac p x y) := by rw [hBF.out]; exact Sl.l2 (wr.drewN nq) _ _
        refine (hmul _ _ _ hl2 ((hs.drewN nq).push _)).mono ?_
        rintro e w3 ⟨A3, c3, rfl, hs3, hb3⟩
        have hB2 := bnew (below_drewN hB nq) (.cells #[.int .u64 (fmul p (fneg p y) v), .int .u64 v] 22) (Nat.le_refl _)
        have hB3 := hB2.trans (hb3.mono hB2.size)
        clear hmul hl2 hb3 hB2
        go_wp2_with fail
        go_roundw
        case rel => exact ⟨k + 1, A3, c3, by omega, by simp, rfl, hs3, hB3⟩
        case measure => simp [intOf]; omega
    · obtain rfl : k = xs.length := by omega
      rw [oth_all] at hs ⊢
      go_wp2
      go_ret
      exact ⟨_, _, rfl, hs, hB⟩

set_option maxHeartbeats 2000000 in
theorem rPol_any (p : Int) (hp : OkP p) (A : Option Addr) (c : Nat) (ps : List (Int × Int)) (hx : El p (px ps)) (hy : El p (py ps)) (hl : ps.length ≤ 100) (w : World) (h : Pt w A c ps) :
    Calls Try.prog 14 #[.int .u64 p, .slice A ps.length c] w fun e w' => PolRow p ps w e w' := by
  have hbd := hp.bd
  have hab := places_row A c ps hl w h
  have hxl := px_len ps
  have hun := fun W A' c' (h' : Sl W A' c' (px ps)) => unlike_any A' c' (px ps) W h' (by omega)
  rw [hxl] at hun
  go_enter Try.func14, Try.ntmps14
  go_wp2_with fail
  refine hab.mono ?_
  rintro e w1 ⟨A1, c1, rfl, hs1, hb1⟩
  rw [hxl]
  clear hab
  go_wp2_with fail
  refine (hun _ _ _ hs1).mono ?_
  clear hun
  rintro e w2 ⟨rfl, m, rfl⟩
  have hB2 := below_drewN hb1 m
  by_cases hnd : (px ps).Nodup
  · rw [decide_eq_true hnd]
    have hND := Lib.hid hnd
    clear hnd
    go_wp2
    go_loopw [7, 8] (fun v i wr => ∃ (k : Nat) (A' : Option Addr) (c' : Nat), k ≤ ps.length ∧ i = .int .i64 k ∧ v = .slice A' (lag p (px ps) (py ps) k).length c' ∧ Sl wr A' c' (lag p (px ps) (py ps) k) ∧ Below w1.heap.size w1 wr) (fun _ i _ => ps.length - (intOf i).toNat)
    case atStart => exact ⟨0, none, 0, Nat.zero_le _, rfl, rfl, Sl.nothing _, below_drewN (Below.refl _ _) _⟩
    case round =>
      obtain ⟨k, A', c', hk, rfl, rfl, hf, hBr⟩ := hrel
      by_cases hlt : k < ps.length
      · obtain ⟨b, off, x, y, hA, hbl, hxy, hcx, hcy⟩ := (h.next (hb1.trans (hBr.mono hb1.size))).at_ hlt
        subst hA
        have hy1 := py_at hxy
        have hyb := hy.co (p := p) (by omega) k
        have hfe := lag_el (p := p) (by omega) (px ps) (py ps) k
        have hfl := lag_len p (px ps) (py ps) k (by omega)
        have hnext : lag p (px ps) (py ps) (k + 1) = padd p (lag p (px ps) (py ps) k) (pscl p (co (py ps) k) (base p (px ps) k)) := rfl
        rw [hy1] at hyb hnext
        have hbe := base_el (p := p) (by omega) (px ps) k
        have hbn := base_len p (px ps) (i := k) (by omega)
        have hba := rBase_row p hp A1 c1 (px ps) hND.out hx (by omega) k (by omega) wr.drew (hs1.next hBr).drew
        rw [hxl] at hba hbn
        have hsc := fun W A7 c7 (h7 : Sl W A7 c7 (base p (px ps) k)) => rScale_row p y hp hyb A7 c7 _ hbe (by omega) W h7
        have hsl := pscl_len p y (base p (px ps) k)
        have hadd := fun W A8 c8 (h8 : Sl W A8 c8 (pscl p y (base p (px ps) k))) (h9 : Sl W A' c' (lag p (px ps) (py ps) k)) => rAddP_row p hp A' A8 c' c8 _ _ hfe (pscl_el (by omega) _ _) (by omega) (by omega) W h9 h8
        rw [← hnext] at hadd
        generalize lag p (px ps) (py ps) k = F at *
        generalize hFe : lag p (px ps) (py ps) (k + 1) = F' at *
        generalize pscl p y (base p (px ps) k) = Q at *
        generalize base p (px ps) k = G at *
        have hFF := Lib.hid hFe
        have hkN : (k : Int) < ps.length := by omega
        have hdr : Below wr.heap.size wr wr.drew := (Below.refl _ wr).drew
        clear hFe hy1 hxy hnext
        go_wp2_with fail
        go_region_held3 (fun w' => w'.cell? ⟨b, off + k * 2 + 1, none⟩ = some (.int .u64 y))
          (first | exact hcy | assumption)
          (first
            | (go_at_call 39; (with_reducible refine hba.mono ?_); rintro e w5 ⟨A5, c5, rfl, hs5, hb5⟩; have hB5 := hdr.trans (hb5.mono hdr.size); have cy5 := (hB5.cell (p := ⟨b, off + k * 2 + 1, none⟩) hbl).trans hcy; have hsc5 := Lib.hid (hsc w5 A5 c5 hs5); clear hb5 hs5 hsc)
            | (go_at_call 38; (with_reducible refine (hsc5.out).mono ?_); rintro e w6 ⟨A6, c6, rfl, hs6, hb6⟩; have hB6 := hB5.trans (hb6.mono hB5.size); have cy6 := (hB6.cell (p := ⟨b, off + k * 2 + 1, none⟩) hbl).trans hcy; have had6 := Lib.hid (hadd w6 A6 c6 hs6 (hf.next hB6)); clear hb6 hs6 hadd)
            | (go_at_call 37; (with_reducible refine (had6.out).mono ?_); rintro e w7 ⟨A7, c7, rfl, hs7, hb7⟩; have hB7 := hB6.trans (hb7.mono hB6.size); have cy7 := (hB7.cell (p := ⟨b, off + k * 2 + 1, none⟩) hbl).trans hcy; clear hb7))
        all_goals
          go_wp2_with fail
          go_roundw
          case rel => exact ⟨k + 1, A7, c7, by omega, by simp, by rw [hFF.out], by rw [hFF.out]; exact hs7, hBr.trans (hB7.mono hBr.size)⟩
          case measure => simp [intOf]; omega
      · obtain rfl : k = ps.length := by omega
        go_wp2_with fail
        go_ret2
        exact .inl ⟨hND.out, _, _, rfl, hf, hb1.trans (hBr.mono hb1.size)⟩
  · rw [decide_eq_false hnd]
    go_wp2_with fail
    go_ret2
    exact .inr ⟨hnd, rfl, hB2⟩

set_option maxHeartbeats 2000000 in
theorem rWt_any (p z : Int) (hp : OkP p) (hz : 0 ≤ z ∧ z < p) (A : Option Addr) (c : Nat) (xs : List Int) (hxs : El p xs) (hl : xs.length ≤ 100) (w : World) (h : Sl w A c xs) :
    Calls Try.prog 21 #[.int .u64 p, .slice A xs.length c, .int .u64 z] w fun e w' => WtRow p xs z w e w' := by
  obtain ⟨i0, hi, hz0, hz1, hz2⟩ := info_parts info_u64
  have hbd := hp.bd
  have hun := unlike_any A c xs w h (by omega)
  go_enter Try.func21, Try.ntmps21
  go_wp2_with fail
  refine hun.mono ?_
  clear hun
  rintro e w2 ⟨rfl, m, rfl⟩
  have hB2 := below_drewN (Below.refl w.heap.size w) m
  by_cases hnd : xs.Nodup
  · rw [decide_eq_true hnd]
    have hND := Lib.hid hnd
    have hWl := Lib.hid (wts_len p xs z)
    have hD : Hid (((List.range xs.length).map fun i => pev p (base p xs i) z) = wts p xs z) := Lib.hid rfl
    clear hnd
    go_wp2
    go_loopw [8, 9] (fun v i wr => ∃ k : Nat, k ≤ xs.length ∧ i = .int .i64 k ∧ wr.ownsRow w.heap.size 22 1 v k (((List.range k).map fun i => pev p (base p xs i) z).map (Value.int .u64)) ∧ Below w.heap.size w wr) (fun _ i _ => xs.length - (intOf i).toNat)
    case atStart => exact ⟨0, Nat.zero_le _, rfl, World.ownsRow_nil _ _ _ _, hB2⟩
    case round =>
      obtain ⟨k, hk, rfl, hrow, hB⟩ := hrel
      have hsz := hB.size
      by_cases hlt : k < xs.length
      · have hba := rBase_row p hp A c xs hND.out hxs (by omega) k hlt wr (h.next hB)
        have hbe := base_el (p := p) (by omega) xs k
        have hbn := base_len p xs hlt
        have hev := fun W A7 c7 (h7 : Sl W A7 c7 (base p xs k)) => rEval_any p z hp hz A7 c7 _ hbe (by omega) W h7
        have hk' : (k : Int) < xs.length := by omega
        go_wp2_with (first | (go_at_call 39; refine hba.mono ?_; clear hba; rintro e w3 ⟨A3, c3, rfl, hs3, hb3⟩; have hev3 := hev w3 A3 c3 hs3; have hrow3 := own_below hrow hb3; have hB3 := hB.trans (hb3.mono hsz); clear hev) | (go_at_call 42; refine hev3.mono ?_; clear hev3; rintro e w' ⟨rfl, rfl⟩) | (at_builtin; refine wpList_append_own _ rfl _ _ 27 rfl w.heap.size 22 i0 (.int .u64 0) 1 8 Try.underlying27 hi hz0 hz1 hz2 rfl (by decide) _ _ _ rfl (hrow3.alloc _) ⟨w3.heap.size, 0, none⟩ 1 1 [.int .u64 (pev p (base p xs k) z)] rfl rfl (cell_one_new _ _ _) (by simp [Value.oneCell']) (by simp only [maxLen]; omega) (by omega) (by have := hB3.size; simp; omega) ?_; intro v' w4 hown' hgrow _))
        have hB4 : Below w.heap.size w w4 := (hB3.alloc hB3.size _).grown hgrow (by have := hB3.size; simp; omega) (fun k e => (hrow3.lt k e).1)
        go_roundw
        case rel => exact ⟨k + 1, by omega, by simp, own_next (f := fun i => pev p (base p xs i) z) hown', hB4⟩
        case measure => simp [intOf]; omega
      · obtain rfl : k = xs.length := by omega
        rw [hD.out] at hrow
        obtain ⟨A2, c2, hv, hs2⟩ := own_form hrow
        subst hv
        go_wp2
        go_ret2
        exact .inl ⟨hND.out, A2, c2, rfl, hs2, hB⟩
  · rw [decide_eq_false hnd]
    go_wp2_with fail
    go_ret2
    exact .inr ⟨hnd, rfl, hB2⟩
end Go.Proofs.Ytpjgpfjepcidgaa
