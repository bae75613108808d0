/- Vanish of the reference of layer 10; SameList of any two lists; slices.Equal; nothing that lay is changed. Conditions: a supported prime, at most 50 points between 0 and the prime; at most 1000 words. -/
import Derived.Test.YtkhiiiggmhncbaaERefT
import Derived.Test.YtkhiiiggmhncbaaME
import Derived.Test.YtkhiiiggmhncbaaECat
namespace Go.Proofs.Ytkhiiiggmhncbaa
set_option maxRecDepth 100000
open Go.RowKit PolyMath FieldMath MatMath

theorem sameL_dec (A A' : Option Addr) (n m c c' : Nat) (xs ys : List Int) (hx : xs.length = n) (hy : ys.length = m) (hn : n ≤ 1000) (hm : m ≤ 1000) (w : World) (h : Sl w A c xs) (h' : Sl w A' c' ys) :
    Calls Try.prog 19 #[.slice A n c, .slice A' m c'] w fun e w' => e = .returned (.bool (decide (xs = ys))) ∧ ∃ m, w' = w.drewN m := by
  have HX := Lib.hid hx
  have HY := Lib.hid hy
  by_cases hnm : n = m
  · have HY2 : Hid (ys.length = n) := Lib.hid (by rw [hy]; exact hnm.symm)
    clear hx hy HY
    subst hnm
    go_enter Try.func19, Try.ntmps19
    go_wp2
    go_loopw [5] (fun i wr => ∃ k m : Nat, k ≤ n ∧ i = .int .i64 k ∧ Hid (xs.take k = ys.take k) ∧ wr = w.drewN m) (fun i _ => n - (intOf i).toNat)
    case atStart => exact ⟨0, 0, Nat.zero_le _, rfl, Lib.hid (by simp), rfl⟩
    case round =>
      obtain ⟨k, m, hk, rfl, hE, rfl⟩ := hrel
      by_cases hlt : k < n
      · obtain ⟨b, off, x, hA, _, hx, hc⟩ := h.at_ (k := k) (by rw [HX.out]; exact hlt)
        obtain ⟨b', off', y, hA', _, hy, hc'⟩ := h'.at_ (k := k) (by rw [HY2.out]; exact hlt)
        subst hA hA'
        have hi1 : (k : Int) < n := by omega
        by_cases hxy : x = y
        · subst hxy
          have hN := Lib.hid (take_next hx hy hE.out)
          clear hx hy hE
          go_wp2
          go_quiet (fail)
          go_wp2
          go_roundw
          case rel => exact ⟨k + 1, _, by omega, by simp, hN, by first | rfl | (simp; rfl)⟩
          case measure => simp [intOf]; omega
        · have hN : Hid (decide (xs = ys) = false) := Lib.hid (decide_eq_false fun e => by
            rw [e, hy] at hx
            injection hx with hx
            exact hxy hx.symm)
          have hb' : (x != y) = true := bne_iff_ne.2 hxy
          clear hx hy hE hxy
          go_wp2
          go_quiet (fail)
          go_wp2
          go_ret
          rw [hN.out]
          exact ⟨rfl, _, by first | rfl | (simp; rfl)⟩
      · obtain rfl : n = k := by omega
        have hN : Hid (decide (xs = ys) = true) := Lib.hid (decide_eq_true (by
          have := hE.out
          rw [List.take_of_length_le (by rw [HX.out]; exact Nat.le_refl _), List.take_of_length_le (by rw [HY2.out]; exact Nat.le_refl _)] at this
          exact this))
        go_wp2
        go_ret
        rw [hN.out]
        exact ⟨rfl, m, rfl⟩
  · have hN : Hid (decide (xs = ys) = false) := Lib.hid (decide_eq_false fun e => hnm (by rw [← hx, ← hy, e]))
    have hb' : ((n : Int) != m) = true := bne_iff_ne.2 (by omega)
    clear hx hy hnm
    go_enter Try.func19, Try.ntmps19
    go_wp2
    go_ret
    rw [hN.out]
    exact ⟨rfl, 0, rfl⟩
theorem equal_dec (A A' : Option Addr) (n m c c' : Nat) (xs ys : List Int) (hx : xs.length = n) (hy : ys.length = m) (hn : n ≤ 1000) (hm : m ≤ 1000) (w : World) (h : Sl w A c xs) (h' : Sl w A' c' ys) :
    Calls Try.prog 48 #[.slice A n c, .slice A' m c'] w fun e w' => e = .returned (.bool (decide (xs = ys))) ∧ ∃ m, w' = w.drewN m := by
  have HX := Lib.hid hx
  have HY := Lib.hid hy
  by_cases hnm : n = m
  · have HY2 : Hid (ys.length = n) := Lib.hid (by rw [hy]; exact hnm.symm)
    clear hx hy HY
    subst hnm
    go_enter Try.func48, Try.ntmps48
    go_wp2
    go_loopw [13] (fun i wr => ∃ k m : Nat, k ≤ n ∧ i = .int .i64 k ∧ Hid (xs.take k = ys.take k) ∧ wr = w.drewN m) (fun i _ => n - (intOf i).toNat)
    case atStart => exact ⟨0, 0, Nat.zero_le _, rfl, Lib.hid (by simp), rfl⟩
    case round =>
      obtain ⟨k, m, hk, rfl, hE, rfl⟩ := hrel
      by_cases hlt : k < n
      · obtain ⟨b, off, x, hA, _, hx, hc⟩ := h.at_ (k := k) (by rw [HX.out]; exact hlt)
        obtain ⟨b', off', y, hA', _, hy, hc'⟩ := h'.at_ (k := k) (by rw [HY2.out]; exact hlt)
        subst hA hA'
        have hi1 : (k : Int) < n := by omega
        by_cases hxy : x = y
        · subst hxy
          have hN := Lib.hid (take_next hx hy hE.out)
          clear hx hy hE
          go_wp2
          go_quiet (fail)
          go_wp2
          go_roundw
          case rel => exact ⟨k + 1, _, by omega, by simp, hN, by first | rfl | (simp; rfl)⟩
          case measure => simp [intOf]; omega
        · have hN : Hid (decide (xs = ys) = false) := Lib.hid (decide_eq_false fun e => by
            rw [e, hy] at hx
            injection hx with hx
            exact hxy hx.symm)
          have hb' : (x != y) = true := bne_iff_ne.2 hxy
          clear hx hy hE hxy
          go_wp2
          go_quiet (fail)
          go_wp2
          go_ret
          rw [hN.out]
          exact ⟨rfl, _, by first | rfl | (simp; rfl)⟩
      · obtain rfl : n = k := by omega
        have hN : Hid (decide (xs = ys) = true) := Lib.hid (decide_eq_true (by
          have := hE.out
          rw [List.take_of_length_le (by rw [HX.out]; exact Nat.le_refl _), List.take_of_length_le (by rw [HY2.out]; exact Nat.le_refl _)] at this
          exact this))
        go_wp2
        go_ret
        rw [hN.out]
        exact ⟨rfl, m, rfl⟩
  · have hN : Hid (decide (xs = ys) = false) := Lib.hid (decide_eq_false fun e => hnm (by rw [← hx, ← hy, e]))
    have hb' : ((n : Int) != m) = true := bne_iff_ne.2 (by omega)
    clear hx hy hnm
    go_enter Try.func48, Try.ntmps48
    go_wp2
    go_ret
    rw [hN.out]
    exact ⟨rfl, 0, rfl⟩
theorem vanz_take (p : Int) {xs : List Int} {k : Nat} {x : Int} (h : xs[k]? = some x) : vanz p [1] (xs.take (k + 1)) = zst p (vanz p [1] (xs.take k)) (fsub p 0 (fpow p x (p - 2))) := by
  rw [List.take_add_one, h]
  exact vanz_snoc p (xs.take k) [1] x
/-- The coefficients behind a factor more. -/
def zstF (p : Int) (z : List Int) (n : Int) (k : Nat) : Int := if k = 0 then co z 0 else fadd p (co z k) (fmul p n (co z (k - 1)))
theorem zst_start (p : Int) (z : List Int) (n : Int) : mixL (zstF p z n) (co z) (z.length + 1) (0 + 1) = z ++ [0] := by
  refine list_ext (by rw [mixL_len]; simp) fun i => ?_
  unfold mixL
  rw [co_map]
  by_cases hi : i < z.length + 1
  · rw [if_pos hi]
    have e : co (z ++ [0]) i = co z i := by
      by_cases h : i < z.length
      · exact co_snoc_lt h
      · rw [show i = z.length from by omega, co_snoc, co_fin z z.length (Nat.le_refl _)]
    rw [e]
    by_cases h0 : i < 0 + 1
    · rw [if_pos h0]; unfold zstF; rw [if_pos (by omega), show i = 0 from by omega]
    · rw [if_neg h0]
  · rw [if_neg hi, co_fin _ i (by simp; omega)]
theorem zst_end (p : Int) (z : List Int) (n : Int) : mixL (zstF p z n) (co z) (z.length + 1) (z.length + 1) = zst p z n := by rw [mixL_done]; rfl

set_option maxHeartbeats 4000000 in
theorem van_any (p : Int) (hp : OkP p) (A : Option Addr) (c N : Nat) (xs : List Int) (hx : ∀ x ∈ xs, 0 < x ∧ x < p) (hl : xs.length = N) (hN : N ≤ 50) (w : World) (h : Sl w A c xs) :
    Calls Try.prog 29 #[.int .u64 p, .slice A N c] w fun e w' => ∃ A' c', e = .returned (.slice A' (N + 1) c') ∧ Sl w' A' c' (vanz p [1] xs) ∧ Below w.heap.size w w' := by
  obtain ⟨i0, hi, hz0, hz1, hz2⟩ := info_parts info_u64
  have hbd := hp.bd
  have HL := Lib.hid hl
  have hVL : ∀ k, k ≤ N → Hid ((vanz p [1] (xs.take k)).length = k + 1) := fun k hk => Lib.hid (by rw [vanz_len, List.length_take, hl]; simp; omega)
  have hVE : ∀ k, El p (vanz p [1] (xs.take k)) := fun k => vanz_el (by omega) _ _ (El.one (by omega))
  have hEnd : Hid (xs.take N = xs) := Lib.hid (List.take_of_length_le (by omega))
  have hX := Lib.hid hx
  clear hl hx
  have hz1' := Sl.l1 w 1
  have hB0 := bnew (Below.refl w.heap.size w) (.cells #[.int .u64 1] 31) (Nat.le_refl _)
  go_enter Try.func29, Try.ntmps29
  go_wp2
  go_loopw [5, 6] (fun z i wr => ∃ (k : Nat) (A' : Option Addr) (c' : Nat), k ≤ N ∧ i = .int .i64 k ∧ z = .slice A' (k + 1) c' ∧ Sl wr A' c' (vanz p [1] (xs.take k)) ∧ Below w.heap.size w wr) (fun _ i _ => N - (intOf i).toNat)
  case atStart => exact ⟨0, _, _, Nat.zero_le _, rfl, rfl, hz1', hB0⟩
  case round =>
    clear hz1' hB0
    obtain ⟨k, A', c', hk, rfl, rfl, hs, hB⟩ := hrel
    have hsz := hB.size
    by_cases hlt : k < N
    · obtain ⟨b, off, x, hA, hbl, hxk, hcx⟩ := h.at_ (k := k) (by rw [HL.out]; exact hlt)
      subst hA
      have hcx' := (hB.cell (p := ⟨b, off + k, none⟩) hbl).trans hcx
      have hxb := hX.out x (List.mem_of_getElem? hxk)
      have hvt := Lib.hid (vanz_take p hxk)
      have hzl := hVL k hk
      have hze := hVE k
      have hiv := fpow_bd p x (p - 2) (by omega)
      have hkN : (k : Int) < N := by omega
      obtain ⟨bz, oz, _, hAz, hblz, _, _⟩ := hs.at_ (k := 0) (by rw [hzl.out]; omega)
      subst hAz
      generalize vanz p [1] (xs.take k) = z at *
      have hnb := fsub_bd p 0 (fpow p x (p - 2)) (by omega)
      have hlit := own_lit0 wr
      have hb1 := (Below.refl _ wr).alloc (Nat.le_refl _) (.cells #[] 31)
      have hnw := Lib.hid (fun j u hu => (hs.next hb1).newsP (j := j) (u := u) hu)
      have hln : Hid ((z.map (Value.int .u64)).length = (k + 1) * 1) := Lib.hid (by rw [List.length_map, Nat.mul_one]; exact hzl.out)
      have hon := Lib.hid (fun u (hu : u ∈ z.map (Value.int .u64)) => show u.oneCell' = true by obtain ⟨y, _, rfl⟩ := List.mem_map.1 hu; rfl)
      clear hxk hcx
      go_wp2_with fail
      refine (rInv_any p x hp hxb.1 hxb.2 _).mono ?_; rintro e w' ⟨rfl, rfl⟩
      go_wp2_with fail
      refine (rSub_any p 0 _ hp (by omega) (by omega) hiv.1 hiv.2 _).mono ?_; rintro e w' ⟨rfl, rfl⟩
      generalize fsub p 0 (fpow p x (p - 2)) = nn at *
      rename World => W0
      go_wp2_with (at_builtin; refine wpList_append_own _ rfl _ _ 22 rfl W0.heap.size 31 i0 (.int .u64 0) 1 8 Try.underlying22 hi hz0 hz1 hz2 rfl (by decide) _ _ _ rfl hlit.out ⟨bz, oz, none⟩ (k + 1) c' (z.map (Value.int .u64)) rfl hln.out hnw.out hon.out (by simp only [maxLen]; omega) (by omega) (by simp) ?_; intro v2 w2 hown2 hgrow2 _; refine Hid.out ?_)
      refine Lib.hid ?_
      have hb2 : Below W0.heap.size W0 w2 := hb1.grown hgrow2 (by simp) (fun e he => (hlit.out.lt e he).1)
      have hown2' : w2.ownsRow W0.heap.size 31 1 v2 (k + 1) (z.map (Value.int .u64)) := by
        have := hown2
        rw [Nat.zero_add, List.nil_append] at this
        exact this
      have hsz2 := hb2.size
      have hO2 := Lib.hid (hown2'.alloc (.cells #[.int .u64 0] 31))
      have hb3 := bnew hb2 (.cells #[.int .u64 0] 31) (Nat.le_refl _)
      clear hown2 hown2' hgrow2 hlit hnw hon hb1
      go_wp2_with (at_builtin; refine wpList_append_own _ rfl _ _ 22 rfl W0.heap.size 31 i0 (.int .u64 0) 1 8 Try.underlying22 hi hz0 hz1 hz2 rfl (by decide) _ _ _ rfl hO2.out ⟨w2.heap.size, 0, none⟩ 1 1 [.int .u64 0] rfl rfl (cell_one_new _ _ _) (by simp [Value.oneCell']) (by simp only [maxLen]; omega) (by omega) (by simp; omega) ?_; intro v4 w4 hown4 hgrow4 _; refine Hid.out ?_)
      refine Lib.hid ?_
      have hb4 : Below W0.heap.size W0 w4 := hb3.grown hgrow4 (by simp; omega) (fun e he => (hO2.out.lt e he).1)
      obtain ⟨bo, co', rfl, hbo⟩ := World.ownsRow.form hown4 (by omega)
      have hO4 : OwnAt w4 W0.heap.size bo (k + 1 + 1) co' (mixL (zstF p z nn) (co z) (k + 1 + 1) (0 + 1)) := by
        have := zst_start p z nn
        rw [hzl.out] at this
        unfold OwnAt
        rw [this, List.map_append]
        exact hown4
      have hs4 := hs.next hb4
      have hB4 := hB.trans (hb4.mono hsz)
      have hbo1 := hO4.lt
      have hEZ : Hid (mixL (zstF p z nn) (co z) (k + 1 + 1) (k + 1 + 1) = zst p z nn) := Lib.hid (by have := zst_end p z nn; rw [hzl.out] at this; exact this)
      clear hown4 hgrow4 hO2 hb3 hb2
      go_wp2
      go_loopw [11] (fun j W => ∃ J : Nat, J ≤ k + 1 ∧ j = .int .i64 J ∧ OwnAt W W0.heap.size bo (k + 1 + 1) co' (mixL (zstF p z nn) (co z) (k + 1 + 1) (J + 1)) ∧ w4.grownBy W (some bo)) (fun j _ => k + 1 - (intOf j).toNat)
      case atStart => exact ⟨0, Nat.zero_le _, rfl, hO4, World.grownBy.refl _ _⟩
      case round =>
        clear hO4
        obtain ⟨J, hJ, rfl, hOJ, hGJ⟩ := hrel
        have hBJ := hB4.grown hGJ hB4.size (fun e he => by injection he with he; omega)
        by_cases hlj : J < k + 1
        · obtain ⟨b5, o5, y, hA5, hb5, hy, hcy⟩ := hs4.at_ (k := J) (by rw [hzl.out]; exact hlj)
          injection hA5 with hA5
          injection hA5 with e1 e2
          subst e1 e2
          have hcy' := hGJ.cell hcy (by simp; omega)
          have hyb := hze y (List.mem_of_getElem? hy)
          have hzb := hze.co (p := p) (by omega) (J + 1)
          have hmb := fmul_bd p nn y (by omega)
          have hget := hOJ.cell (show (mixL (zstF p z nn) (co z) (k + 1 + 1) (J + 1))[J + 1]? = some (co z (J + 1)) by rw [mixL_get _ _ _ _ _ (by omega), if_neg (by omega)])
          have hfz := hOJ.frozen (J + 1)
          have hset : (mixL (zstF p z nn) (co z) (k + 1 + 1) (J + 1)).set (J + 1) (fadd p (co z (J + 1)) (fmul p nn y)) = mixL (zstF p z nn) (co z) (k + 1 + 1) (J + 1 + 1) := by
            have h9 := mixL_set (zstF p z nn) (co z) (k + 1 + 1) (J + 1)
            rw [show zstF p z nn (J + 1) = fadd p (co z (J + 1)) (fmul p nn y) from by unfold zstF; rw [if_neg (Nat.succ_ne_zero J), Nat.add_sub_cancel, co_at hy]] at h9
            exact h9
          generalize co z (J + 1) = u at *
          have hSS := Lib.hid hset
          have hput := Lib.hid (hOJ.put (J + 1) (fadd p u (fmul p nn y)))
          have hgr2 := Lib.hid (hOJ.grow (J + 1) (fadd p u (fmul p nn y)))
          have wj : (J : Int) < (k : Int) + 1 := by omega
          have wj2 : (J : Int) + 1 < (k : Int) + 1 + 1 := by omega
          have wr1 : IntKind.i64.wrap ((J : Int) + 1) = (J : Int) + 1 := IntWalk.i64_in _ (by omega)
          have wr2 : ((J : Int) + 1).toNat = J + 1 := by omega
          have wr3 : (0 : Int) ≤ (J : Int) + 1 := by omega
          clear hy hcy hset
          go_wp2
          refine wp_region_still_tail 18 (by kernel_rfl) (by kernel_rfl) ?_
          simp only [List.take_succ_cons, List.take_zero, List.drop_succ_cons, List.drop_zero]
          change wpStill _ _ (World.drew _) (fun a' => wpList _ _ _ _ a' (World.drew _)) _ _
          repeat still_step
          still_call (still_of (rMul_any _ _ _ hp hnb.1 hnb.2 hyb.1 hyb.2 _))
          repeat still_step
          still_call (still_of (rAdd_any _ _ _ hp hzb.1 hzb.2 hmb.1 hmb.2 _))
          repeat still_step
          refine wpStill_nil ?_
          go_wp2
          clear wr1 wr2 wr3 wj2
          go_roundw
          case rel => exact ⟨J + 1, by omega, by simp, by rw [← hSS.out]; exact hput.out.drew, grown_drew (grown_trans hGJ hgr2.out)⟩
          case measure => simp [intOf]; omega
        · obtain rfl : J = k + 1 := by omega
          rw [hEZ.out, ← hvt.out] at hOJ
          have hSJ := Lib.hid hOJ.sl
          clear hOJ
          have hjj : ¬ (k : Int) + 1 < (k : Int) + 1 := by omega
          go_wp2
          go_roundw
          case rel => exact ⟨k + 1, _, _, by omega, by simp, rfl, hSJ.out, hBJ⟩
          case measure => simp [intOf]; omega
    · obtain rfl : k = N := by omega
      rw [hEnd.out] at hs
      have HS := Lib.hid hs
      clear hs
      go_wp2
      go_ret
      exact ⟨A', c', rfl, HS.out, hB⟩
end Go.Proofs.Ytkhiiiggmhncbaa
