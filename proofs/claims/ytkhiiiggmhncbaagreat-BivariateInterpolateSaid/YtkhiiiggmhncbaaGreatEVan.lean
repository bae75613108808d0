/- Vanish of the reference of layer 10; SameList of any two lists; slices.Equal; nothing that lay is changed. Conditions: a supported prime, at most 50 points between 0 and the prime; at most 1000 words. -/
import Derived.Test.YtkhiiiggmhncbaaGreatERefT
import Derived.Test.YtkhiiiggmhncbaaGreatME
import Derived.Test.YtkhiiiggmhncbaaGreatECat
namespace Go.Proofs.YtkhiiiggmhncbaaGreat
set_option maxRecDepth 100000
open Go.RowKit PolyMath FieldMath MatMath

theorem sameL_dec (A A' : Option Addr) (n m c c' : Nat) (xs ys : List Int) (hx : xs.length = n) (hy : ys.length = m) (hn : n ≤ 1000) (hm : m ≤ 1000) (w : World) (h : Sl w A c xs) (h' : Sl w A' c' ys) :
    Calls Tryz.prog 13 #[.slice A n c, .slice A' m c'] w fun e w' => e = .returned (.bool (decide (xs = ys))) ∧ ∃ m, w' = w.drewN m := by
  have HX := Lib.hid hx
  have HY := Lib.hid hy
  by_cases hnm : n = m
  · have HY2 : Hid (ys.length = n) := Lib.hid (by rw [hy]; exact hnm.symm)
    clear hx hy HY
    subst hnm
    go_enter Tryz.func13, Tryz.ntmps13
    go_wp2
    go_loopw [5] (fun i wr => ∃ k m : Nat, k ≤ n ∧ i = .int .i64 k ∧ Hid (xs.take k = ys.take k) ∧ wr = w.drewN m) (fun i _ => n - (intOf i).toNat)
    case atStart => exact ⟨0, 0, Nat.zero_le _, rfl, Lib.hid (by simp), rfl⟩
    case round =>
      obtain ⟨k, m, hk, rfl, hE, rfl⟩ := hrel
      by_cases hlt : k < n
      · obtain ⟨b, off, x, hA, _, hx, hc⟩ := h.at_ (k := k) (by rw [HX.out]; exact hlt)
        obtain ⟨b', off', y, hA', _, hy, hc'⟩ := h'.at_ (k := k) (by rw [HY2.out]; exact hlt)
        subst hA hA'
        have hi1 : (k : Int) < n := by omega
        by_cases hxy : x = y
        · subst hxy
          have hN := Lib.hid (take_next hx hy hE.out)
          clear hx hy hE
          go_wp2
          go_quiet (fail)
          go_wp2
          go_roundw
          case rel => exact ⟨k + 1, _, by omega, by simp, hN, by first | rfl | (simp; rfl)⟩
          case measure => simp [intOf]; omega
        · have hN : Hid (decide (xs = ys) = false) := Lib.hid (decide_eq_false fun e => by
            rw [e, hy] at hx
            injection hx with hx
            exact hxy hx.symm)
          have hb' : (x != y) = true := bne_iff_ne.2 hxy
          clear hx hy hE hxy
          go_wp2
          go_quiet (fail)
          go_wp2
          go_ret
          rw [hN.out]
          exact ⟨rfl, _, by first | rfl | (simp; rfl)⟩
      · obtain rfl : n = k := by omega
        have hN : Hid (decide (xs = ys) = true) := Lib.hid (decide_eq_true (by
          have := hE.out
          rw [List.take_of_length_le (by rw [HX.out]; exact Nat.le_refl _), List.take_of_length_le (by rw [HY2.out]; exact Nat.le_refl _)] at this
          exact this))
        go_wp2
        go_ret
        rw [hN.out]
        exact ⟨rfl, m, rfl⟩
  · have hN : Hid (decide (xs = ys) = false) := Lib.hid (decide_eq_false fun e => hnm (by rw [← hx, ← hy, e]))
    have hb' : ((n : Int) != m) = true := bne_iff_ne.2 (by omega)
    clear hx hy hnm
    go_enter Tryz.func13, Tryz.ntmps13
    go_wp2
    go_ret
    rw [hN.out]
    exact ⟨rfl, 0, rfl⟩
theorem equal_dec (A A' : Option Addr) (n m c c' : Nat) (xs ys : List Int) (hx : xs.length = n) (hy : ys.length = m) (hn : n ≤ 1000) (hm : m ≤ 1000) (w : World) (h : Sl w A c xs) (h' : Sl w A' c' ys) :
    Calls Tryz.prog 20 #[.slice A n c, .slice A' m c'] w fun e w' => e = .returned (.bool (decide (xs = ys))) ∧ ∃ m, w' = w.drewN m := by
  have HX := Lib.hid hx
  have HY := Lib.hid hy
  by_cases hnm : n = m
  · have HY2 : Hid (ys.length = n) := Lib.hid (by rw [hy]; exact hnm.symm)
    clear hx hy HY
    subst hnm
    go_enter Tryz.func20, Tryz.ntmps20
    go_wp2
    go_loopw [13] (fun i wr => ∃ k m : Nat, k ≤ n ∧ i = .int .i64 k ∧ Hid (xs.take k = ys.take k) ∧ wr = w.drewN m) (fun i _ => n - (intOf i).toNat)
    case atStart => exact ⟨0, 0, Nat.zero_le _, rfl, Lib.hid (by simp), rfl⟩
    case round =>
      obtain ⟨k, m, hk, rfl, hE, rfl⟩ := hrel
      by_cases hlt : k < n
      · obtain ⟨b, off, x, hA, _, hx, hc⟩ := h.at_ (k := k) (by rw [HX.out]; exact hlt)
        obtain ⟨b', off', y, hA', _, hy, hc'⟩ := h'.at_ (k := k) (by rw [HY2.out]; exact hlt)
        subst hA hA'
        have hi1 : (k : Int) < n := by omega
        by_cases hxy : x = y
        · subst hxy
          have hN := Lib.hid (take_next hx hy hE.out)
          clear hx hy hE
          go_wp2
          go_quiet (fail)
          go_wp2
          go_roundw
          case rel => exact ⟨k + 1, _, by omega, by simp, hN, by first | rfl | (simp; rfl)⟩
          case measure => simp [intOf]; omega
        · have hN : Hid (decide (xs = ys) = false) := Lib.hid (decide_eq_false fun e => by
            rw [e, hy] at hx
            injection hx with hx
            exact hxy hx.symm)
          have hb' : (x != y) = true := bne_iff_ne.2 hxy
          clear hx hy hE hxy
          go_wp2
          go_quiet (fail)
          go_wp2
          go_ret
          rw [hN.out]
          exact ⟨rfl, _, by first | rfl | (simp; rfl)⟩
      · obtain rfl : n = k := by omega
        have hN : Hid (decide (xs = ys) = true) := Lib.hid (decide_eq_true (by
          have := hE.out
          rw [List.take_of_length_le (by rw [HX.out]; exact Nat.le_refl _), List.take_of_length_le (by rw [HY2.out]; exact Nat.le_refl _)] at this
          exact this))
        go_wp2
        go_ret
        rw [hN.out]
        exact ⟨rfl, m, rfl⟩
  · have hN : Hid (decide (xs = ys) = false) := Lib.hid (decide_eq_false fun e => hnm (by rw [← hx, ← hy, e]))
    have hb' : ((n : Int) != m) = true := bne_iff_ne.2 (by omega)
    clear hx hy hnm
    go_enter Tryz.func20, Tryz.ntmps20
    go_wp2
    go_ret
    rw [hN.out]
    exact ⟨rfl, 0, rfl⟩
theorem vanz_take (p : Int) {xs : List Int} {k : Nat} {x : Int} (h : xs[k]? = some x) : vanz p [1] (xs.take (k + 1)) = zst p (vanz p [1] (xs.take k)) (fsub p 0 (fpow p x (p - 2))) := by
  rw [List.take_add_one, h]
  exact vanz_snoc p (xs.take k) [1] x
/-- The coefficients behind a factor more. -/
def zstF (p : Int) (z : List Int) (n : Int) (k : Nat) : Int := if k = 0 then co z 0 else fadd p (co z k) (fmul p n (co z (k - 1)))
theorem zst_start (p : Int) (z : List Int) (n : Int) : mixL (zstF p z n) (co z) (z.length + 1) (0 + 1) = z ++ [0] := by
  refine list_ext (by rw [mixL_len]; simp) fun i => ?_
  unfold mixL
  rw [co_map]
  by_cases hi : i < z.length + 1
  · rw [if_pos hi]
    have e : co (z ++ [0]) i = co z i := by
      by_cases h : i < z.length
      · exact co_snoc_lt h
      · rw [show i = z.length from by omega, co_snoc, co_fin z z.length (Nat.le_refl _)]
    rw [e]
    by_cases h0 : i < 0 + 1
    · rw [if_pos h0]; unfold zstF; rw [if_pos (by omega), show i = 0 from by omega]
    · rw [if_neg h0]
  · rw [if_neg hi, co_fin _ i (by simp; omega)]
theorem zst_end (p : Int) (z : List Int) (n : Int) : mixL (zstF p z n) (co z) (z.length + 1) (z.length + 1) = zst p z n := by rw [mixL_done]; rfl

end Go.Proofs.YtkhiiiggmhncbaaGreat
