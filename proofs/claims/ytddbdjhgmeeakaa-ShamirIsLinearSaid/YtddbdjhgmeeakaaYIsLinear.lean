/- ShamirIsLinear: for every input the law returns true and changes nothing that lay. No conditions. -/
import Derived.Test.YtddbdjhgmeeakaaWSet
import Derived.Test.YtddbdjhgmeeakaaWOpen
import Derived.Test.YtddbdjhgmeeakaaWLin
import Derived.Test.YtddbdjhgmeeakaaMB
import Derived.BigQuiet
namespace Go.Proofs.Ytddbdjhgmeeakaa.shamirIsLinear
set_option maxRecDepth 100000
open Go.ChangeShapes Go.WideShapes Go.ChangeAt Go.RowKit PolyMath FieldMath MatMath

set_option maxHeartbeats 8000000 in
theorem walk (P N T : Int) (A : Option Addr) (c : Nat) (a : List Int) (B : Option Addr) (cb : Nat) (b : List Int) (k0 k1 : Int) (_wP : Wd P) (_wN : Wi N) (_wT : Wi T) (wa : Words a) (wb : Words b) (wk0 : Wd k0) (wk1 : Wd k1) (w : World) (sa : Sl w A c a) (sb : Sl w B cb b) : Calls Try.prog 10 #[.agg #[.int .u64 P, .int .i64 N, .int .i64 T], .agg #[.slice A a.length c, .slice B b.length cb], .agg #[.int .u64 k0, .int .u64 k1]] w fun e w' => e = .returned (.bool true) ∧ Below w.heap.size w w' := by
  obtain ⟨i0, hi, hz0, hz1, hz2⟩ := info_parts info_pt
  obtain ⟨i1, hi1, hx0, hx1, hx2⟩ := info_parts info_u64
  obtain ⟨j0, hj, hy0, hy1, hy2⟩ := info_parts info_sl
  have hB := bnew (bnew (bnew (Below.refl w.heap.size w) (.cells #[.int .u64 P, .int .i64 N, .int .i64 T] 55) (by simp)) (.cells #[.slice A a.length c, .slice B b.length cb] 70) (by simp)) (.cells #[.int .u64 k0, .int .u64 k1] 71) (by simp)
  replace sa := sa.next hB
  replace sb := sb.next hB
  have k00 : (((w.alloc (.cells #[.int .u64 P, .int .i64 N, .int .i64 T] 55)).alloc (.cells #[.slice A a.length c, .slice B b.length cb] 70)).alloc (.cells #[.int .u64 k0, .int .u64 k1] 71)).cell? ⟨w.heap.size, 0, none⟩ = some (.int .u64 P) := by go_simp
  have k01 : (((w.alloc (.cells #[.int .u64 P, .int .i64 N, .int .i64 T] 55)).alloc (.cells #[.slice A a.length c, .slice B b.length cb] 70)).alloc (.cells #[.int .u64 k0, .int .u64 k1] 71)).cell? ⟨w.heap.size, 1, none⟩ = some (.int .i64 N) := by go_simp
  have k02 : (((w.alloc (.cells #[.int .u64 P, .int .i64 N, .int .i64 T] 55)).alloc (.cells #[.slice A a.length c, .slice B b.length cb] 70)).alloc (.cells #[.int .u64 k0, .int .u64 k1] 71)).cell? ⟨w.heap.size, 2, none⟩ = some (.int .i64 T) := by go_simp
  have hq0 : w.heap.size < (((w.alloc (.cells #[.int .u64 P, .int .i64 N, .int .i64 T] 55)).alloc (.cells #[.slice A a.length c, .slice B b.length cb] 70)).alloc (.cells #[.int .u64 k0, .int .u64 k1] 71)).heap.size := by simp only [World.size_alloc]; omega
  have k10 : (((w.alloc (.cells #[.int .u64 P, .int .i64 N, .int .i64 T] 55)).alloc (.cells #[.slice A a.length c, .slice B b.length cb] 70)).alloc (.cells #[.int .u64 k0, .int .u64 k1] 71)).cell? ⟨w.heap.size + 1, 0, none⟩ = some (.slice A a.length c) := by go_simp
  have k11 : (((w.alloc (.cells #[.int .u64 P, .int .i64 N, .int .i64 T] 55)).alloc (.cells #[.slice A a.length c, .slice B b.length cb] 70)).alloc (.cells #[.int .u64 k0, .int .u64 k1] 71)).cell? ⟨w.heap.size + 1, 1, none⟩ = some (.slice B b.length cb) := by go_simp
  have hq1 : w.heap.size + 1 < (((w.alloc (.cells #[.int .u64 P, .int .i64 N, .int .i64 T] 55)).alloc (.cells #[.slice A a.length c, .slice B b.length cb] 70)).alloc (.cells #[.int .u64 k0, .int .u64 k1] 71)).heap.size := by simp only [World.size_alloc]; omega
  have k20 : (((w.alloc (.cells #[.int .u64 P, .int .i64 N, .int .i64 T] 55)).alloc (.cells #[.slice A a.length c, .slice B b.length cb] 70)).alloc (.cells #[.int .u64 k0, .int .u64 k1] 71)).cell? ⟨w.heap.size + 2, 0, none⟩ = some (.int .u64 k0) := by go_simp
  have k21 : (((w.alloc (.cells #[.int .u64 P, .int .i64 N, .int .i64 T] 55)).alloc (.cells #[.slice A a.length c, .slice B b.length cb] 70)).alloc (.cells #[.int .u64 k0, .int .u64 k1] 71)).cell? ⟨w.heap.size + 2, 1, none⟩ = some (.int .u64 k1) := by go_simp
  have hq2 : w.heap.size + 2 < (((w.alloc (.cells #[.int .u64 P, .int .i64 N, .int .i64 T] 55)).alloc (.cells #[.slice A a.length c, .slice B b.length cb] 70)).alloc (.cells #[.int .u64 k0, .int .u64 k1] 71)).heap.size := by simp only [World.size_alloc]; omega
  go_enter Try.func10, Try.ntmps10
  go_wp2_with fail
  refine (awake9 _).mono ?_
  rintro e w1 ⟨rfl, hb⟩
  replace sa := sa.next hb
  replace sb := sb.next hb
  replace k00 := (hb.cell (p := ⟨w.heap.size, 0, none⟩) hq0).trans k00
  replace k01 := (hb.cell (p := ⟨w.heap.size, 1, none⟩) hq0).trans k01
  replace k02 := (hb.cell (p := ⟨w.heap.size, 2, none⟩) hq0).trans k02
  replace k10 := (hb.cell (p := ⟨w.heap.size + 1, 0, none⟩) hq1).trans k10
  replace k11 := (hb.cell (p := ⟨w.heap.size + 1, 1, none⟩) hq1).trans k11
  replace k20 := (hb.cell (p := ⟨w.heap.size + 2, 0, none⟩) hq2).trans k20
  replace k21 := (hb.cell (p := ⟨w.heap.size + 2, 1, none⟩) hq2).trans k21
  replace hq0 := Nat.lt_of_lt_of_le hq0 hb.size
  replace hq1 := Nat.lt_of_lt_of_le hq1 hb.size
  replace hq2 := Nat.lt_of_lt_of_le hq2 hb.size
  replace hB := hB.trans (hb.mono hB.size)
  clear hb
  have g := fun W => rSupported_any P W
  go_wp2_with fail
  rcases sup_cases P with h0 | ⟨h0, hp⟩
  · rw [h0] at g
    refine (g _).mono ?_
    rintro e w2 ⟨rfl, hb⟩
    replace sa := sa.next hb
    replace sb := sb.next hb
    replace k00 := (hb.cell (p := ⟨w.heap.size, 0, none⟩) hq0).trans k00
    replace k01 := (hb.cell (p := ⟨w.heap.size, 1, none⟩) hq0).trans k01
    replace k02 := (hb.cell (p := ⟨w.heap.size, 2, none⟩) hq0).trans k02
    replace k10 := (hb.cell (p := ⟨w.heap.size + 1, 0, none⟩) hq1).trans k10
    replace k11 := (hb.cell (p := ⟨w.heap.size + 1, 1, none⟩) hq1).trans k11
    replace k20 := (hb.cell (p := ⟨w.heap.size + 2, 0, none⟩) hq2).trans k20
    replace k21 := (hb.cell (p := ⟨w.heap.size + 2, 1, none⟩) hq2).trans k21
    replace hq0 := Nat.lt_of_lt_of_le hq0 hb.size
    replace hq1 := Nat.lt_of_lt_of_le hq1 hb.size
    replace hq2 := Nat.lt_of_lt_of_le hq2 hb.size
    replace hB := hB.trans (hb.mono hB.size)
    clear hb
    go_wp2
    go_ret
    exact ⟨rfl, hB⟩
  rw [h0] at g
  refine (g _).mono ?_
  rintro e w2 ⟨rfl, hb⟩
  replace sa := sa.next hb
  replace sb := sb.next hb
  replace k00 := (hb.cell (p := ⟨w.heap.size, 0, none⟩) hq0).trans k00
  replace k01 := (hb.cell (p := ⟨w.heap.size, 1, none⟩) hq0).trans k01
  replace k02 := (hb.cell (p := ⟨w.heap.size, 2, none⟩) hq0).trans k02
  replace k10 := (hb.cell (p := ⟨w.heap.size + 1, 0, none⟩) hq1).trans k10
  replace k11 := (hb.cell (p := ⟨w.heap.size + 1, 1, none⟩) hq1).trans k11
  replace k20 := (hb.cell (p := ⟨w.heap.size + 2, 0, none⟩) hq2).trans k20
  replace k21 := (hb.cell (p := ⟨w.heap.size + 2, 1, none⟩) hq2).trans k21
  replace hq0 := Nat.lt_of_lt_of_le hq0 hb.size
  replace hq1 := Nat.lt_of_lt_of_le hq1 hb.size
  replace hq2 := Nat.lt_of_lt_of_le hq2 hb.size
  replace hB := hB.trans (hb.mono hB.size)
  clear hb
  clear g
  have hbd := hp.bd
  have g := fun W => setups_any P N T W
  go_wp2_with fail
  by_cases h7 : Setup P N T
  rotate_left
  · rw [decide_eq_false h7] at g
    refine (g _).mono ?_
    rintro e w9 ⟨rfl, hb⟩
    replace sa := sa.next hb
    replace sb := sb.next hb
    replace k00 := (hb.cell (p := ⟨w.heap.size, 0, none⟩) hq0).trans k00
    replace k01 := (hb.cell (p := ⟨w.heap.size, 1, none⟩) hq0).trans k01
    replace k02 := (hb.cell (p := ⟨w.heap.size, 2, none⟩) hq0).trans k02
    replace k10 := (hb.cell (p := ⟨w.heap.size + 1, 0, none⟩) hq1).trans k10
    replace k11 := (hb.cell (p := ⟨w.heap.size + 1, 1, none⟩) hq1).trans k11
    replace k20 := (hb.cell (p := ⟨w.heap.size + 2, 0, none⟩) hq2).trans k20
    replace k21 := (hb.cell (p := ⟨w.heap.size + 2, 1, none⟩) hq2).trans k21
    replace hq0 := Nat.lt_of_lt_of_le hq0 hb.size
    replace hq1 := Nat.lt_of_lt_of_le hq1 hb.size
    replace hq2 := Nat.lt_of_lt_of_le hq2 hb.size
    replace hB := hB.trans (hb.mono hB.size)
    clear hb
    go_wp2
    go_ret
    exact ⟨rfl, hB⟩
  rw [decide_eq_true h7] at g
  refine (g _).mono ?_
  rintro e w9 ⟨rfl, hb⟩
  replace sa := sa.next hb
  replace sb := sb.next hb
  replace k00 := (hb.cell (p := ⟨w.heap.size, 0, none⟩) hq0).trans k00
  replace k01 := (hb.cell (p := ⟨w.heap.size, 1, none⟩) hq0).trans k01
  replace k02 := (hb.cell (p := ⟨w.heap.size, 2, none⟩) hq0).trans k02
  replace k10 := (hb.cell (p := ⟨w.heap.size + 1, 0, none⟩) hq1).trans k10
  replace k11 := (hb.cell (p := ⟨w.heap.size + 1, 1, none⟩) hq1).trans k11
  replace k20 := (hb.cell (p := ⟨w.heap.size + 2, 0, none⟩) hq2).trans k20
  replace k21 := (hb.cell (p := ⟨w.heap.size + 2, 1, none⟩) hq2).trans k21
  replace hq0 := Nat.lt_of_lt_of_le hq0 hb.size
  replace hq1 := Nat.lt_of_lt_of_le hq1 hb.size
  replace hq2 := Nat.lt_of_lt_of_le hq2 hb.size
  replace hB := hB.trans (hb.mono hB.size)
  clear hb
  clear g
  obtain ⟨h71, h72, h73, h74, h75, h76⟩ := h7
  obtain ⟨n, rfl⟩ : ∃ n : Nat, N = n := ⟨N.toNat, by omega⟩
  obtain ⟨t, rfl⟩ : ∃ t : Nat, T = t := ⟨T.toNat, by omega⟩
  have wt1 : IntKind.i64.wrap ((t : Int) + 1) = (t : Int) + 1 := IntWalk.i64_in _ (by omega)
  by_cases h3 : a.length = t + 1
  rotate_left
  · have h3' : ¬ (a.length : Int) = (t : Int) + 1 := by omega
    have h3b : ((a.length : Int) != (t : Int) + 1) = true := bne_iff_ne.2 h3'
    go_wp2
    go_ret
    exact ⟨rfl, hB⟩
  have ha3 : (a.length : Int) = (t : Int) + 1 := by omega
  have ha3b : ((a.length : Int) != (t : Int) + 1) = false := bne_eq_false_iff_eq.2 ha3
  have ha3d : decide ((a.length : Int) = (t : Int) + 1) = true := decide_eq_true ha3
  have H1 := Lib.hid h3
  clear h3
  by_cases h3 : b.length = t + 1
  rotate_left
  · have h3' : ¬ (b.length : Int) = (t : Int) + 1 := by omega
    have h3b : ((b.length : Int) != (t : Int) + 1) = true := bne_iff_ne.2 h3'
    go_wp2
    go_ret
    exact ⟨rfl, hB⟩
  have hb3 : (b.length : Int) = (t : Int) + 1 := by omega
  have hb3b : ((b.length : Int) != (t : Int) + 1) = false := bne_eq_false_iff_eq.2 hb3
  have hb3d : decide ((b.length : Int) = (t : Int) + 1) = true := decide_eq_true hb3
  have H2 := Lib.hid h3
  clear h3
  have g := fun W h => below_any P A c a W h (by omega)
  go_wp2_with fail
  by_cases h5 : ∀ x ∈ a, x < P
  rotate_left
  · rw [decide_eq_false h5] at g
    refine (g _ sa).mono ?_
    rintro e w10 ⟨rfl, rfl⟩
    go_wp2
    go_ret
    exact ⟨rfl, hB⟩
  rw [decide_eq_true h5] at g
  refine (g _ sa).mono ?_
  rintro e w10 ⟨rfl, rfl⟩
  clear g
  have g := fun W h => below_any P B cb b W h (by omega)
  go_wp2_with fail
  by_cases h6 : ∀ x ∈ b, x < P
  rotate_left
  · rw [decide_eq_false h6] at g
    refine (g _ sb).mono ?_
    rintro e w11 ⟨rfl, rfl⟩
    go_wp2
    go_ret
    exact ⟨rfl, hB⟩
  rw [decide_eq_true h6] at g
  refine (g _ sb).mono ?_
  rintro e w11 ⟨rfl, rfl⟩
  clear g
  by_cases h8 : k0 < P
  rotate_left
  · have h8' : P ≤ k0 := by omega
    go_wp2
    go_ret
    exact ⟨rfl, hB⟩
  have h8d0 : decide (P ≤ k0) = false := decide_eq_false (by omega)
  by_cases h9 : k1 < P
  rotate_left
  · have h9' : P ≤ k1 := by omega
    go_wp2
    go_ret
    exact ⟨rfl, hB⟩
  have h9d0 : decide (P ≤ k1) = false := decide_eq_false (by omega)
  have ha := el_of wa h5
  have hb := el_of wb h6
  have hK0 : 0 ≤ k0 ∧ k0 < P := ⟨wk0.1, h8⟩
  have hK1 : 0 ≤ k1 ∧ k1 < P := ⟨wk1.1, h9⟩
  have hn4 : 4 ≤ n := by omega
  have hn13 : n ≤ 13 := by omega
  have htn : t < n := by omega
  have ht1 : 1 ≤ t := by omega
  have hnI : (n : Int) ≤ 13 := by omega
  have htI : (t : Int) ≤ 13 := by omega
  clear h5 h6 h71 h72 h74 h75 h76
  obtain ⟨D, hD⟩ : ∃ D, D = w9.heap.size := ⟨_, rfl⟩
  obtain ⟨W1, hW1⟩ : ∃ W1, W1 = w9.alloc (.cells #[.slice none 0 0, .slice none 0 0] 72) := ⟨_, rfl⟩
  have hBW : Below D w9 W1 := by rw [hW1, hD]; exact (Below.refl _ w9).alloc (Nat.le_refl _) _
  have hDW : D < W1.heap.size := by rw [hW1, hD]; simp
  have hT0 : Two2 W1 D (.slice none 0 0) (.slice none 0 0) := by rw [hW1, hD]; exact Two2.begin w9 _ _
  have hWI := Lib.hid hW1
  have hDI := Lib.hid hD
  rw [← hD] at hq0 hq1 hq2
  have hlenA := shr_len P a n
  have hlenB := shr_len P b n
  have hB8 : Hid (i1.bytes * (t + 1) ≤ 281474976710656) := Lib.hid (by rw [hx2]; omega)
  clear hD hW1
  go_upto_region 7 with fail
  rw [← hWI.out, ← hDI.out]
  go_wp2_with fail
  go_loopw [9] (fun i wr => ∃ (m : Nat) (u v : Value), m ≤ 2 ∧ i = .int .i64 m ∧ Bex D W1 wr ∧ Two2 wr D u v ∧ Filled D wr m u v (rowsOf (shr P a n) t n) (rowsOf (shr P b n) t n)) (fun i _ => 2 - (intOf i).toNat)
  case atStart => exact ⟨0, _, _, by omega, rfl, Bex.refl _ _, hT0, fun _ => ⟨rfl, rfl⟩, fun h => absurd h (by decide), fun h => absurd h (by decide)⟩
  case round =>
    obtain ⟨m, u, v, hm, rfl, hBx, hTw, hSt⟩ := hrel
    rename World => W0
    have hF0 := hBW.trans (hBx.below (by omega))
    by_cases m0 : m = 0
    · subst m0
      obtain ⟨rfl, rfl⟩ := hSt.1 rfl
      clear hSt
      have xk00 := (hF0.cell (p := ⟨w.heap.size, 0, none⟩) hq0).trans k00
      have xk01 := (hF0.cell (p := ⟨w.heap.size, 1, none⟩) hq0).trans k01
      have xk02 := (hF0.cell (p := ⟨w.heap.size, 2, none⟩) hq0).trans k02
      have xk10 := (hF0.cell (p := ⟨w.heap.size + 1, 0, none⟩) hq1).trans k10
      have xk11 := (hF0.cell (p := ⟨w.heap.size + 1, 1, none⟩) hq1).trans k11
      have xk20 := (hF0.cell (p := ⟨w.heap.size + 2, 0, none⟩) hq2).trans k20
      have xk21 := (hF0.cell (p := ⟨w.heap.size + 2, 1, none⟩) hq2).trans k21
      have hsh := shares_row P hp n n (by simp) (by omega) (by omega) A c a ha (by omega) W0.drew (sa.next (by rw [← hDI.out]; exact hF0)).drew
      have hdr : Below W0.heap.size W0 W0.drew := (Below.refl _ W0).drew
      have hlt0 := hTw.lt
      have hqx0 : w.heap.size < W0.heap.size := by omega
      have hqx1 : w.heap.size + 1 < W0.heap.size := by omega
      go_wp2_with fail
      go_region_held3 (fun w' => w'.cell? ⟨w.heap.size, 1, none⟩ = some (.int .i64 n) ∧ w'.cell? ⟨w.heap.size + 1, 0, none⟩ = some (.slice A a.length c))
        (refine ⟨?_, ?_⟩ <;> assumption)
        (first
          | (go_at_call 15; (with_reducible refine hsh.mono ?_); rintro e w5 ⟨A5, c5, rfl, s5, hb5⟩; have hB5 := hdr.trans (hb5.mono hdr.size); have c01 := (hB5.cell (p := ⟨w.heap.size, 1, none⟩) hqx0).trans xk01; have c1m := (hB5.cell (p := ⟨w.heap.size + 1, 0, none⟩) hqx1).trans xk10; clear hb5 hsh))
      all_goals
        have hBx5 := hBx.next hB5
        have hTw5 := hTw.next hB5
        have hF5 := hBW.trans (hBx5.below (by omega))
        have hlt5 := hTw5.lt
        clear hBx hTw hB5 hdr c01 c1m xk00 xk01 xk02 xk10 xk11 xk20 xk21
        have hL5 := shr_len P a n
        generalize hLL : shr P a n = L at *
        have xk00 := (hF5.cell (p := ⟨w.heap.size, 0, none⟩) hq0).trans k00
        have xk01 := (hF5.cell (p := ⟨w.heap.size, 1, none⟩) hq0).trans k01
        have xk02 := (hF5.cell (p := ⟨w.heap.size, 2, none⟩) hq0).trans k02
        have xk10 := (hF5.cell (p := ⟨w.heap.size + 1, 0, none⟩) hq1).trans k10
        have xk11 := (hF5.cell (p := ⟨w.heap.size + 1, 1, none⟩) hq1).trans k11
        have xk20 := (hF5.cell (p := ⟨w.heap.size + 2, 0, none⟩) hq2).trans k20
        have xk21 := (hF5.cell (p := ⟨w.heap.size + 2, 1, none⟩) hq2).trans k21
        go_wp2_with fail
        go_loopw [11] (fun i w' => ∃ (k : Nat) (x : Value), k ≤ n ∧ i = .int .i64 k ∧ Bex D w5 w' ∧ Two2 w' D x (.slice none 0 0) ∧ LOwn w5.heap.size w' x (rowsOf L t k)) (fun i _ => n - (intOf i).toNat)
        case atStart => exact ⟨0, _, Nat.zero_le _, rfl, Bex.refl _ _, hTw5, LOwn.none _ _⟩
        case round =>
          obtain ⟨k, x, hk, rfl, hBi, hTi, hLi⟩ := hrel
          rename World => W2
          have hF2 := hF5.trans (hBi.below (by omega))
          have hsz2 := hBi.size
          by_cases hlt : k < n
          · have hkN : (k : Int) < n := by omega
            have HNX := Lib.hid (rowsOf_next L t k)
            have yk00 := (hF2.cell (p := ⟨w.heap.size, 0, none⟩) hq0).trans k00
            have yk01 := (hF2.cell (p := ⟨w.heap.size, 1, none⟩) hq0).trans k01
            have yk02 := (hF2.cell (p := ⟨w.heap.size, 2, none⟩) hq0).trans k02
            have yk10 := (hF2.cell (p := ⟨w.heap.size + 1, 0, none⟩) hq1).trans k10
            have yk11 := (hF2.cell (p := ⟨w.heap.size + 1, 1, none⟩) hq1).trans k11
            have yk20 := (hF2.cell (p := ⟨w.heap.size + 2, 0, none⟩) hq2).trans k20
            have yk21 := (hF2.cell (p := ⟨w.heap.size + 2, 1, none⟩) hq2).trans k21
            obtain ⟨b, off, y, hA5, hbl, hyk, hcy⟩ := (s5.ex0 hBi hTw5).at_ (k := k) (by omega)
            subst hA5
            have hco := co_at hyk
            rw [hco] at HNX
            have hcD := hTi.c0
            go_upto_region 18 with (at_make; refine wpList_make_full _ rfl _ _ 23 rfl W2.heap.size 22 i1 (.int .u64 0) 1 Try.underlying23 hi1 hx0 hx1 .i64 .i64 _ _ (t + 1) rfl rfl (by omega) (by omega) hB8.out (by simp only [maxLen]; omega) (Nat.le_refl _) ?_; intro w3 hown3 hgrow3; have hb3 : Below W2.heap.size W2 w3 := (Below.refl _ W2).grown hgrow3 (Nat.le_refl _) (fun k e => by cases e); simp only [Value.cells, toList_madeCells_one, Nat.mul_one] at hown3; have hO3 : OwnAt w3 W2.heap.size W2.heap.size (t + 1) (t + 1) (List.replicate (t + 1) 0) := (by unfold OwnAt; simpa using hown3); have hcell3 := hO3.cell (i := 0) (x := 0) (by simp); have hfz3 := hO3.frozen 0; have hcy3 := (hb3.cell (p := ⟨b, off + k, none⟩) hbl).trans hcy; have hput := Lib.hid (hO3.put 0 y); have hB3 := Lib.hid (hb3.setCell (p := ⟨W2.heap.size, 0, none⟩) (Nat.le_refl _) (.int .u64 y)); clear hown3 hgrow3 hO3)
            obtain ⟨wr, hwr⟩ : ∃ wr, wr = w3.setCell ⟨W2.heap.size, 0, none⟩ (.int .u64 y) := ⟨_, rfl⟩
            rw [← hwr] at hput hB3 ⊢
            have hrow : wr.ownsRow W2.heap.size 22 1 (.slice (some ⟨W2.heap.size, 0, none⟩) (t + 1) (t + 1)) (t + 1) ((conR y t).map (Value.int .u64)) := hput.out
            have hB2 := hB3.out
            have hsz3 := hB2.size
            have hlen : (conR y t).length = t + 1 := conR_len y t
            clear hwr hput hB3 hb3 hcy3 hcell3 hfz3 hcD
            obtain ⟨lit, hlit⟩ : ∃ o : Obj, o = .cells #[.slice (some ⟨W2.heap.size, 0, none⟩) (t + 1) (t + 1)] 23 := ⟨_, rfl⟩
            have hbl4 : Below wr.heap.size wr (wr.alloc lit) := (Below.refl _ wr).alloc (Nat.le_refl _) lit
            have hs3 := (Sl.of_own hrow).next hbl4
            have ht3 := (Ty.of_own hrow).next hbl4
            have hTr := hTi.next hB2
            have hT4 := hTr.next hbl4
            have hBr := (hBi.next hB2).next hbl4
            obtain ⟨vs, h1', h2'⟩ := (hLi.next hB2).next hbl4
            have hxl := World.ownsRow.lt h1'
            have hadd := fun (v' : Value) (w2 : World) (hown) (hg) => LOwn.add (v' := v') (w2 := w2) h1' h2' hs3 ht3 hown hg
            have hADD := Lib.hid hadd
            have hcD := hTr.c0
            have hszr : W2.heap.size < wr.heap.size := (World.ownsRow.lt hrow _ rfl).2
            clear hadd h2' hs3 ht3 hrow
            rw [rowsOf_len] at h1'
            rw [hlit] at h1' hT4 hBr hADD
            clear hlit hbl4
            go_wp2_with (at_builtin; refine wpList_append_own _ rfl _ _ 57 rfl w5.heap.size 23 j0 (.slice none 0 0) 1 24 Try.underlying57 hj hy0 hy1 hy2 rfl (by decide) _ _ _ rfl h1' ⟨wr.heap.size, 0, none⟩ 1 1 [.slice (some ⟨W2.heap.size, 0, none⟩) (t + 1) (t + 1)] rfl rfl (cell_one_new _ _ _) (by simp [Value.oneCell']) (by simp only [maxLen]; omega) (by omega) (by simp; omega) ?_; intro v' w7 hown' hgrow _; obtain ⟨A6, c6, hv6⟩ := row_form11 hown'; subst hv6; have hT7 := hT4.grown hgrow (fun e => by have := (hxl _ e).1; omega); have hcD7 := hT7.c0; have hfD7 := World.ownsRow.frozenAt hT7 0)
            have hLL7 := hADD.out (.slice A6 (k + 1) c6) w7 (by rw [hlen, rowsOf_len]; exact hown') hgrow
            rw [← HNX.out] at hLL7
            have hB7 := hBr.grown hgrow (fun q e => .inl (hxl q e).1)
            have hpt := hT7.put (.slice A6 (k + 1) c6)
            have hB8' : Bex D w5 (w7.setCell ⟨D, 0, none⟩ (.slice A6 (k + 1) c6)) := hB7.grown hpt.2.2.1 (fun q e => .inr (by injection e with e; exact e.symm))
            have hL8 : LOwn w5.heap.size (w7.setCell ⟨D, 0, none⟩ (.slice A6 (k + 1) c6)) (.slice A6 (k + 1) c6) (rowsOf L t (k + 1)) := hLL7.ex ((Bex.refl D w7).grown hpt.2.2.1 (fun q e => .inr (by injection e with e; exact e.symm))) hT7
            go_roundw
            case rel => exact ⟨k + 1, _, by omega, by simp, hB8', hpt.1, hL8⟩
            case measure => simp [intOf]; omega
          · obtain rfl : k = n := by omega
            have hBf := hBx5.trans hBi
            have yk00 := (hF2.cell (p := ⟨w.heap.size, 0, none⟩) hq0).trans k00
            have yk01 := (hF2.cell (p := ⟨w.heap.size, 1, none⟩) hq0).trans k01
            have yk02 := (hF2.cell (p := ⟨w.heap.size, 2, none⟩) hq0).trans k02
            have yk10 := (hF2.cell (p := ⟨w.heap.size + 1, 0, none⟩) hq1).trans k10
            have yk11 := (hF2.cell (p := ⟨w.heap.size + 1, 1, none⟩) hq1).trans k11
            have yk20 := (hF2.cell (p := ⟨w.heap.size + 2, 0, none⟩) hq2).trans k20
            have yk21 := (hF2.cell (p := ⟨w.heap.size + 2, 1, none⟩) hq2).trans k21
            have hfin : Filled D W2 1 x (.slice none 0 0) (rowsOf L t k) (rowsOf (shr P b k) t k) := ⟨fun h => absurd h (by decide), fun _ => ⟨hLi.base (by omega), rfl⟩, fun h => absurd h (by decide)⟩
            clear hLi
            go_wp2_with fail
            go_roundw
            case rel => exact ⟨1, _, _, by omega, by simp, hBf, hTi, by rw [← hLL] at hfin; exact hfin⟩
            case measure => simp [intOf]
    by_cases m1 : m = 1
    · subst m1
      obtain ⟨hLu, rfl⟩ := hSt.2.1 rfl
      obtain ⟨A0, c0, hu, _⟩ := hLu.form
      subst hu
      clear hSt
      have xk00 := (hF0.cell (p := ⟨w.heap.size, 0, none⟩) hq0).trans k00
      have xk01 := (hF0.cell (p := ⟨w.heap.size, 1, none⟩) hq0).trans k01
      have xk02 := (hF0.cell (p := ⟨w.heap.size, 2, none⟩) hq0).trans k02
      have xk10 := (hF0.cell (p := ⟨w.heap.size + 1, 0, none⟩) hq1).trans k10
      have xk11 := (hF0.cell (p := ⟨w.heap.size + 1, 1, none⟩) hq1).trans k11
      have xk20 := (hF0.cell (p := ⟨w.heap.size + 2, 0, none⟩) hq2).trans k20
      have xk21 := (hF0.cell (p := ⟨w.heap.size + 2, 1, none⟩) hq2).trans k21
      have hsh := shares_row P hp n n (by simp) (by omega) (by omega) B cb b hb (by omega) W0.drew (sb.next (by rw [← hDI.out]; exact hF0)).drew
      have hdr : Below W0.heap.size W0 W0.drew := (Below.refl _ W0).drew
      have hlt0 := hTw.lt
      have hqx0 : w.heap.size < W0.heap.size := by omega
      have hqx1 : w.heap.size + 1 < W0.heap.size := by omega
      go_wp2_with fail
      go_region_held3 (fun w' => w'.cell? ⟨w.heap.size, 1, none⟩ = some (.int .i64 n) ∧ w'.cell? ⟨w.heap.size + 1, 1, none⟩ = some (.slice B b.length cb))
        (refine ⟨?_, ?_⟩ <;> assumption)
        (first
          | (go_at_call 15; (with_reducible refine hsh.mono ?_); rintro e w5 ⟨A5, c5, rfl, s5, hb5⟩; have hB5 := hdr.trans (hb5.mono hdr.size); have c01 := (hB5.cell (p := ⟨w.heap.size, 1, none⟩) hqx0).trans xk01; have c1m := (hB5.cell (p := ⟨w.heap.size + 1, 1, none⟩) hqx1).trans xk11; clear hb5 hsh))
      all_goals
        have hBx5 := hBx.next hB5
        have hTw5 := hTw.next hB5
        have hF5 := hBW.trans (hBx5.below (by omega))
        have hlt5 := hTw5.lt
        have hLu5 := hLu.next hB5
        clear hBx hTw hB5 hdr c01 c1m xk00 xk01 xk02 xk10 xk11 xk20 xk21 hLu
        have hL5 := shr_len P b n
        generalize hLL : shr P b n = L at *
        have xk00 := (hF5.cell (p := ⟨w.heap.size, 0, none⟩) hq0).trans k00
        have xk01 := (hF5.cell (p := ⟨w.heap.size, 1, none⟩) hq0).trans k01
        have xk02 := (hF5.cell (p := ⟨w.heap.size, 2, none⟩) hq0).trans k02
        have xk10 := (hF5.cell (p := ⟨w.heap.size + 1, 0, none⟩) hq1).trans k10
        have xk11 := (hF5.cell (p := ⟨w.heap.size + 1, 1, none⟩) hq1).trans k11
        have xk20 := (hF5.cell (p := ⟨w.heap.size + 2, 0, none⟩) hq2).trans k20
        have xk21 := (hF5.cell (p := ⟨w.heap.size + 2, 1, none⟩) hq2).trans k21
        go_wp2_with fail
        go_loopw [11] (fun i w' => ∃ (k : Nat) (x : Value), k ≤ n ∧ i = .int .i64 k ∧ Bex D w5 w' ∧ Two2 w' D (.slice A0 (rowsOf (shr P a n) t n).length c0) x ∧ LOwn w5.heap.size w' x (rowsOf L t k)) (fun i _ => n - (intOf i).toNat)
        case atStart => exact ⟨0, _, Nat.zero_le _, rfl, Bex.refl _ _, hTw5, LOwn.none _ _⟩
        case round =>
          obtain ⟨k, x, hk, rfl, hBi, hTi, hLi⟩ := hrel
          rename World => W2
          have hF2 := hF5.trans (hBi.below (by omega))
          have hsz2 := hBi.size
          by_cases hlt : k < n
          · have hkN : (k : Int) < n := by omega
            have HNX := Lib.hid (rowsOf_next L t k)
            have yk00 := (hF2.cell (p := ⟨w.heap.size, 0, none⟩) hq0).trans k00
            have yk01 := (hF2.cell (p := ⟨w.heap.size, 1, none⟩) hq0).trans k01
            have yk02 := (hF2.cell (p := ⟨w.heap.size, 2, none⟩) hq0).trans k02
            have yk10 := (hF2.cell (p := ⟨w.heap.size + 1, 0, none⟩) hq1).trans k10
            have yk11 := (hF2.cell (p := ⟨w.heap.size + 1, 1, none⟩) hq1).trans k11
            have yk20 := (hF2.cell (p := ⟨w.heap.size + 2, 0, none⟩) hq2).trans k20
            have yk21 := (hF2.cell (p := ⟨w.heap.size + 2, 1, none⟩) hq2).trans k21
            obtain ⟨b, off, y, hA5, hbl, hyk, hcy⟩ := (s5.ex0 hBi hTw5).at_ (k := k) (by omega)
            subst hA5
            have hco := co_at hyk
            rw [hco] at HNX
            have hcD := hTi.c1
            go_upto_region 18 with (at_make; refine wpList_make_full _ rfl _ _ 23 rfl W2.heap.size 22 i1 (.int .u64 0) 1 Try.underlying23 hi1 hx0 hx1 .i64 .i64 _ _ (t + 1) rfl rfl (by omega) (by omega) hB8.out (by simp only [maxLen]; omega) (Nat.le_refl _) ?_; intro w3 hown3 hgrow3; have hb3 : Below W2.heap.size W2 w3 := (Below.refl _ W2).grown hgrow3 (Nat.le_refl _) (fun k e => by cases e); simp only [Value.cells, toList_madeCells_one, Nat.mul_one] at hown3; have hO3 : OwnAt w3 W2.heap.size W2.heap.size (t + 1) (t + 1) (List.replicate (t + 1) 0) := (by unfold OwnAt; simpa using hown3); have hcell3 := hO3.cell (i := 0) (x := 0) (by simp); have hfz3 := hO3.frozen 0; have hcy3 := (hb3.cell (p := ⟨b, off + k, none⟩) hbl).trans hcy; have hput := Lib.hid (hO3.put 0 y); have hB3 := Lib.hid (hb3.setCell (p := ⟨W2.heap.size, 0, none⟩) (Nat.le_refl _) (.int .u64 y)); clear hown3 hgrow3 hO3)
            obtain ⟨wr, hwr⟩ : ∃ wr, wr = w3.setCell ⟨W2.heap.size, 0, none⟩ (.int .u64 y) := ⟨_, rfl⟩
            rw [← hwr] at hput hB3 ⊢
            have hrow : wr.ownsRow W2.heap.size 22 1 (.slice (some ⟨W2.heap.size, 0, none⟩) (t + 1) (t + 1)) (t + 1) ((conR y t).map (Value.int .u64)) := hput.out
            have hB2 := hB3.out
            have hsz3 := hB2.size
            have hlen : (conR y t).length = t + 1 := conR_len y t
            clear hwr hput hB3 hb3 hcy3 hcell3 hfz3 hcD
            obtain ⟨lit, hlit⟩ : ∃ o : Obj, o = .cells #[.slice (some ⟨W2.heap.size, 0, none⟩) (t + 1) (t + 1)] 23 := ⟨_, rfl⟩
            have hbl4 : Below wr.heap.size wr (wr.alloc lit) := (Below.refl _ wr).alloc (Nat.le_refl _) lit
            have hs3 := (Sl.of_own hrow).next hbl4
            have ht3 := (Ty.of_own hrow).next hbl4
            have hTr := hTi.next hB2
            have hT4 := hTr.next hbl4
            have hBr := (hBi.next hB2).next hbl4
            obtain ⟨vs, h1', h2'⟩ := (hLi.next hB2).next hbl4
            have hxl := World.ownsRow.lt h1'
            have hadd := fun (v' : Value) (w2 : World) (hown) (hg) => LOwn.add (v' := v') (w2 := w2) h1' h2' hs3 ht3 hown hg
            have hADD := Lib.hid hadd
            have hcD := hTr.c1
            have hszr : W2.heap.size < wr.heap.size := (World.ownsRow.lt hrow _ rfl).2
            clear hadd h2' hs3 ht3 hrow
            rw [rowsOf_len] at h1'
            rw [hlit] at h1' hT4 hBr hADD
            clear hlit hbl4
            go_wp2_with (at_builtin; refine wpList_append_own _ rfl _ _ 57 rfl w5.heap.size 23 j0 (.slice none 0 0) 1 24 Try.underlying57 hj hy0 hy1 hy2 rfl (by decide) _ _ _ rfl h1' ⟨wr.heap.size, 0, none⟩ 1 1 [.slice (some ⟨W2.heap.size, 0, none⟩) (t + 1) (t + 1)] rfl rfl (cell_one_new _ _ _) (by simp [Value.oneCell']) (by simp only [maxLen]; omega) (by omega) (by simp; omega) ?_; intro v' w7 hown' hgrow _; obtain ⟨A6, c6, hv6⟩ := row_form11 hown'; subst hv6; have hT7 := hT4.grown hgrow (fun e => by have := (hxl _ e).1; omega); have hcD7 := hT7.c1; have hfD7 := World.ownsRow.frozenAt hT7 1)
            have hLL7 := hADD.out (.slice A6 (k + 1) c6) w7 (by rw [hlen, rowsOf_len]; exact hown') hgrow
            rw [← HNX.out] at hLL7
            have hB7 := hBr.grown hgrow (fun q e => .inl (hxl q e).1)
            have hpt := hT7.put (.slice A6 (k + 1) c6)
            have hB8' : Bex D w5 (w7.setCell ⟨D, 1, none⟩ (.slice A6 (k + 1) c6)) := hB7.grown hpt.2.2.2 (fun q e => .inr (by injection e with e; exact e.symm))
            have hL8 : LOwn w5.heap.size (w7.setCell ⟨D, 1, none⟩ (.slice A6 (k + 1) c6)) (.slice A6 (k + 1) c6) (rowsOf L t (k + 1)) := hLL7.ex ((Bex.refl D w7).grown hpt.2.2.2 (fun q e => .inr (by injection e with e; exact e.symm))) hT7
            go_roundw
            case rel => exact ⟨k + 1, _, by omega, by simp, hB8', hpt.2.1, hL8⟩
            case measure => simp [intOf]; omega
          · obtain rfl : k = n := by omega
            have hBf := hBx5.trans hBi
            have yk00 := (hF2.cell (p := ⟨w.heap.size, 0, none⟩) hq0).trans k00
            have yk01 := (hF2.cell (p := ⟨w.heap.size, 1, none⟩) hq0).trans k01
            have yk02 := (hF2.cell (p := ⟨w.heap.size, 2, none⟩) hq0).trans k02
            have yk10 := (hF2.cell (p := ⟨w.heap.size + 1, 0, none⟩) hq1).trans k10
            have yk11 := (hF2.cell (p := ⟨w.heap.size + 1, 1, none⟩) hq1).trans k11
            have yk20 := (hF2.cell (p := ⟨w.heap.size + 2, 0, none⟩) hq2).trans k20
            have yk21 := (hF2.cell (p := ⟨w.heap.size + 2, 1, none⟩) hq2).trans k21
            have hfin : Filled D W2 2 (.slice A0 (rowsOf (shr P a k) t k).length c0) x (rowsOf (shr P a k) t k) (rowsOf L t k) := ⟨fun h => absurd h (by decide), fun h => absurd h (by decide), fun _ => ⟨hLu5.ex hBi hTw5, hLi.base (by omega)⟩⟩
            clear hLi
            go_wp2_with fail
            go_roundw
            case rel => exact ⟨2, _, _, by omega, by simp, hBf, hTi, by rw [← hLL] at hfin; exact hfin⟩
            case measure => simp [intOf]
    obtain rfl : m = 2 := by omega
    obtain ⟨hLu, hLv⟩ := hSt.2.2 rfl
    obtain ⟨A0, c0, hu, sU⟩ := hLu.form
    obtain ⟨A1, c1, hv, sV⟩ := hLv.form
    rw [rowsOf_len] at hu hv
    subst hu
    subst hv
    have hMa := rowsOf_msh (p := P) (by omega) (shr_el (p := P) (by omega) a n) t n
    have hMb := rowsOf_msh (p := P) (by omega) (shr_el (p := P) (by omega) b n) t n
    have hla := rowsOf_len (shr P a n) t n
    have hlb := rowsOf_len (shr P b n) t n
    have hZ : Hid (∀ i, i < n → co (ro (sc3 P k0 (rowsOf (shr P a n) t n) (rowsOf (shr P b n) t n) k1 t n) i) 0 = pev P (comb P k0 a b k1) ((i : Int) + 1)) := Lib.hid fun i hi => sc3_pev P k0 a b hK1 t hi
    obtain ⟨hGe, hGl⟩ := comb_ok (p := P) (by omega) k0 a b k1 H1.out H2.out
    have hG0 := comb_zero (p := P) (k := k0) (by omega) hK1 ha hb
    have hcD0 := hTw.c0
    have hcD1 := hTw.c1
    have hltD := hTw.lt
    have hqx0 : w.heap.size < W0.heap.size := by omega
    have hqx1 : w.heap.size + 1 < W0.heap.size := by omega
    have hqx2 : w.heap.size + 2 < W0.heap.size := by omega
    clear hSt hLu hLv hBx hTw hT0
    generalize comb P k0 a b k1 = G at *
    generalize rowsOf (shr P a n) t n = ra at *
    generalize rowsOf (shr P b n) t n = rb at *
    have xk00 := (hF0.cell (p := ⟨w.heap.size, 0, none⟩) hq0).trans k00
    have xk01 := (hF0.cell (p := ⟨w.heap.size, 1, none⟩) hq0).trans k01
    have xk02 := (hF0.cell (p := ⟨w.heap.size, 2, none⟩) hq0).trans k02
    have xk10 := (hF0.cell (p := ⟨w.heap.size + 1, 0, none⟩) hq1).trans k10
    have xk11 := (hF0.cell (p := ⟨w.heap.size + 1, 1, none⟩) hq1).trans k11
    have xk20 := (hF0.cell (p := ⟨w.heap.size + 2, 0, none⟩) hq2).trans k20
    have xk21 := (hF0.cell (p := ⟨w.heap.size + 2, 1, none⟩) hq2).trans k21
    have hsc : ∀ W, Sll W A0 c0 ra → Calls Try.prog 35 #[.int .u64 P, .int .u64 k0, .slice A0 n c0] W fun e w' => Rows2 W e w' n (sc1 P k0 ra t n) := fun W h => scale_mat P k0 hp hK0 (t + 1) n (by omega) (by omega) A0 c0 ra hMa hla W h
    have had : ∀ W A2 c2, Sll W A2 c2 (sc1 P k0 ra t n) → Sll W A1 c1 rb → Calls Try.prog 31 #[.int .u64 P, .slice A2 n c2, .slice A1 n c1] W fun e w' => Rows2 W e w' n (sc2 P k0 ra rb t n) := fun W A2 c2 h1 h2 => add_mat P hp (t + 1) n (by omega) (by omega) A2 A1 c2 c1 _ rb (sc1_msh (by omega) k0 ra t n) hMb (by unfold sc1; simp) hlb W h1 h2
    have hcn : ∀ W, Calls Try.prog 37 #[.agg #[.int .u64 P, .int .i64 n, .int .i64 t], .int .u64 k1] W fun e w' => Rows2 W e w' n ((List.range n).map fun _ => conR k1 t) := fun W => const_mat P k1 n t (by omega) (by omega) W
    have hsb : ∀ W A3 c3 A4 c4, Sll W A3 c3 (sc2 P k0 ra rb t n) → Sll W A4 c4 ((List.range n).map fun _ => conR k1 t) → Calls Try.prog 33 #[.int .u64 P, .slice A3 n c3, .slice A4 n c4] W fun e w' => Rows2 W e w' n (sc3 P k0 ra rb k1 t n) := fun W A3 c3 A4 c4 h1 h2 => sub_mat P hp (t + 1) n (by omega) (by omega) A3 A4 c3 c4 _ _ (sc2_msh (by omega) k0 ra rb t n) (con_msh hK1 t n) (by unfold sc2; simp) (by simp) W h1 h2
    unfold Rows2 at hsc had hcn hsb
    generalize sc3 P k0 ra rb k1 t n = Z at *
    generalize sc2 P k0 ra rb t n = R2 at *
    generalize sc1 P k0 ra t n = R1 at *
    generalize (List.range n).map (fun _ => conR k1 t) = R3 at *
    have hdr : Below W0.heap.size W0 W0.drew := (Below.refl _ W0).drew
    go_wp2_with fail
    go_region_held3 (fun w' => w'.cell? ⟨w.heap.size, 0, none⟩ = some (.int .u64 P) ∧ w'.cell? ⟨w.heap.size, 1, none⟩ = some (.int .i64 n) ∧ w'.cell? ⟨w.heap.size, 2, none⟩ = some (.int .i64 t) ∧ w'.cell? ⟨w.heap.size + 2, 0, none⟩ = some (.int .u64 k0) ∧ w'.cell? ⟨w.heap.size + 2, 1, none⟩ = some (.int .u64 k1) ∧ w'.cell? ⟨D, 0, none⟩ = some (.slice A0 n c0) ∧ w'.cell? ⟨D, 1, none⟩ = some (.slice A1 n c1))
      (refine ⟨?_, ?_, ?_, ?_, ?_, ?_, ?_⟩ <;> assumption)
      (first
        | (go_at_call 35; (with_reducible refine (hsc _ (sU.next hdr)).mono ?_); rintro e w5 ⟨A2, c2, rfl, l2, s2, hb5⟩; have hB5 := hdr.trans (hb5.mono hdr.size); have sV5 := sV.next hB5; have ek00 := (hB5.cell (p := ⟨w.heap.size, 0, none⟩) hqx0).trans xk00; have ek01 := (hB5.cell (p := ⟨w.heap.size, 1, none⟩) hqx0).trans xk01; have ek02 := (hB5.cell (p := ⟨w.heap.size, 2, none⟩) hqx0).trans xk02; have ek20 := (hB5.cell (p := ⟨w.heap.size + 2, 0, none⟩) hqx2).trans xk20; have ek21 := (hB5.cell (p := ⟨w.heap.size + 2, 1, none⟩) hqx2).trans xk21; have ehcD0 := (hB5.cell (p := ⟨D, 0, none⟩) hltD).trans hcD0; have ehcD1 := (hB5.cell (p := ⟨D, 1, none⟩) hltD).trans hcD1; clear hb5 hsc)
        | (go_at_call 31; (with_reducible refine (had _ A2 c2 s2 sV5).mono ?_); rintro e w6 ⟨A3, c3, rfl, l3, s3, hb5⟩; have hB6 := hB5.trans (hb5.mono hB5.size); have fk00 := (hB6.cell (p := ⟨w.heap.size, 0, none⟩) hqx0).trans xk00; have fk01 := (hB6.cell (p := ⟨w.heap.size, 1, none⟩) hqx0).trans xk01; have fk02 := (hB6.cell (p := ⟨w.heap.size, 2, none⟩) hqx0).trans xk02; have fk20 := (hB6.cell (p := ⟨w.heap.size + 2, 0, none⟩) hqx2).trans xk20; have fk21 := (hB6.cell (p := ⟨w.heap.size + 2, 1, none⟩) hqx2).trans xk21; have fhcD0 := (hB6.cell (p := ⟨D, 0, none⟩) hltD).trans hcD0; have fhcD1 := (hB6.cell (p := ⟨D, 1, none⟩) hltD).trans hcD1; clear hb5 had)
        | (go_at_call 37; (with_reducible refine (hcn _).mono ?_); rintro e w7 ⟨A4, c4, rfl, l4, s4, hb5⟩; have hB7 := hB6.trans (hb5.mono hB6.size); have s37 := s3.next hb5; have gk00 := (hB7.cell (p := ⟨w.heap.size, 0, none⟩) hqx0).trans xk00; have gk01 := (hB7.cell (p := ⟨w.heap.size, 1, none⟩) hqx0).trans xk01; have gk02 := (hB7.cell (p := ⟨w.heap.size, 2, none⟩) hqx0).trans xk02; have gk20 := (hB7.cell (p := ⟨w.heap.size + 2, 0, none⟩) hqx2).trans xk20; have gk21 := (hB7.cell (p := ⟨w.heap.size + 2, 1, none⟩) hqx2).trans xk21; have ghcD0 := (hB7.cell (p := ⟨D, 0, none⟩) hltD).trans hcD0; have ghcD1 := (hB7.cell (p := ⟨D, 1, none⟩) hltD).trans hcD1; clear hb5 hcn)
        | (go_at_call 33; (with_reducible refine (hsb _ A3 c3 A4 c4 s37 s4).mono ?_); rintro e w8 ⟨A5, c5, rfl, l5, s5, hb5⟩; have hB8x := hB7.trans (hb5.mono hB7.size); have hk00 := (hB8x.cell (p := ⟨w.heap.size, 0, none⟩) hqx0).trans xk00; have hk01 := (hB8x.cell (p := ⟨w.heap.size, 1, none⟩) hqx0).trans xk01; have hk02 := (hB8x.cell (p := ⟨w.heap.size, 2, none⟩) hqx0).trans xk02; have hk20 := (hB8x.cell (p := ⟨w.heap.size + 2, 0, none⟩) hqx2).trans xk20; have hk21 := (hB8x.cell (p := ⟨w.heap.size + 2, 1, none⟩) hqx2).trans xk21; have hhcD0 := (hB8x.cell (p := ⟨D, 0, none⟩) hltD).trans hcD0; have hhcD1 := (hB8x.cell (p := ⟨D, 1, none⟩) hltD).trans hcD1; clear hb5 hsb))
    all_goals
      have hF8 := hF0.trans (hB8x.mono (by omega))
      have hsz8 := hB8x.size
      clear ek00 ek01 ek02 ek20 ek21 fk00 fk01 fk02 fk20 fk21 gk00 gk01 gk02 gk20 gk21 hk00 hk01 hk02 hk20 hk21 ehcD0 ehcD1 fhcD0 fhcD1 ghcD0 ghcD1 hhcD0 hhcD1 xk00 xk01 xk02 xk10 xk11 xk20 xk21
      clear hB5 hB6 hB7 hB8x hcD0 hcD1 hdr s2 s3 s37 s4 sV5 l2 l3 l4
      have xk00 := (hF8.cell (p := ⟨w.heap.size, 0, none⟩) hq0).trans k00
      have xk01 := (hF8.cell (p := ⟨w.heap.size, 1, none⟩) hq0).trans k01
      have xk02 := (hF8.cell (p := ⟨w.heap.size, 2, none⟩) hq0).trans k02
      have xk10 := (hF8.cell (p := ⟨w.heap.size + 1, 0, none⟩) hq1).trans k10
      have xk11 := (hF8.cell (p := ⟨w.heap.size + 1, 1, none⟩) hq1).trans k11
      have xk20 := (hF8.cell (p := ⟨w.heap.size + 2, 0, none⟩) hq2).trans k20
      have xk21 := (hF8.cell (p := ⟨w.heap.size + 2, 1, none⟩) hq2).trans k21
      obtain ⟨lit, hlit⟩ : ∃ o : Obj, o = .cells #[.slice A5 n c5] 57 := ⟨_, rfl⟩
      have hbl : Below w8.heap.size w8 (w8.alloc lit) := (Below.refl _ w8).alloc (Nat.le_refl _) lit
      have hF8b := hF8.trans (hbl.mono (by omega))
      have s3l := S3.lit1 w8 s5 l5
      rw [hlit] at hbl hF8b
      have hszl := hbl.size
      clear hlit hbl
      go_wp2_with fail
      with_reducible refine (local_mat 1 n (by omega) (by omega) (by omega) _ 1 [Z] rfl _ s3l).mono ?_
      rintro e wA ⟨A6, c6, rfl, l6, s6, hbA⟩
      have hF9 := hF8b.trans (hbA.mono (by omega))
      have hszA := hbA.size
      clear s3l hbA hF8b
      clear xk00 xk01 xk02 xk10 xk11 xk20 xk21
      have xk00 := (hF9.cell (p := ⟨w.heap.size, 0, none⟩) hq0).trans k00
      have xk01 := (hF9.cell (p := ⟨w.heap.size, 1, none⟩) hq0).trans k01
      have xk02 := (hF9.cell (p := ⟨w.heap.size, 2, none⟩) hq0).trans k02
      have xk10 := (hF9.cell (p := ⟨w.heap.size + 1, 0, none⟩) hq1).trans k10
      have xk11 := (hF9.cell (p := ⟨w.heap.size + 1, 1, none⟩) hq1).trans k11
      have xk20 := (hF9.cell (p := ⟨w.heap.size + 2, 0, none⟩) hq2).trans k20
      have xk21 := (hF9.cell (p := ⟨w.heap.size + 2, 1, none⟩) hq2).trans k21
      go_wp2_with fail
      go_loopw [15, 16] (fun v i wr => ∃ k : Nat, k ≤ n ∧ i = .int .i64 k ∧ wr.ownsRow wA.heap.size 34 2 v k (pcells (held P G (ups k))) ∧ Below wA.heap.size wA wr) (fun _ i _ => n - (intOf i).toNat)
      case atStart => exact ⟨0, Nat.zero_le _, rfl, World.ownsRow_nil _ _ _ _, Below.refl _ _⟩
      case round =>
        obtain ⟨k, hk, rfl, hrow, hBr⟩ := hrel
        have hF3 := hF9.trans (hBr.mono (by omega))
        have hszr := hBr.size
        have yk00 := (hF3.cell (p := ⟨w.heap.size, 0, none⟩) hq0).trans k00
        have yk01 := (hF3.cell (p := ⟨w.heap.size, 1, none⟩) hq0).trans k01
        have yk02 := (hF3.cell (p := ⟨w.heap.size, 2, none⟩) hq0).trans k02
        have yk10 := (hF3.cell (p := ⟨w.heap.size + 1, 0, none⟩) hq1).trans k10
        have yk11 := (hF3.cell (p := ⟨w.heap.size + 1, 1, none⟩) hq1).trans k11
        have yk20 := (hF3.cell (p := ⟨w.heap.size + 2, 0, none⟩) hq2).trans k20
        have yk21 := (hF3.cell (p := ⟨w.heap.size + 2, 1, none⟩) hq2).trans k21
        by_cases hlt : k < n
        · obtain ⟨b1, o1, r, A7, c7, hA6, hb1, hrk, hcr, hsr⟩ := (s6.next hBr).at_ (k := k) (by rw [l6]; omega)
          have hr : r = [pev P G ((k : Int) + 1)] := by
            rw [List.getElem?_map, List.getElem?_range hlt] at hrk
            injection hrk with hrk
            rw [← hrk, locR_one, hZ.out k hlt]
          subst hr
          obtain ⟨b2, o2, y, hA7, hb2, hyk, hcy⟩ := hsr.at_ (k := 0) (by simp)
          have hy : y = pev P G ((k : Int) + 1) := by simp at hyk; exact hyk.symm
          have hcr1 : wr.cell? ⟨b1, o1 + k, none⟩ = some (.slice A7 1 c7) := by subst hA6; exact hcr
          have hcy1 : wr.cell? ⟨b2, o2, none⟩ = some (.int .u64 y) := hcy
          have hSN : Hid (pcells (held P G (ups (k + 1))) = pcells (held P G (ups k)) ++ [.int .u64 ((k : Int) + 1), .int .u64 y]) := Lib.hid (by rw [hy, held_ups]; exact pcells_snoc _ ((k : Int) + 1, pev P G ((k : Int) + 1)))
          have hkN : (k : Int) < n := by omega
          have wk : IntKind.u64.wrap ((k : Int) + 1) = (k : Int) + 1 := IntWalk.u64_in _ (by omega)
          have hROW := Lib.hid hrow
          subst hA6
          subst hA7
          clear hcr hcy hy hyk hrk hsr hrow
          go_wp2_with (at_builtin; refine wpList_append_own _ rfl _ _ 31 rfl wA.heap.size 34 i0 _ 2 16 Try.underlying31 hi hz0 hz1 hz2 rfl (by decide) _ _ _ rfl (hROW.out.alloc _) ⟨wr.heap.size, 0, none⟩ 1 1 [.int .u64 ((k : Int) + 1), .int .u64 y] rfl rfl (World.news_of_block (cs := #[.int .u64 ((k : Int) + 1), .int .u64 y]) (t := 34) (fr := (0, 0)) (World.alloc_heap_new wr _)) (by simp [Value.oneCell']) (by simp only [maxLen]; omega) (by omega) (by simp; omega) ?_; intro v' w12 hown12 hgrow _; have hB12 : Below wA.heap.size wA w12 := (hBr.alloc hszr _).grown hgrow (by simp; omega) (fun k e => (World.ownsRow.lt hROW.out k e).1))
          go_roundw
          case rel => exact ⟨k + 1, by omega, by simp, by rw [hSN.out]; exact hown12, hB12⟩
          case measure => simp [intOf]; omega
        · obtain rfl : k = n := by omega
          obtain ⟨A8, c8, hv, hs8⟩ := pown_form hrow
          rw [held_len, ups_len] at hv
          subst hv
          have hrec := rec_held P hp A8 c8 t G (ups k) hGe hGl (ups_el h73) (ups_nd k) (ups_zero k) (few_held P G hn13) (by rw [ups_len]; omega) wr hs8
          rw [ups_len] at hrec
          clear hrow hs8
          go_wp2_with fail
          with_reducible refine hrec.mono ?_
          rintro e w13 ⟨rfl, hb13⟩
          have hF13 := hF3.trans (hb13.mono (by omega))
          clear hrec hb13
          clear yk00 yk01 yk02 yk10 yk11 yk20 yk21
          have zk00 := (hF13.cell (p := ⟨w.heap.size, 0, none⟩) hq0).trans k00
          have zk01 := (hF13.cell (p := ⟨w.heap.size, 1, none⟩) hq0).trans k01
          have zk02 := (hF13.cell (p := ⟨w.heap.size, 2, none⟩) hq0).trans k02
          have zk10 := (hF13.cell (p := ⟨w.heap.size + 1, 0, none⟩) hq1).trans k10
          have zk11 := (hF13.cell (p := ⟨w.heap.size + 1, 1, none⟩) hq1).trans k11
          have zk20 := (hF13.cell (p := ⟨w.heap.size + 2, 0, none⟩) hq2).trans k20
          have zk21 := (hF13.cell (p := ⟨w.heap.size + 2, 1, none⟩) hq2).trans k21
          obtain ⟨b3, o3, a0, hAA, hb3, hak, hca⟩ := (sa.next (by rw [← hDI.out]; exact hF13)).at_ (k := 0) (by rw [H1.out]; omega)
          obtain ⟨b4, o4, d0, hBB, hb4, hbk, hcb⟩ := (sb.next (by rw [← hDI.out]; exact hF13)).at_ (k := 0) (by rw [H2.out]; omega)
          have hab := ha a0 (List.mem_of_getElem? hak)
          have hbb := hb d0 (List.mem_of_getElem? hbk)
          rw [co_at hak, co_at hbk] at hG0
          subst hAA
          subst hBB
          rw [Nat.add_zero] at hca hcb
          have hm1 := fmul_bd P k0 a0 (by omega)
          have hm2 := fadd_bd P (fmul P k0 a0) d0 (by omega)
          have hBF := hB.trans (hF13.mono (by omega))
          rw [hG0]
          clear hak hbk hG0
          go_wp2_with fail
          go_quiet (first | (go_at_call 43; exact quiet_left (mul_any _ _ _ hp hK0.1 hK0.2 hab.1 hab.2 _)) | (go_at_call 26; exact quiet_left (add_any _ _ _ hp hm1.1 hm1.2 hbb.1 hbb.2 _)) | (go_at_call 42; exact quiet_left (sub_any _ _ _ hp hm2.1 hm2.2 hK1.1 hK1.2 _)))
          go_wp2
          go_ret
          exact ⟨rfl, below_drewN hBF _⟩

theorem lifted (os : Os) (started : os.Started) (H : Type) (enc : TypeId × Value → H) :
    ReturnsInHanded {} Try.checked os 10 .any (Rows.shamirIsLinearSpec.pre6 enc Try.prog Try.f10 Rows.shamirIsLinearRow.domain false) (Rows.shamirIsLinearSpec.post enc Try.prog Try.f10 false true false false) := by
  refine returnsInHanded_of_change (C := Try.checked) own started (by kernel_rfl) Try.func10
    (ChangeSpec.witness6 (enc := enc) (C := Try.checked) false ⟨#[], #[.agg #[.int .u64 0, .int .i64 0, .int .i64 0], .agg #[.slice none 0 0, .slice none 0 0], .agg #[.int .u64 0, .int .u64 0]], []⟩ 8 (by kernel_rfl) (by kernel_rfl) (by kernel_rfl) (by kernel_rfl)) ?_
  intro W base args ds gs before hval0 hW hcnd _
  have hval : ∀ (j : Nat) t v, Try.f10.params[j]? = some t → args[j]? = some v → Value.okWide Try.prog W .any base t v := hval0
  have hW' := hW
  obtain ⟨p, q, hA0, hV, rfl, hfz, hnd⟩ := hW
  have hA : DataW.TrodAll enc Try.prog W 0 (fun _ => true) true Try.f10.params.toList args.toList ds p := hA0
  rw [Try.params10] at hA hval
  obtain ⟨v0, v1, v2, d0, d1, d2, p0, p1, p2, rfl, rfl, rfl, t0, t1, t2⟩ := trodAll_three hA
  obtain ⟨rfl, rfl⟩ := trodVars_none hV
  clear hA0 hval0
  simp only [List.append_nil] at hW'
  have l0 : ∀ x ∈ p0, x.block < W.heap.size := fun x hx => hW'.lt x (by simp [hx])
  obtain ⟨x0, y0, z0, rfl, b0, e0, f0⟩ := arg_params (hval 0 55 v0 rfl rfl) t0
  have l1 : ∀ x ∈ p1, x.block < W.heap.size := fun x hx => hW'.lt x (by simp [hx])
  obtain ⟨A1, x1, c1, B1, y1, k1, rfl, r1, b1, m1, e1⟩ := arg_s2 (hval 1 70 v1 rfl rfl) t1 l1
  have l2 : ∀ x ∈ p2, x.block < W.heap.size := fun x hx => hW'.lt x (by simp [hx])
  obtain ⟨x2, y2, rfl, b2, e2⟩ := arg_w2 (hval 2 71 v2 rfl rfl) t2
  refine (walk x0 y0 z0 A1 c1 x1 B1 k1 y1 x2 y2 b0 e0 f0 b1 e1 b2 e2 W r1 m1).mono fun e W' ⟨he, hb⟩ => ?_
  subst he
  exact ⟨_, rfl, post_of_below (pa := p0 ++ (p1 ++ p2)) (pv := []) hW' (fun _ _ _ => (trodAll_cons_mk (shut_bool Try.underlying4 _) trodAll_mk0)) (fun sp hsp => trodAll_mk3 (stay_params t0 hb l0 sp (fun x hx => hsp x (by simp [hx]))) (stay_s2 t1 hb l1 sp (fun x hx => hsp x (by simp [hx]))) (stay_w2 t2 hb l2 sp (fun x hx => hsp x (by simp [hx])))) (fun _ _ => rfl) (by simp)
    hb (ok_one (by kernel_rfl) rfl (okWide_bool_mk Try.underlying4 _))⟩

theorem over : Rows.shamirIsLinearRow.holds Try.pinned (OpenSpec.ofChange Rows.shamirIsLinearSpec) :=
  OpenClaim.holds_of_wide 10 Try.f10 rfl rfl rfl rfl rfl rfl rfl ⟨rfl, rfl, rfl, rfl, rfl⟩ rfl rfl rfl rfl rfl (by kernel_rfl) Try.func10 (by kernel_rfl)
    (of_decide_eq_true (by kernel_rfl)) (by unfold Func.isWrapper; first | (rw [if_pos (by decide +kernel)]; kernel_rfl) | (rw [if_neg (by decide +kernel)]; exact ⟨rfl, rfl⟩))
    (fun os started H enc _ => lifted os started H enc)

theorem proved : Rows.ShamirIsLinearSaid := over
end Go.Proofs.Ytddbdjhgmeeakaa.shamirIsLinear
