/- areDistinct, column and pointsOf of package bivariate; nothing that lay is changed. Conditions: at least one word and at most twelve; at most 100 rows or points. -/
import Derived.Test.YtkhiiiggmhncbaaGreatMF
import Derived.Test.YtkhiiiggmhncbaaGreatEMath
import Derived.Test.YtkhiiiggmhncbaaGreatESym
import Derived.Test.YtkhiiiggmhncbaaGreatMC
import Derived.Test.YtkhiiiggmhncbaaGreatERws
namespace Go.Proofs.YtkhiiiggmhncbaaGreat
set_option maxRecDepth 100000
open Go.RowKit PolyMath FieldMath MatMath

theorem areDist_any (A : Option Addr) (c : Nat) (xs : List Int) (h1 : 1 ≤ xs.length) (hn : xs.length ≤ 12 ∨ xs.length = 13 ∧ SortTo xs 13) (w : World) (h : Sl w A c xs) :
    Calls Tryz.prog 17 #[.slice A xs.length c] w fun e w' => e = .returned (.bool (decide xs.Nodup)) ∧ Below w.heap.size w w' := by
  have hB0 : Below w.heap.size w (w.alloc (.cells #[.slice A xs.length c] 23)) := (Below.refl _ w).alloc (Nat.le_refl _) _
  have hso := sorted_any w.heap.size c A xs h1 hn w h _ hB0 (Boxed.new w 23 (.slice A xs.length c))
  have hn2 : xs.length ≤ 1000 := by omega
  have hco := fun base g cap zs W hb hO => compact_any base g xs.length cap zs hn2 W hb hO
  clear hn
  have HL := Lib.hid hn2
  obtain ⟨N, hN⟩ : ∃ N, N = xs.length := ⟨_, rfl⟩
  rw [← hN] at hso hco h1 hB0 ⊢
  have HN := Lib.hid hN
  clear hN hn2
  go_enter Tryz.func17, Tryz.ntmps17
  go_wp2_with fail
  refine (values_any A N c w).mono ?_
  rintro e w1 ⟨rfl, rfl⟩
  go_wp2_with fail
  refine hso.mono ?_
  rintro e w2 ⟨g, cap, zs, rfl, hP, hS, hO, hB2⟩
  have hb2 := hB2.size
  go_wp2_with fail
  refine (hco _ g cap zs w2 hb2 hO).mono ?_
  rintro e w3 ⟨⟨m, rfl, hm, hiff⟩, hB3⟩
  have e1 : xs.Nodup ↔ m = N := (hP.nodup_iff.symm.trans (sort_nodup (hP.length_eq.trans HN.out.symm) hS).symm).trans hiff.symm
  have hE : Hid (((m : Int) == (N : Int)) = decide xs.Nodup) := Lib.hid (by
    by_cases hm' : m = N
    · rw [decide_eq_true (e1.2 hm'), hm', beq_self_eq_true]
    · rw [decide_eq_false fun h => hm' (e1.1 h)]
      exact beq_eq_false_iff_ne.2 (by omega))
  have hB4 : Below w.heap.size w w3 := hB0.trans ((hB2.trans hB3).mono (by simp))
  clear hiff hO hP hS e1
  go_wp2
  go_ret
  exact ⟨by rw [← hE.out]; rfl, hB4⟩

/-- The words with index j. -/
def colT (rows : List (List Int)) (n j : Nat) : List Int := (List.range n).map fun i => mx rows i j
set_option maxHeartbeats 1000000 in
theorem column_any (A : Option Addr) (c N j : Nat) (rows : List (List Int)) (hl : rows.length = N) (hN : N ≤ 100) (w : World) (h : Sll w A c rows) :
    Calls Tryz.prog 42 #[.slice A N c, .int .i64 j] w fun e w' => ∃ g, e = .returned (.slice (some ⟨g, 0, none⟩) N N) ∧ OwnAt w' w.heap.size g N N (colT rows N j) ∧ Below w.heap.size w w' := by
  obtain ⟨i0, hi, hz0, hz1, hz2⟩ := info_parts info_u64
  have HL := Lib.hid hl
  have hD : Hid (fillL (fun i => mx rows i j) N N = colT rows N j) := Lib.hid (fillL_done _ _)
  have hB8 : Hid (i0.bytes * N ≤ 281474976710656) := Lib.hid (by rw [hz2]; omega)
  clear hl
  go_enter Tryz.func42, Tryz.ntmps42
  go_wp2_with (at_make; refine wpList_make_full _ rfl _ _ 23 rfl w.heap.size 22 i0 (.int .u64 0) 1 Tryz.underlying23 hi hz0 hz1 .i64 .i64 _ _ N rfl rfl (by omega) (by omega) hB8.out (by simp only [maxLen]; omega) (Nat.le_refl _) ?_; intro w1 hown1 hgrow1)
  have hb1 : Below w.heap.size w w1 := (Below.refl _ w).grown hgrow1 (Nat.le_refl _) (fun k e => by cases e)
  simp only [Value.cells, toList_madeCells_one, Nat.mul_one] at hown1
  have hown2 : OwnAt w1 w.heap.size w.heap.size N N (fillL (fun i => mx rows i j) N 0) := by
    unfold OwnAt; rw [fillL_start]; simpa using hown1
  clear hown1 hgrow1
  go_loopw [13] (fun i wr => ∃ k : Nat, k ≤ N ∧ i = .int .i64 k ∧ OwnAt wr w.heap.size w.heap.size N N (fillL (fun i => mx rows i j) N k) ∧ Below w.heap.size w wr) (fun i _ => N - (intOf i).toNat)
  case atStart => exact ⟨0, Nat.zero_le _, rfl, hown2, hb1⟩
  case round =>
    obtain ⟨k, hk, rfl, hO, hB⟩ := hrel
    by_cases hlt : k < N
    · have hkN : (k : Int) < N := by omega
      obtain ⟨b, off, A', c', hA, hbl, hc, hs⟩ := h.rowAt (i := k) (by rw [HL.out]; exact hlt) rfl
      subst hA
      have hcw := (hB.cell (p := ⟨b, off + k, none⟩) hbl).trans hc
      have hS := Lib.hid (fillL_set (fun i => mx rows i j) N k)
      have hget := hO.cell (fillL_get (fun i => mx rows i j) N k k hlt)
      have hfz := hO.frozen k
      have hcf := coef_any A' c' (ro rows k) j wr (hs.next hB)
      rw [coI_nat] at hcf
      have hput := Lib.hid (hO.put k (mx rows k j))
      have hBn := Lib.hid (hB.setCell (p := ⟨w.heap.size, k, none⟩) (Nat.le_refl _) (.int .u64 (mx rows k j)))
      have hM : Hid (co (ro rows k) j = mx rows k j) := Lib.hid rfl
      rw [hM.out] at hcf
      clear hO hB hs hc
      go_wp2_with (go_at_call 33; refine hcf.mono ?_; rintro e w' ⟨rfl, rfl⟩)
      go_roundw
      case rel => exact ⟨k + 1, by omega, by simp, by rw [← hS.out]; exact hput.out, hBn.out⟩
      case measure => simp [intOf]; omega
    · obtain rfl : k = N := by omega
      rw [hD.out] at hO
      have HO := Lib.hid hO
      clear hO
      go_wp2
      go_ret
      exact ⟨_, rfl, HO.out, hB⟩

theorem pcells_set : ∀ (ps : List (Int × Int)) (k : Nat) (q : Int × Int), k < ps.length → ((pcells ps).set (k * 2) (.int .u64 q.1)).set (k * 2 + 1) (.int .u64 q.2) = pcells (ps.set k q)
  | _ :: _, 0, _, _ => rfl
  | r :: ps, k + 1, q, h => by
    rw [show (k + 1) * 2 = k * 2 + 1 + 1 from by omega, pcells, List.set_cons_succ, List.set_cons_succ, List.set_cons_succ, List.set_cons_succ, List.set_cons_succ, pcells, pcells_set ps k q (by simpa using h)]
theorem pcells_zero : ∀ n : Nat, pcells (List.replicate n (0, 0)) = List.replicate (n * 2) (.int .u64 0)
  | 0 => rfl
  | n + 1 => by rw [List.replicate_succ, pcells, pcells_zero n, show (n + 1) * 2 = n * 2 + 1 + 1 from by omega, List.replicate_succ, List.replicate_succ]
theorem madeP (n : Nat) : (madeCells #[Value.int .u64 0, Value.int .u64 0] (n * 2)).toList = pcells (List.replicate n (0, 0)) := by
  rw [pcells_zero]
  unfold madeCells
  apply List.ext_getElem (by simp)
  intro i h1 h2
  simp
  rcases Nat.mod_two_eq_zero_or_one i with e | e <;> simp [e]
/-- The first k of N points, the others 0. -/
def ptK (xs ys : List Int) (N k : Nat) : List (Int × Int) := (List.range N).map fun i => if i < k then (co xs i, co ys i) else (0, 0)
theorem ptK_len (xs ys : List Int) (N k : Nat) : (ptK xs ys N k).length = N := by unfold ptK; simp
theorem ptK_start (xs ys : List Int) (N : Nat) : ptK xs ys N 0 = List.replicate N (0, 0) := by
  unfold ptK
  simp [List.map_const']
theorem ptK_next (xs ys : List Int) {N k : Nat} (h : k < N) : (ptK xs ys N k).set k (co xs k, co ys k) = ptK xs ys N (k + 1) := by
  apply List.ext_getElem?
  intro i
  unfold ptK
  by_cases hi : i < N
  · by_cases e : i = k
    · subst e
      rw [List.getElem?_set_self (by simpa using hi), List.getElem?_map, List.getElem?_range hi]
      simp
    · rw [List.getElem?_set_ne (fun q => e q.symm), List.getElem?_map, List.getElem?_map, List.getElem?_range hi]
      simp
      by_cases h2 : i < k
      · rw [if_pos h2, if_pos (by omega)]
      · rw [if_neg h2, if_neg (by omega)]
  · rw [List.getElem?_eq_none (by simp; omega), List.getElem?_eq_none (by simp; omega)]
theorem ptK_done (xs ys : List Int) (N : Nat) : ptK xs ys N N = zipL xs ys N := by
  unfold ptK zipL
  exact List.map_congr_left fun i hi => by rw [if_pos (List.mem_range.1 hi)]

set_option maxHeartbeats 1000000 in
theorem pointsOf_any (A B : Option Addr) (ca cb N : Nat) (xs ys : List Int) (hx : xs.length = N) (hy : ys.length = N) (hN : N ≤ 100) (w : World) (sx : Sl w A ca xs) (sy : Sl w B cb ys) :
    Calls Tryz.prog 41 #[.slice A N ca, .slice B N cb] w fun e w' => ∃ A' c', e = .returned (.slice A' N c') ∧ Pt w' A' c' (zipL xs ys N) ∧ Below w.heap.size w w' := by
  obtain ⟨i0, hi, hz0, hz1, hz2⟩ := info_parts info_pt
  have HX := Lib.hid hx
  have HY := Lib.hid hy
  have hB8 : Hid (i0.bytes * N ≤ 281474976710656) := Lib.hid (by rw [hz2]; omega)
  clear hx hy
  go_enter Tryz.func41, Tryz.ntmps41
  go_wp2_with (at_make; refine wpList_make_full _ rfl _ _ 63 rfl w.heap.size 91 i0 _ 2 Tryz.underlying63 hi hz0 hz1 .i64 .i64 _ _ N rfl rfl (by omega) (by omega) hB8.out (by simp only [maxLen]; omega) (Nat.le_refl _) ?_; intro w1 hown1 hgrow1)
  have hb1 : Below w.heap.size w w1 := (Below.refl _ w).grown hgrow1 (Nat.le_refl _) (fun k e => by cases e)
  have hown2 : w1.ownsRow w.heap.size 91 2 (.slice (some ⟨w.heap.size, 0, none⟩) N N) N (pcells (ptK xs ys N 0)) := by
    rw [ptK_start, ← madeP]; exact hown1
  clear hown1 hgrow1
  go_loopw [13] (fun i wr => ∃ k : Nat, k ≤ N ∧ i = .int .i64 k ∧ wr.ownsRow w.heap.size 91 2 (.slice (some ⟨w.heap.size, 0, none⟩) N N) N (pcells (ptK xs ys N k)) ∧ Below w.heap.size w wr) (fun i _ => N - (intOf i).toNat)
  case atStart => exact ⟨0, Nat.zero_le _, rfl, hown2, hb1⟩
  case round =>
    obtain ⟨k, hk, rfl, hO, hB⟩ := hrel
    by_cases hlt : k < N
    · have hkN : (k : Int) < N := by omega
      obtain ⟨b1, o1, x, hA1, hbl1, hxk, hcx⟩ := sx.at_ (k := k) (by rw [HX.out]; exact hlt)
      obtain ⟨b2, o2, y, hA2, hbl2, hyk, hcy⟩ := sy.at_ (k := k) (by rw [HY.out]; exact hlt)
      subst hA1 hA2
      have hcx' := (hB.cell (p := ⟨b1, o1 + k, none⟩) hbl1).trans hcx
      have hcy' := (hB.cell (p := ⟨b2, o2 + k, none⟩) hbl2).trans hcy
      have hnext := ptK_next xs ys hlt
      rw [co_at hxk, co_at hyk] at hnext
      have hset := pcells_set (ptK xs ys N k) k (x, y) (by rw [ptK_len]; exact hlt)
      rw [hnext] at hset
      have hat := pcells_at (ptK xs ys N k) k _ (List.getElem?_eq_getElem (by rw [ptK_len]; exact hlt))
      have hc1 := (World.ownsRow.cellAt hO (k * 2) (by omega)).trans hat.1
      have hc2 := (World.ownsRow.cellAt hO (k * 2 + 1) (by omega)).trans hat.2
      have hf1 := World.ownsRow.frozenAt hO (k * 2)
      have hf2 := World.ownsRow.frozenAt hO (k * 2 + 1)
      have hOn : ((wr.setCell ⟨w.heap.size, k * 2, none⟩ (.int .u64 x)).setCell ⟨w.heap.size, k * 2 + 1, none⟩ (.int .u64 y)).ownsRow w.heap.size 91 2 (.slice (some ⟨w.heap.size, 0, none⟩) N N) N (pcells (ptK xs ys N (k + 1))) := by
        rw [← hset]
        exact (World.ownsRow.stored (World.ownsRow.stored hO (k * 2) (.int .u64 x)).1 (k * 2 + 1) (.int .u64 y)).1
      have hBn : Below w.heap.size w ((wr.setCell ⟨w.heap.size, k * 2, none⟩ (.int .u64 x)).setCell ⟨w.heap.size, k * 2 + 1, none⟩ (.int .u64 y)) := (hB.setCell (p := ⟨w.heap.size, k * 2, none⟩) (Nat.le_refl _) _).setCell (p := ⟨w.heap.size, k * 2 + 1, none⟩) (Nat.le_refl _) _
      have HOn := Lib.hid hOn
      have HBn := Lib.hid hBn
      clear hO hB hOn hBn hxk hyk hcx hcy hnext hset hat
      go_wp2
      go_roundw
      case rel => exact ⟨k + 1, by omega, by simp, HOn.out, HBn.out⟩
      case measure => simp [intOf]; omega
    · obtain rfl : k = N := by omega
      rw [ptK_done] at hO
      obtain ⟨A2, c2, hv, hP⟩ := pown_form hO
      rw [zipL_len] at hv
      injection hv with hv1 _ hv2
      subst hv1 hv2
      have HP := Lib.hid hP
      clear hP hO
      go_wp2
      go_ret
      exact ⟨_, _, rfl, HP.out, hB⟩
end Go.Proofs.YtkhiiiggmhncbaaGreat
