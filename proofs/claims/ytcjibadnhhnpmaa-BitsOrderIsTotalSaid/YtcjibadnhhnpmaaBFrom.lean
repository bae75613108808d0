/- FromUint of package bits and of the reference: the w bits of n in memory of its own, or nothing and ErrRange; nothing that lay is changed. Conditions: n is a word. -/
import Derived.Test.YtcjibadnhhnpmaaBRead
import Derived.Test.YtcjibadnhhnpmaaBAdd
namespace Go.Proofs.Ytcjibadnhhnpmaa
open Go.RowKit BitMath

/-- Whether n fits into k bits, k from 1 to 60. -/
def fits (n k : Int) : Prop := 1 ≤ k ∧ k ≤ 60 ∧ widI n ≤ k

theorem digs_div (n : Int) (k : Nat) : n / 2 ^ k / 2 = n / 2 ^ (k + 1) := by
  rw [Int.pow_succ, Int.ediv_ediv_of_nonneg (Int.le_of_lt (p2 k))]

theorem set_here (xs : List Int) (m : Nat) (v : Int) : (xs ++ List.replicate (m + 1) 0).set xs.length v = xs ++ [v] ++ List.replicate m 0 := by
  rw [List.set_append_right _ _ (Nat.le_refl _), Nat.sub_self, List.replicate_succ, List.set_cons_zero, List.append_assoc]; rfl

theorem from_bad (n k : Int) (h0 : 0 ≤ n) (h1 : n ≤ 18446744073709551615) (hf : ¬ fits n k) (w : World) :
    Calls Try.prog 11 #[.int .u64 n, .int .i64 k] w fun e w' => e = .returned (.tuple #[.slice none 0 0, .int .i64 2]) ∧ w = w' := by
  have hW := width_any n h0 h1 w
  unfold fits at hf
  rcases Int.lt_or_le k 1 with hk | hk
  · clear hW hf
    go_enter Try.func11, Try.ntmps11
    go_wp2
    go_ret2
    exact ⟨rfl, rfl⟩
  · rcases Int.lt_or_le 60 k with hk2 | hk2
    · clear hW hf
      go_enter Try.func11, Try.ntmps11
      go_wp2
      go_ret2
      exact ⟨rfl, rfl⟩
    · have hk3 : k < widI n := by omega
      clear hf
      go_enter Try.func11, Try.ntmps11
      go_wp2_with (go_at_call 14; refine hW.mono ?_; clear hW; rintro e w' ⟨rfl, rfl⟩)
      go_ret2
      exact ⟨rfl, rfl⟩

theorem rFrom_bad (n k : Int) (h0 : 0 ≤ n) (h1 : n ≤ 18446744073709551615) (hf : ¬ fits n k) (w : World) :
    Calls Try.prog 12 #[.int .u64 n, .int .i64 k] w fun e w' => e = .returned (.tuple #[.slice none 0 0, .int .i64 2]) ∧ w = w' := by
  have hW := rWidth_any n h0 h1 w
  unfold fits at hf
  rcases Int.lt_or_le k 1 with hk | hk
  · clear hW hf
    go_enter Try.func12, Try.ntmps12
    go_wp2
    go_ret2
    exact ⟨rfl, rfl⟩
  · rcases Int.lt_or_le 60 k with hk2 | hk2
    · clear hW hf
      go_enter Try.func12, Try.ntmps12
      go_wp2
      go_ret2
      exact ⟨rfl, rfl⟩
    · have hk3 : k < widI n := by omega
      clear hf
      go_enter Try.func12, Try.ntmps12
      go_wp2_with (go_at_call 15; refine hW.mono ?_; clear hW; rintro e w' ⟨rfl, rfl⟩)
      go_ret2
      exact ⟨rfl, rfl⟩

/-- A call hands back the words ys in memory of its own, and no error. -/
def RowOK (w : World) (e : Ending) (w' : World) (ys : List Int) : Prop :=
  ∃ A c, e = .returned (.tuple #[.slice A ys.length c, .int .i64 0]) ∧ Rd w'.heap.size w' A ys ∧ Below w.heap.size w w'

set_option maxHeartbeats 1000000 in
theorem from_good (n : Int) (k : Nat) (h0 : 0 ≤ n) (h1 : n ≤ 18446744073709551615) (hf : fits n k) (w : World) :
    Calls Try.prog 11 #[.int .u64 n, .int .i64 k] w fun e w' => RowOK w e w' (digs n k) := by
  have hW := width_any n h0 h1 w
  obtain ⟨i0, hi, hz0, hz1, hz2⟩ := info_parts info_u64
  obtain ⟨hk1, hk2, hk3⟩ := hf
  have hb8 : i0.bytes * k ≤ 281474976710656 := by rw [hz2]; omega
  have hB8 := Lib.hid hb8
  clear hb8
  go_enter Try.func11, Try.ntmps11
  go_wp2_with (first
    | (go_at_call 14; refine hW.mono ?_; clear hW; rintro e w' ⟨rfl, rfl⟩)
    | (at_make; refine wpList_make_full _ rfl _ _ 24 rfl w.heap.size 22 i0 (.int .u64 0) 1 Try.underlying24 hi hz0 hz1 .i64 .i64 _ _ k rfl rfl rfl rfl hB8.out (by simp only [maxLen]; omega) (Nat.le_refl _) ?_; intro w1 hown1 hgrow1))
  have hb1 : Below w.heap.size w w1 := (Below.refl _ w).grown hgrow1 (Nat.le_refl _) (fun k e => by cases e)
  simp only [Value.cells, toList_madeCells_one, Nat.mul_one] at hown1
  go_loopw [24] (fun i wr => ∃ j : Nat, j ≤ k ∧ i = .int .i64 j ∧ wr.ownsRow w.heap.size 22 1 (.slice (some ⟨w.heap.size, 0, none⟩) k k) k ((digs n j ++ List.replicate (k - j) 0).map (Value.int .u64)) ∧ Below w.heap.size w wr) (fun i _ => k - (intOf i).toNat)
  case atStart => exact ⟨0, Nat.zero_le _, rfl, by simpa [digs, upto] using hown1, hb1⟩
  case round =>
    obtain ⟨j, hj, rfl, hrow, hB⟩ := hrel
    by_cases hlt : j < k
    · have hcell : wr.cell? ⟨w.heap.size, j, none⟩ = some (.int .u64 0) := by
        rw [hrow.cellAt j (by omega), List.getElem?_map, List.getElem?_append_right (by rw [digs_length]; omega), digs_length, List.getElem?_replicate, if_pos (by omega)]; rfl
      have hfz := hrow.frozenAt j
      have hq0 : 0 ≤ n / 2 ^ j := Int.ediv_nonneg h0 (Int.le_of_lt (p2 j))
      have hq1 : n / 2 ^ j ≤ 18446744073709551615 := Int.le_trans (Int.ediv_le_self _ h0) h1
      have hand := and_one_u64 (n / 2 ^ j) hq0 hq1
      have hst := hrow.stored j (.int .u64 (n / 2 ^ j % 2))
      rw [← List.map_set] at hst
      have e1 := set_here (digs n j) (k - (j + 1)) (n / 2 ^ j % 2)
      rw [digs_length, ← digs_succ, show k - (j + 1) + 1 = k - j from by omega] at e1
      rw [e1] at hst
      have hST := Lib.hid hst
      clear hst e1 hq0 hq1
      go_wp2
      go_roundw
      case rel => exact ⟨j + 1, by omega, by simp, hST.out.1, hB.setCell (p := ⟨w.heap.size, j, none⟩) (Nat.le_refl _) _⟩
      case measure => simp [intOf]; omega
    · obtain rfl : j = k := by omega
      go_wp2
      go_ret2
      refine ⟨some ⟨w.heap.size, 0, none⟩, j, by rw [digs_length]; rfl, ?_, hB⟩
      exact Rd.of_own (base := w.heap.size) (n := j) (c := j) (by simpa using hrow)

theorem own_form {w : World} {base n : Nat} {v : Value} {xs : List Int} (h : w.ownsRow base 22 1 v n (xs.map (Value.int .u64))) : ∃ A c, v = .slice A xs.length c ∧ Rd w.heap.size w A xs := by
  have hl : xs.length = n := by simpa using h.1
  rcases h.2 with ⟨rfl, h0⟩ | ⟨g, cap, cur, rfl, _⟩
  · have : xs = [] := List.eq_nil_of_length_eq_zero (by omega)
    subst this
    exact ⟨none, 0, rfl, Rd.nil⟩
  · exact ⟨some ⟨g, 0, none⟩, cap, by rw [hl], Rd.of_own h⟩

set_option maxHeartbeats 1000000 in
theorem rFrom_good (n : Int) (k : Nat) (h0 : 0 ≤ n) (h1 : n ≤ 18446744073709551615) (hf : fits n k) (w : World) :
    Calls Try.prog 12 #[.int .u64 n, .int .i64 k] w fun e w' => RowOK w e w' (digs n k) := by
  have hW := rWidth_any n h0 h1 w
  obtain ⟨i0, hi, hz0, hz1, hz2⟩ := info_parts info_u64
  obtain ⟨hk1, hk2, hk3⟩ := hf
  go_enter Try.func12, Try.ntmps12
  go_wp2_with (go_at_call 15; refine hW.mono ?_; clear hW; rintro e w' ⟨rfl, rfl⟩)
  go_loopw [0, 6, 7] (fun q v i wr => ∃ j : Nat, j ≤ k ∧ i = .int .i64 j ∧ q = .int .u64 (n / 2 ^ j) ∧ wr.ownsRow w.heap.size 22 1 v j ((digs n j).map (Value.int .u64)) ∧ Below w.heap.size w wr) (fun _ _ i _ => k - (intOf i).toNat)
  case atStart => exact ⟨0, Nat.zero_le _, rfl, by simp, World.ownsRow_nil _ _ _ _, Below.refl _ _⟩
  case round =>
    obtain ⟨j, hj, rfl, rfl, hrow, hB⟩ := hrel
    by_cases hlt : j < k
    · have hq0 : 0 ≤ n / 2 ^ j := Int.ediv_nonneg h0 (Int.le_of_lt (p2 j))
      have hq1 : n / 2 ^ j ≤ 18446744073709551615 := Int.le_trans (Int.ediv_le_self _ h0) h1
      have hd := Lib.hid (digs_div n j)
      have hsz := hB.size
      have e1 := Lib.hid (digs_succ n j)
      go_wp2_with (at_builtin; refine wpList_append_own _ rfl _ _ 24 rfl w.heap.size 22 i0 (.int .u64 0) 1 8 Try.underlying24 hi hz0 hz1 hz2 rfl (by decide) _ _ _ rfl (hrow.alloc _) ⟨wr.heap.size, 0, none⟩ 1 1 [.int .u64 (n / 2 ^ j % 2)] rfl rfl (cell_one_new _ _ _) (by simp [Value.oneCell']) (by simp only [maxLen]; omega) (by omega) (by simp; omega) ?_; intro v' w2 hown' hgrow _)
      have hB2 : Below w.heap.size w w2 := (hB.alloc hsz _).grown hgrow (by simp; omega) (fun k e => (hrow.lt k e).1)
      go_roundw
      case rel => exact ⟨j + 1, by omega, by simp, by rw [hd.out], by rw [e1.out]; simpa using hown', hB2⟩
      case measure => simp [intOf]; omega
    · obtain rfl : j = k := by omega
      go_wp2
      go_ret2
      obtain ⟨A, c, rfl, hR⟩ := own_form hrow
      exact ⟨A, c, rfl, hR, hB⟩

end Go.Proofs.Ytcjibadnhhnpmaa
