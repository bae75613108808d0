/- Helpers of layer 9's laws: awake, setups, Rows and Same of the reference; nothing that lay is changed. Conditions: as said. -/
import Derived.Test.YtddbdjhgmeeakaaMG
import Derived.Test.YtddbdjhgmeeakaaMF
import Derived.Test.YtddbdjhgmeeakaaMC
namespace Go.Proofs.Ytddbdjhgmeeakaa
set_option maxRecDepth 100000
open Go.RowKit PolyMath FieldMath MatMath

theorem Below.pushed {B : Nat} {a w : World} (h : Below B a w) (o : Obj) (hB : B ≤ a.heap.size) : Below B a (w.alloc o) := bnew h o hB

theorem aw1 (A : Option Addr) (c : Nat) (w : World) (h : Pt w A c [(3, 8), (1, 6)]) : Calls Try.prog 19 #[.int .u64 31, .int .i64 1, .slice A 2 c] w fun e w' => e = .returned (.tuple #[.int .u64 5, .int .i64 0]) ∧ Below w.heap.size w w' := by
  refine (rec_any 31 ok31 A c 1 [(3, 8), (1, 6)] (el_dec (by decide)) (el_dec (by decide)) (by decide) (.inl (by decide)) (by decide) w h).mono ?_
  rintro e w' ⟨(⟨_, he⟩ | ⟨hn, _⟩), hb⟩
  · rw [show co (thru 31 (List.take (1 + 1) [(3, 8), (1, 6)])) 0 = 5 from by decide +kernel] at he
    exact ⟨he, hb⟩
  · exact absurd (fun i h1 h2 => by simp at h2; omega) hn
theorem aw2 (A : Option Addr) (c : Nat) (w : World) (h : Pt w A c [(1, 6)]) : Calls Try.prog 21 #[.int .u64 31, .int .i64 1, .slice A 1 c, .int .u64 9] w fun e w' => ∃ A' c', e = .returned (.tuple #[.slice A' 2 c', .int .i64 0]) ∧ Sl w' A' c' [9, 28] ∧ Below w.heap.size w w' := by
  refine (fit_any 31 9 ok31 (by decide) A c 1 [(1, 6)] (el_dec (by decide)) (el_dec (by decide)) (.inl (by decide)) (by decide) (by decide) (by decide) w h).mono ?_
  rintro e w' ⟨g, he, ho, hb⟩
  rw [show fitS 31 [(1, 6)] 1 9 = [9, 28] from by decide +kernel] at ho
  exact ⟨_, _, he, ho.sl, hb⟩
theorem aw4 (A : Option Addr) (c : Nat) (w : World) (h : Pt w A c [(1, 6), (2, 7), (3, 9)]) : Calls Try.prog 19 #[.int .u64 31, .int .i64 1, .slice A 3 c] w fun e w' => e = .returned (.tuple #[.int .u64 0, .int .i64 9]) ∧ Below w.heap.size w w' := by
  refine (rec_any 31 ok31 A c 1 [(1, 6), (2, 7), (3, 9)] (el_dec (by decide)) (el_dec (by decide)) (by decide) (.inl (by decide)) (by decide) w h).mono ?_
  rintro e w' ⟨(⟨hl, _⟩ | ⟨_, he⟩), hb⟩
  · exact absurd (hl 2 (by decide) (by decide)) (by decide +kernel)
  · exact ⟨he, hb⟩
theorem aw5 (w : World) : Calls Try.prog 37 #[.agg #[.int .u64 31, .int .i64 4, .int .i64 1], .int .u64 7] w fun e w' => ∃ A c, e = .returned (.slice A 4 c) ∧ Sll w' A c [[7, 0], [7, 0], [7, 0], [7, 0]] ∧ Below w.heap.size w w' :=
  (const_mat 31 7 4 1 (by decide) (by decide) w).mono fun e w' ⟨A, c, he, _, hs, hb⟩ => ⟨A, c, he, hs, hb⟩
theorem aw6 (A : Option Addr) (c : Nat) (w : World) (h : Sl w A c [5, 1]) : Calls Try.prog 15 #[.int .u64 31, .int .i64 3, .slice A 2 c] w fun e w' => ∃ A' c', e = .returned (.slice A' 3 c') ∧ Sl w' A' c' [6, 7, 8] ∧ Below w.heap.size w w' := by
  refine (shares_row 31 ok31 3 3 (by decide) (by decide) (by decide) A c [5, 1] (el_dec (by decide)) (by decide) w h).mono ?_
  rintro e w' ⟨A', c', he, hs, hb⟩
  rw [show shr 31 [5, 1] 3 = [6, 7, 8] from by decide +kernel] at hs
  exact ⟨A', c', he, hs, hb⟩

theorem same9 (A A' : Option Addr) (N c c' : Nat) (rows : List (List Int)) (hl : rows.length = N) (w : World) (h : Sll w A c rows) (h' : Sll w A' c' rows) (hN : N ≤ 1000) (hr : ∀ r ∈ rows, r.length ≤ 1000) :
    Calls Try.prog 30 #[.slice A N c, .slice A' N c'] w fun e w' => e = .returned (.bool true) ∧ Below w.heap.size w w' := by
  have hq := rows_b A A' rows c c' w h h' (by omega) hr
  rw [hl] at hq
  clear hl
  go_enter Try.func30, Try.ntmps30
  go_wp2_with fail
  refine hq.mono ?_
  rintro e w1 ⟨rfl, hb⟩
  go_wp2
  go_ret
  exact ⟨rfl, hb⟩

theorem Sll.lit4 (w : World) {A1 A2 A3 A4 : Option Addr} {c1 c2 c3 c4 : Nat} {r1 r2 r3 r4 : List Int} (h1 : Sl w A1 c1 r1) (h2 : Sl w A2 c2 r2) (h3 : Sl w A3 c3 r3) (h4 : Sl w A4 c4 r4) :
    Sll (w.alloc (.cells #[.slice A1 r1.length c1, .slice A2 r2.length c2, .slice A3 r3.length c3, .slice A4 r4.length c4] 23)) (some ⟨w.heap.size, 0, none⟩) 4 [r1, r2, r3, r4] := by
  refine ⟨Nat.le_refl _, (fun h => by cases h), fun ad e _ => ?_⟩
  injection e with e
  subst e
  refine ⟨w.heap.size, 0, rfl, by simp, fun j r hr => ?_⟩
  rw [cell_of_row _ w.heap.size (0 + j) _ 23 (0, 0) (World.alloc_heap_new w _), Nat.zero_add]
  match j, hr with
  | 0, hr => simp at hr; subst hr; exact ⟨A1, c1, rfl, h1.push _⟩
  | 1, hr => simp at hr; subst hr; exact ⟨A2, c2, rfl, h2.push _⟩
  | 2, hr => simp at hr; subst hr; exact ⟨A3, c3, rfl, h3.push _⟩
  | 3, hr => simp at hr; subst hr; exact ⟨A4, c4, rfl, h4.push _⟩
  | n + 4, hr => simp at hr

set_option maxHeartbeats 4000000 in
theorem awake9 (w : World) : Calls Try.prog 11 #[] w fun e w' => e = .returned (.bool true) ∧ Below w.heap.size w w' := by
  have hp1 := Pt.lit w 34 [(3, 8), (1, 6)]
  have hB := bnew (Below.refl w.heap.size w) (.cells (pcells [(3, 8), (1, 6)]).toArray 34) (Nat.le_refl _)
  go_enter Try.func11, Try.ntmps11
  go_wp2_with fail
  refine (aw1 _ _ _ hp1).mono ?_
  rintro e w1 ⟨rfl, hb⟩
  replace hB := hB.trans (hb.mono hB.size)
  clear hb hp1
  have hp2 := Pt.lit w1 34 [(1, 6)]
  replace hB := bnew hB (.cells (pcells [(1, 6)]).toArray 34) (Nat.le_refl _)
  go_wp2_with fail
  refine (aw2 _ _ _ hp2).mono ?_
  rintro e w2 ⟨A2, c2, rfl, hq, hb⟩
  replace hB := hB.trans (hb.mono hB.size)
  clear hb hp2
  replace hq := hq.push (.cells (pcells [(1, 6)]).toArray 34)
  replace hB := bnew hB (.cells (pcells [(1, 6)]).toArray 34) (Nat.le_refl _)
  go_wp2_with fail
  refine (rec_few 31 _ _ 1 [(1, 6)] (by decide) (by decide) _).mono ?_
  rintro e w3 ⟨rfl, hb⟩
  replace hB := hB.trans (hb.mono hB.size)
  replace hq := hq.next hb
  clear hb
  have hp3 := Pt.lit w3 34 [(1, 6), (2, 7), (3, 9)]
  replace hq := hq.push (.cells (pcells [(1, 6), (2, 7), (3, 9)]).toArray 34)
  replace hB := bnew hB (.cells (pcells [(1, 6), (2, 7), (3, 9)]).toArray 34) (Nat.le_refl _)
  go_wp2_with fail
  refine (aw4 _ _ _ hp3).mono ?_
  rintro e w4 ⟨rfl, hb⟩
  replace hB := hB.trans (hb.mono hB.size)
  replace hq := hq.next hb
  clear hb hp3
  go_wp2_with fail
  refine (aw5 _).mono ?_
  rintro e w5 ⟨A5, c5, rfl, hk, hb⟩
  replace hB := hB.trans (hb.mono hB.size)
  replace hq := (hq.next hb).push (.cells #[.int .u64 5, .int .u64 1] 22)
  replace hk := hk.push (.cells #[.int .u64 5, .int .u64 1] 22)
  replace hB := bnew hB (.cells #[.int .u64 5, .int .u64 1] 22) (Nat.le_refl _)
  clear hb
  go_wp2_with fail
  refine (aw6 _ _ _ (Sl.l2 w5 5 1)).mono ?_
  rintro e w6 ⟨A6, c6, rfl, hs, hb⟩
  replace hB := hB.trans (hb.mono hB.size)
  replace hq := (hq.next hb).push (.cells #[.int .u64 6, .int .u64 7, .int .u64 8] 22)
  replace hk := (hk.next hb).push (.cells #[.int .u64 6, .int .u64 7, .int .u64 8] 22)
  replace hs := hs.push (.cells #[.int .u64 6, .int .u64 7, .int .u64 8] 22)
  replace hB := bnew hB (.cells #[.int .u64 6, .int .u64 7, .int .u64 8] 22) (Nat.le_refl _)
  clear hb
  go_wp2_with fail
  refine (same_b _ _ [6, 7, 8] _ _ _ hs (Sl.l3 w6 6 7 8) (by decide)).mono ?_
  rintro e w7 ⟨rfl, hb⟩
  replace hB := hB.trans (hb.mono hB.size)
  replace hq := (hq.next hb).push (.cells #[.int .u64 9, .int .u64 28] 22)
  replace hk := (hk.next hb).push (.cells #[.int .u64 9, .int .u64 28] 22)
  replace hB := bnew hB (.cells #[.int .u64 9, .int .u64 28] 22) (Nat.le_refl _)
  clear hb hs
  go_wp2_with fail
  refine (same_b _ _ [9, 28] _ _ _ hq (Sl.l2 w7 9 28) (by decide)).mono ?_
  rintro e w8 ⟨rfl, hb⟩
  replace hB := hB.trans (hb.mono hB.size)
  replace hk := hk.next hb
  clear hb hq
  have hB0 := hB
  obtain ⟨r, hr⟩ : ∃ r : Obj, r = .cells #[.int .u64 7, .int .u64 0] 22 := ⟨_, rfl⟩
  have q1 := (((Sl.l2 w8 7 0).push (.cells #[.int .u64 7, .int .u64 0] 22)).push (.cells #[.int .u64 7, .int .u64 0] 22)).push (.cells #[.int .u64 7, .int .u64 0] 22)
  have q2 := ((Sl.l2 (w8.alloc (.cells #[.int .u64 7, .int .u64 0] 22)) 7 0).push (.cells #[.int .u64 7, .int .u64 0] 22)).push (.cells #[.int .u64 7, .int .u64 0] 22)
  have q3 := (Sl.l2 ((w8.alloc (.cells #[.int .u64 7, .int .u64 0] 22)).alloc (.cells #[.int .u64 7, .int .u64 0] 22)) 7 0).push (.cells #[.int .u64 7, .int .u64 0] 22)
  have q4 := Sl.l2 (((w8.alloc (.cells #[.int .u64 7, .int .u64 0] 22)).alloc (.cells #[.int .u64 7, .int .u64 0] 22)).alloc (.cells #[.int .u64 7, .int .u64 0] 22)) 7 0
  have hl4 := Sll.lit4 _ q1 q2 q3 q4
  simp only [World.size_alloc, Nat.add_assoc, Nat.reduceAdd] at hl4
  have hk4 := ((((hk.push (.cells #[.int .u64 7, .int .u64 0] 22)).push (.cells #[.int .u64 7, .int .u64 0] 22)).push (.cells #[.int .u64 7, .int .u64 0] 22)).push (.cells #[.int .u64 7, .int .u64 0] 22)).push (.cells #[.slice (some ⟨w8.heap.size, 0, none⟩) 2 2, .slice (some ⟨w8.heap.size + 1, 0, none⟩) 2 2, .slice (some ⟨w8.heap.size + 2, 0, none⟩) 2 2, .slice (some ⟨w8.heap.size + 3, 0, none⟩) 2 2] 23)
  replace hB := bnew (bnew (bnew (bnew (bnew hB (.cells #[.int .u64 7, .int .u64 0] 22) (Nat.le_refl _)) (.cells #[.int .u64 7, .int .u64 0] 22) (Nat.le_refl _)) (.cells #[.int .u64 7, .int .u64 0] 22) (Nat.le_refl _)) (.cells #[.int .u64 7, .int .u64 0] 22) (Nat.le_refl _)) (.cells #[.slice (some ⟨w8.heap.size, 0, none⟩) 2 2, .slice (some ⟨w8.heap.size + 1, 0, none⟩) 2 2, .slice (some ⟨w8.heap.size + 2, 0, none⟩) 2 2, .slice (some ⟨w8.heap.size + 3, 0, none⟩) 2 2] 23) (Nat.le_refl _)
  clear q1 q2 q3 q4 hr r
  go_wp2_with fail
  refine (same9 _ _ 4 _ _ [[7, 0], [7, 0], [7, 0], [7, 0]] rfl _ hk4 hl4 (by decide) (by decide)).mono ?_
  rintro e w9 ⟨rfl, hb⟩
  replace hB := hB.trans (hb.mono hB.size)
  clear hb hk4 hl4 hk hB0
  go_wp2
  go_ret
  exact ⟨rfl, hB⟩
end Go.Proofs.Ytddbdjhgmeeakaa
