/- awake of layer 10's laws: the fixed results hold; only new memory is made. No conditions. -/
import Derived.Test.YtkhiiiggmhncbaaGreatEInt
import Derived.Test.YtkhiiiggmhncbaaGreatETrl
import Derived.Test.YtkhiiiggmhncbaaGreatME
namespace Go.Proofs.YtkhiiiggmhncbaaGreat
set_option maxRecDepth 100000
open Go.RowKit PolyMath FieldMath MatMath

theorem lit22 (w : World) (a b c d : Int) :
    Sll (((w.alloc (.cells #[.int .u64 a, .int .u64 b] 22)).alloc (.cells #[.int .u64 c, .int .u64 d] 22)).alloc (.cells #[.slice (some ⟨w.heap.size, 0, none⟩) 2 2, .slice (some ⟨w.heap.size + 1, 0, none⟩) 2 2] 23)) (some ⟨w.heap.size + 2, 0, none⟩) 2 [[a, b], [c, d]] := by
  have h := Sll.lit2 _ ((Sl.l2 w a b).push (.cells #[.int .u64 c, .int .u64 d] 22)) (Sl.l2 (w.alloc (.cells #[.int .u64 a, .int .u64 b] 22)) c d)
  simp only [World.size_alloc, Nat.add_assoc, Nat.reduceAdd] at h
  exact h
theorem below22 {w W : World} (h : Below w.heap.size w W) (a b c d : Int) :
    Below w.heap.size w (((W.alloc (.cells #[.int .u64 a, .int .u64 b] 22)).alloc (.cells #[.int .u64 c, .int .u64 d] 22)).alloc (.cells #[.slice (some ⟨W.heap.size, 0, none⟩) 2 2, .slice (some ⟨W.heap.size + 1, 0, none⟩) 2 2] 23)) :=
  bnew (bnew (bnew h _ (Nat.le_refl _)) _ (Nat.le_refl _)) _ (Nat.le_refl _)
theorem sz22 (rows : List (List Int)) (h : rows.length ≤ 100) (h2 : ∀ r ∈ rows, r.length ≤ 100) : Sized rows := .of h h2

theorem aw1 (A B : Option Addr) (w : World) (sx : Sl w A 2 [5, 2]) (sy : Sl w B 1 [3]) : Calls Tryz.prog 11 #[.slice A 2 2, .slice B 1 1] w fun e w' => MatT w e w' 2 [[5, 2], [2, 3]] := by
  have h := new_ok A B 2 1 2 1 [5, 2] [3] rfl rfl (by decide) (by decide) (by decide) w sx sy
  rw [show newL [5, 2] [3] = [[5, 2], [2, 3]] from by decide +kernel] at h
  exact h
theorem aw2 (A : Option Addr) (w : World) : Calls Tryz.prog 11 #[.slice A 2 2, .slice none 0 0] w fun e w' => e = .returned (.tuple #[.slice none 0 0, .int .i64 1]) ∧ Below w.heap.size w w' :=
  new_bad A none 2 0 2 0 (by decide) (by decide) (by decide) w
theorem aw3 (A B : Option Addr) (w : World) (sx : Sl w A 2 [1, 2]) (sr : Sll w B 2 [[7, 5], [9, 8]]) : Calls Tryz.prog 6 #[.int .u64 31, .int .i64 1, .slice A 2 2, .slice B 2 2] w fun e w' => MatT w e w' 2 [[5, 2], [2, 3]] := by
  refine (itp_ok 31 ok31 1 A B 2 2 2 [1, 2] [[7, 5], [9, 8]] rfl rfl (by decide) (by decide) (el_dec (by decide)) (by decide) (by intro r hr; simp at hr; rcases hr with rfl | rfl <;> exact el_dec (by decide)) (by decide) w sx sr).mono ?_
  rw [show fitL 31 (List.take (1 + 1) [1, 2]) (List.take (1 + 1) [[7, 5], [9, 8]]) (1 + 1) = [[5, 2], [2, 3]] from by decide +kernel]
  rintro e w' (⟨_, h⟩ | ⟨h, _⟩)
  · exact h
  · exact absurd ⟨by decide, fun i h1 h2 => by omega⟩ h
theorem aw4 (A B : Option Addr) (w : World) (sx : Sl w A 2 [1, 2]) (sr : Sll w B 2 [[7, 5], [9, 9]]) : Calls Tryz.prog 6 #[.int .u64 31, .int .i64 1, .slice A 2 2, .slice B 2 2] w fun e w' => e = .returned (.tuple #[.slice none 0 0, .int .i64 6]) ∧ Below w.heap.size w w' := by
  refine (itp_ok 31 ok31 1 A B 2 2 2 [1, 2] [[7, 5], [9, 9]] rfl rfl (by decide) (by decide) (el_dec (by decide)) (by decide) (by intro r hr; simp at hr; rcases hr with rfl | rfl <;> exact el_dec (by decide)) (by decide) w sx sr).mono ?_
  rintro e w' (⟨h, _⟩ | ⟨_, h⟩)
  · exact absurd h.1 (by decide +kernel)
  · exact h
theorem aw5 (A : Option Addr) (c : Nat) (w : World) (h : Sll w A c [[5, 2], [2, 3]]) : Calls Tryz.prog 12 #[.slice A 2 c] w fun e w' => e = .returned (.bool true) ∧ Below w.heap.size w w' := by
  have g := isSym_any A c _ (by decide) w h
  rw [show symB [[5, 2], [2, 3]] = true from by decide] at g
  exact g
theorem aw6 (A : Option Addr) (c : Nat) (w : World) (h : Sll w A c [[1, 2], [3, 4]]) : Calls Tryz.prog 12 #[.slice A 2 c] w fun e w' => e = .returned (.bool false) ∧ Below w.heap.size w w' := by
  have g := isSym_any A c _ (by decide) w h
  rw [show symB [[1, 2], [3, 4]] = false from by decide] at g
  exact g
theorem el22 : ∀ r ∈ ([[5, 2], [2, 3]] : List (List Int)), El 31 r := by intro r hr; simp at hr; rcases hr with rfl | rfl <;> exact el_dec (by decide)
theorem aw7 (A : Option Addr) (c : Nat) (w : World) (h : Sll w A c [[5, 2], [2, 3]]) : Calls Tryz.prog 14 #[.int .u64 31, .slice A 2 c, .int .u64 1] w fun e w' => RowN w e w' 2 [7, 5] := by
  have g := row_any 31 1 ok31 (by decide) A c 2 _ rfl (by decide) el22 w h
  rw [show brow 31 [[5, 2], [2, 3]] 1 = [7, 5] from by decide +kernel] at g
  exact g
theorem aw8 (A : Option Addr) (c : Nat) (w : World) (h : Sll w A c [[5, 2], [2, 3]]) : Calls Tryz.prog 15 #[.int .u64 31, .slice A 2 c, .int .u64 1, .int .u64 2] w fun e w' => e = .returned (.int .u64 17) ∧ Below w.heap.size w w' := by
  have g := beval_any 31 1 2 ok31 (by decide) (by decide) A c 2 _ rfl (by decide) el22 w h
  rw [show pev 31 (brow 31 [[5, 2], [2, 3]] 1) 2 = 17 from by decide +kernel] at g
  exact g
theorem aw9 (A B : Option Addr) (c cb : Nat) (w : World) (h : Sll w A c [[5, 2], [2, 3]]) (hz : Sl w B cb [1, 30]) : Calls Tryz.prog 16 #[.int .u64 31, .slice A 2 c, .int .u64 2, .slice B 2 cb] w fun e w' => MatN w e w' 2 [[7, 0], [0, 5]] := by
  have g := trl_any 31 2 ok31 (by decide) A B c cb 2 [[5, 2], [2, 3]] [1, 30] ⟨rfl, fun r hr => ⟨by simp at hr; rcases hr with rfl | rfl <;> rfl, el22 r hr⟩⟩ (by decide) (el_dec (by decide)) w h hz
  rw [show trl 31 [[5, 2], [2, 3]] 2 [1, 30] = [[7, 0], [0, 5]] from by decide +kernel] at g
  exact g

set_option maxHeartbeats 4000000 in
theorem awake10 (w : World) : Calls Tryz.prog 5 #[] w fun e w' => e = .returned (.bool true) ∧ Below w.heap.size w w' := by
  have q1 := (Sl.l2 w 5 2).push (.cells #[.int .u64 3] 22)
  have q2 := Sl.l1 (w.alloc (.cells #[.int .u64 5, .int .u64 2] 22)) 3
  have hB := bnew (bnew (Below.refl w.heap.size w) (.cells #[.int .u64 5, .int .u64 2] 22) (Nat.le_refl _)) (.cells #[.int .u64 3] 22) (Nat.le_refl _)
  simp only [World.size_alloc] at q2
  go_enter Tryz.func5, Tryz.ntmps5
  go_wp2_with fail
  refine (aw1 _ _ _ q1 q2).mono ?_
  rintro e w1 ⟨A1, c1, rfl, hs, hb⟩
  replace hB := hB.trans (hb.mono hB.size)
  clear hb q1 q2
  replace hs := hs.push (.cells #[.int .u64 5, .int .u64 2] 22)
  replace hB := bnew hB (.cells #[.int .u64 5, .int .u64 2] 22) (Nat.le_refl _)
  go_wp2_with fail
  refine (aw2 _ _).mono ?_
  rintro e w2 ⟨rfl, hb⟩
  replace hB := hB.trans (hb.mono hB.size)
  replace hs := hs.next hb
  clear hb
  have k1 := lit22 w2 5 2 2 3
  have k2 := ((hs.push (.cells #[.int .u64 5, .int .u64 2] 22)).push (.cells #[.int .u64 2, .int .u64 3] 22)).push (.cells #[.slice (some ⟨w2.heap.size, 0, none⟩) 2 2, .slice (some ⟨w2.heap.size + 1, 0, none⟩) 2 2] 23)
  replace hB := below22 hB 5 2 2 3
  go_wp2_with fail
  refine (sameM_b _ _ [[5, 2], [2, 3]] _ _ _ k2 k1 (sz22 _ (by decide) (by decide))).mono ?_
  rintro e w3 ⟨rfl, hb⟩
  replace hB := hB.trans (hb.mono hB.size)
  replace hs := k2.next hb
  clear hb k1 k2
  have k1 := lit22 (w3.alloc (.cells #[.int .u64 1, .int .u64 2] 22)) 7 5 9 8
  have k2 := (((Sl.l2 w3 1 2).push (.cells #[.int .u64 7, .int .u64 5] 22)).push (.cells #[.int .u64 9, .int .u64 8] 22)).push (.cells #[.slice (some ⟨w3.heap.size + 1, 0, none⟩) 2 2, .slice (some ⟨w3.heap.size + 2, 0, none⟩) 2 2] 23)
  simp only [World.size_alloc, Nat.add_assoc, Nat.reduceAdd] at k1
  replace hs := (((hs.push (.cells #[.int .u64 1, .int .u64 2] 22)).push (.cells #[.int .u64 7, .int .u64 5] 22)).push (.cells #[.int .u64 9, .int .u64 8] 22)).push (.cells #[.slice (some ⟨w3.heap.size + 1, 0, none⟩) 2 2, .slice (some ⟨w3.heap.size + 2, 0, none⟩) 2 2] 23)
  replace hB := bnew (bnew (bnew (bnew hB (.cells #[.int .u64 1, .int .u64 2] 22) (Nat.le_refl _)) (.cells #[.int .u64 7, .int .u64 5] 22) (Nat.le_refl _)) (.cells #[.int .u64 9, .int .u64 8] 22) (Nat.le_refl _)) (.cells #[.slice (some ⟨w3.heap.size + 1, 0, none⟩) 2 2, .slice (some ⟨w3.heap.size + 2, 0, none⟩) 2 2] 23) (Nat.le_refl _)
  go_wp2_with fail
  refine (aw3 _ _ _ k2 k1).mono ?_
  rintro e w4 ⟨A4, c4, rfl, hm, hb⟩
  replace hB := hB.trans (hb.mono hB.size)
  replace hs := hs.next hb
  clear hb k1 k2
  have k1 := lit22 (w4.alloc (.cells #[.int .u64 1, .int .u64 2] 22)) 7 5 9 9
  have k2 := (((Sl.l2 w4 1 2).push (.cells #[.int .u64 7, .int .u64 5] 22)).push (.cells #[.int .u64 9, .int .u64 9] 22)).push (.cells #[.slice (some ⟨w4.heap.size + 1, 0, none⟩) 2 2, .slice (some ⟨w4.heap.size + 2, 0, none⟩) 2 2] 23)
  simp only [World.size_alloc, Nat.add_assoc, Nat.reduceAdd] at k1
  replace hs := (((hs.push (.cells #[.int .u64 1, .int .u64 2] 22)).push (.cells #[.int .u64 7, .int .u64 5] 22)).push (.cells #[.int .u64 9, .int .u64 9] 22)).push (.cells #[.slice (some ⟨w4.heap.size + 1, 0, none⟩) 2 2, .slice (some ⟨w4.heap.size + 2, 0, none⟩) 2 2] 23)
  replace hm := (((hm.push (.cells #[.int .u64 1, .int .u64 2] 22)).push (.cells #[.int .u64 7, .int .u64 5] 22)).push (.cells #[.int .u64 9, .int .u64 9] 22)).push (.cells #[.slice (some ⟨w4.heap.size + 1, 0, none⟩) 2 2, .slice (some ⟨w4.heap.size + 2, 0, none⟩) 2 2] 23)
  replace hB := bnew (bnew (bnew (bnew hB (.cells #[.int .u64 1, .int .u64 2] 22) (Nat.le_refl _)) (.cells #[.int .u64 7, .int .u64 5] 22) (Nat.le_refl _)) (.cells #[.int .u64 9, .int .u64 9] 22) (Nat.le_refl _)) (.cells #[.slice (some ⟨w4.heap.size + 1, 0, none⟩) 2 2, .slice (some ⟨w4.heap.size + 2, 0, none⟩) 2 2] 23) (Nat.le_refl _)
  go_wp2_with fail
  refine (aw4 _ _ _ k2 k1).mono ?_
  rintro e w5 ⟨rfl, hb⟩
  replace hB := hB.trans (hb.mono hB.size)
  replace hs := hs.next hb
  replace hm := hm.next hb
  clear hb k1 k2
  go_wp2_with fail
  refine (aw5 _ _ _ hs).mono ?_
  rintro e w6 ⟨rfl, hb⟩
  replace hB := hB.trans (hb.mono hB.size)
  replace hs := hs.next hb
  replace hm := hm.next hb
  clear hb
  have k1 := lit22 w6 1 2 3 4
  replace hs := ((hs.push (.cells #[.int .u64 1, .int .u64 2] 22)).push (.cells #[.int .u64 3, .int .u64 4] 22)).push (.cells #[.slice (some ⟨w6.heap.size, 0, none⟩) 2 2, .slice (some ⟨w6.heap.size + 1, 0, none⟩) 2 2] 23)
  replace hm := ((hm.push (.cells #[.int .u64 1, .int .u64 2] 22)).push (.cells #[.int .u64 3, .int .u64 4] 22)).push (.cells #[.slice (some ⟨w6.heap.size, 0, none⟩) 2 2, .slice (some ⟨w6.heap.size + 1, 0, none⟩) 2 2] 23)
  replace hB := below22 hB 1 2 3 4
  go_wp2_with fail
  refine (aw6 _ _ _ k1).mono ?_
  rintro e w7 ⟨rfl, hb⟩
  replace hB := hB.trans (hb.mono hB.size)
  replace hs := hs.next hb
  replace hm := hm.next hb
  clear hb k1
  go_wp2_with fail
  refine (aw7 _ _ _ hs).mono ?_
  rintro e w8 ⟨g8, rfl, hO8, hb⟩
  replace hB := hB.trans (hb.mono hB.size)
  replace hs := (hs.next hb).push (.cells #[.int .u64 7, .int .u64 5] 22)
  replace hm := (hm.next hb).push (.cells #[.int .u64 7, .int .u64 5] 22)
  have hr := hO8.sl.push (.cells #[.int .u64 7, .int .u64 5] 22)
  replace hB := bnew hB (.cells #[.int .u64 7, .int .u64 5] 22) (Nat.le_refl _)
  clear hb hO8
  go_wp2_with fail
  refine (sameL_b _ _ [7, 5] _ _ _ hr (Sl.l2 w8 7 5) (by decide)).mono ?_
  rintro e w9 ⟨rfl, hb⟩
  replace hB := hB.trans (hb.mono hB.size)
  replace hs := hs.next hb
  replace hm := hm.next hb
  clear hb hr
  go_wp2_with fail
  refine (aw8 _ _ _ hs).mono ?_
  rintro e w10 ⟨rfl, hb⟩
  replace hB := hB.trans (hb.mono hB.size)
  replace hs := hs.next hb
  replace hm := hm.next hb
  clear hb
  go_wp2_with fail
  refine (sameM_b _ _ [[5, 2], [2, 3]] _ _ _ hm hs (sz22 _ (by decide) (by decide))).mono ?_
  rintro e w11 ⟨rfl, hb⟩
  replace hB := hB.trans (hb.mono hB.size)
  replace hs := (hs.next hb).push (.cells #[.int .u64 1, .int .u64 30] 22)
  replace hB := bnew hB (.cells #[.int .u64 1, .int .u64 30] 22) (Nat.le_refl _)
  clear hb hm
  go_wp2_with fail
  refine (aw9 _ _ _ _ _ hs (Sl.l2 w11 1 30)).mono ?_
  rintro e w12 ⟨A12, c12, rfl, ht, hb⟩
  replace hB := hB.trans (hb.mono hB.size)
  clear hb hs
  have k1 := lit22 w12 7 0 0 5
  replace ht := ((ht.push (.cells #[.int .u64 7, .int .u64 0] 22)).push (.cells #[.int .u64 0, .int .u64 5] 22)).push (.cells #[.slice (some ⟨w12.heap.size, 0, none⟩) 2 2, .slice (some ⟨w12.heap.size + 1, 0, none⟩) 2 2] 23)
  replace hB := below22 hB 7 0 0 5
  go_wp2_with fail
  refine (sameM_b _ _ [[7, 0], [0, 5]] _ _ _ ht k1 (sz22 _ (by decide) (by decide))).mono ?_
  rintro e w13 ⟨rfl, hb⟩
  replace hB := hB.trans (hb.mono hB.size)
  clear hb k1 ht
  go_wp2
  go_ret
  exact ⟨rfl, hB⟩
end Go.Proofs.YtkhiiiggmhncbaaGreat
