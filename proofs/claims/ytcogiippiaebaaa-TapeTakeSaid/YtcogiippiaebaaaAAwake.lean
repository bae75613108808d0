/- The examples of the document for layer 11 hold: awake returns true. Nothing that lay is changed. No conditions. -/
import Derived.Test.YtcogiippiaebaaaATake
namespace Go.Proofs.Ytcogiippiaebaaa
set_option maxRecDepth 100000
open Go.RowKit

theorem same_here (A A' : Option Addr) (xs ys : List Int) (n m c c' : Nat) (w : World) (h : Sl w A c xs) (h' : Sl w A' c' ys) (hn : xs.length = n) (hm : ys.length = m) (hl : n ≤ 1000) (e : xs = ys) :
    Calls Try.prog 13 #[.slice A n c, .slice A' m c'] w fun e w' => e = .returned (.bool true) ∧ Below w.heap.size w w' := by
  subst hn hm
  exact same_is A A' xs ys c c' w h h' hl e

set_option maxHeartbeats 2000000 in
theorem awake_any (w : World) : Calls Try.prog 8 #[] w fun e w' => e = .returned (.bool true) ∧ Below w.heap.size w w' := by
  go_enter Try.func8, Try.ntmps8
  go_wp2_with fail
  refine (new_any (some ⟨w.heap.size, 0, none⟩) 3 [5, 6, 7] _ (Sl.l3 w 5 6 7) (by decide)).mono ?_
  rintro e w1 ⟨b, rfl, hbb, hT, hb⟩
  have hB : Below w.heap.size w w1 := ((Below.refl w.heap.size w).alloc (Nat.le_refl _) _).trans (hb.mono (by simp))
  have hge : w.heap.size ≤ b := Nat.le_trans (by simp) hbb
  clear hb hbb
  go_wp2_with fail
  refine (take_ok b [5, 6, 7] 0 2 _ hT (by decide) (by decide)).mono ?_
  rintro e w2 ⟨A2, c2, rfl, s2, t2, hT2, hx2⟩
  replace hB := hB.trans (hx2.below hge hB.size)
  clear hx2 hT
  go_wp2_with fail
  refine (take_bad b [5, 6, 7] 2 2 _ hT2 (by decide) (by decide) (by decide) (.inr (by decide))).mono ?_
  rintro e w3 ⟨rfl, hb⟩
  replace hB := hB.trans (hb.mono hB.size)
  replace hT2 := hT2.next hb
  replace s2 := s2.next hb
  replace t2 := t2.next hb
  clear hb
  go_wp2_with fail
  refine (remaining_any b [5, 6, 7] 2 _ hT2 (by decide)).mono ?_
  rintro e w4 ⟨rfl, hb⟩
  replace hB := hB.trans (hb.mono hB.size)
  replace hT2 := hT2.next hb
  replace s2 := s2.next hb
  replace t2 := t2.next hb
  clear hb
  go_wp2_with fail
  refine (take_ok b [5, 6, 7] 2 1 _ hT2 (by decide) (by decide)).mono ?_
  rintro e w5 ⟨A5, c5, rfl, s5, t5, hT5, hx5⟩
  obtain ⟨A, c, hlie, _, _⟩ := hT2.lie
  replace hB := hB.trans (hx5.below hge hB.size)
  obtain ⟨s2', t2'⟩ := s2.ex t2 hx5 hlie apart46
  clear hx5 hT2 hlie s2 t2
  go_wp2_with fail
  refine (same_here _ _ [5, 6] [5, 6] 2 2 _ _ _ (s2'.push (.cells #[.int .u64 5, .int .u64 6] 37)) (Sl.l2 w5 5 6) rfl rfl (by decide) rfl).mono ?_
  rintro e w6 ⟨rfl, hb⟩
  replace hb := ((Below.refl w5.heap.size w5).alloc (Nat.le_refl _) (.cells #[.int .u64 5, .int .u64 6] 37)).trans (hb.mono (by simp))
  replace hB := hB.trans (hb.mono hB.size)
  replace hT5 := hT5.next hb
  replace s5 := s5.next hb
  clear hb s2' t2' t5
  go_wp2_with fail
  refine (same_here _ _ [7] [7] 1 1 _ _ _ (s5.push (.cells #[.int .u64 7] 37)) (Sl.l1 w6 7) rfl rfl (by decide) rfl).mono ?_
  rintro e w7 ⟨rfl, hb⟩
  replace hb := ((Below.refl w6.heap.size w6).alloc (Nat.le_refl _) (.cells #[.int .u64 7] 37)).trans (hb.mono (by simp))
  replace hB := hB.trans (hb.mono hB.size)
  replace hT5 := hT5.next hb
  clear hb s5
  go_wp2_with fail
  refine (consumed_any b [5, 6, 7] 3 _ hT5).mono ?_
  rintro e w8 ⟨rfl, rfl⟩
  go_wp2_with fail
  go_ret
  exact ⟨rfl, hB⟩
end Go.Proofs.Ytcogiippiaebaaa
