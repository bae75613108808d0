/- The examples of the document for layer 5 hold: awake returns true. Nothing that lay is changed. No conditions. -/
import Derived.Test.YtpjgpfjepcidgaaIRefB
import Derived.Test.YtpjgpfjepcidgaaIRefV
import Derived.Test.YtpjgpfjepcidgaaPAwake
namespace Go.Proofs.Ytpjgpfjepcidgaa
open Go.RowKit PolyMath FieldMath

theorem Pt.lit (w : World) (t : TypeId) (ps : List (Int × Int)) : Pt (w.alloc (.cells (pcells ps).toArray t)) (some ⟨w.heap.size, 0, none⟩) ps.length ps := by
  refine ⟨Nat.le_refl _, (fun h => by cases h), fun ad e _ => ?_⟩
  injection e with e
  subst e
  refine ⟨w.heap.size, 0, rfl, by simp, fun j q hq => ?_⟩
  have h := pcells_at ps j q hq
  have key : ∀ i v, (pcells ps)[i]? = some v → (w.alloc (.cells (pcells ps).toArray t)).cell? ⟨w.heap.size, 0 + i, none⟩ = some v := fun i v hv => by
    rw [cell_of_row _ w.heap.size (0 + i) (pcells ps).toArray t (0, 0) (World.alloc_heap_new w _), Nat.zero_add]
    simpa using hv
  exact ⟨key _ _ h.1, key _ _ h.2⟩
theorem Sll.lit2 (w : World) {A1 A2 : Option Addr} {c1 c2 : Nat} {r1 r2 : List Int} (h1 : Sl w A1 c1 r1) (h2 : Sl w A2 c2 r2) :
    Sll (w.alloc (.cells #[.slice A1 r1.length c1, .slice A2 r2.length c2] 27)) (some ⟨w.heap.size, 0, none⟩) 2 [r1, r2] := by
  refine ⟨Nat.le_refl _, (fun h => by cases h), fun ad e _ => ?_⟩
  injection e with e
  subst e
  refine ⟨w.heap.size, 0, rfl, by simp, fun j r hr => ?_⟩
  rw [cell_of_row _ w.heap.size (0 + j) _ 27 (0, 0) (World.alloc_heap_new w _), Nat.zero_add]
  match j, hr with
  | 0, hr => simp at hr; subst hr; exact ⟨A1, c1, rfl, h1.push _⟩
  | 1, hr => simp at hr; subst hr; exact ⟨A2, c2, rfl, h2.push _⟩
  | n + 2, hr => simp at hr

theorem same_b (A A' : Option Addr) (xs : List Int) (c c' : Nat) (w : World) (h : Sl w A c xs) (h' : Sl w A' c' xs) (hl : xs.length ≤ 1000) :
    Calls Try.prog 15 #[.slice A xs.length c, .slice A' xs.length c'] w fun e w' => e = .returned (.bool true) ∧ Below w.heap.size w w' :=
  (same_is A A' xs c c' w h h' hl).mono fun _ _ ⟨he, m, hm⟩ => ⟨he, by rw [hm]; exact below_drewN (Below.refl _ w) m⟩
theorem rows_b (A A' : Option Addr) (rows : List (List Int)) (c c' : Nat) (w : World) (h : Sll w A c rows) (h' : Sll w A' c' rows) (hl : rows.length ≤ 1000) (hr : ∀ r ∈ rows, r.length ≤ 1000) :
    Calls Try.prog 27 #[.slice A rows.length c, .slice A' rows.length c'] w fun e w' => e = .returned (.bool true) ∧ Below w.heap.size w w' :=
  (sameRows_is A A' rows c c' w h h' hl hr).mono fun _ _ ⟨he, m, hm⟩ => ⟨he, by rw [hm]; exact below_drewN (Below.refl _ w) m⟩
theorem unlike_b (A : Option Addr) (c : Nat) (xs : List Int) (w : World) (h : Sl w A c xs) (hl : xs.length ≤ 1000) (b : Bool) (hb : decide xs.Nodup = b) :
    Calls Try.prog 18 #[.slice A xs.length c] w fun e w' => e = .returned (.bool b) ∧ Below w.heap.size w w' :=
  (unlike_any A c xs w h hl).mono fun _ _ ⟨he, m, hm⟩ => ⟨by rw [he, hb], by rw [hm]; exact below_drewN (Below.refl _ w) m⟩

theorem ex_pol (A : Option Addr) (c : Nat) (w : World) (h : Pt w A c [(1, 2), (2, 3)]) : Calls Try.prog 13 #[.int .u64 31, .slice A 2 c] w fun e w' => ∃ A1 c1, e = .returned (.tuple #[.slice A1 2 c1, .int .i64 0]) ∧ Sl w' A1 c1 [1, 1] ∧ Below w.heap.size w w' := by
  refine (pol_any 31 ok31 A c [(1, 2), (2, 3)] (el_dec (by decide)) (el_dec (by decide)) (by decide) w h).mono ?_
  rintro e w' (⟨_, A1, c1, he, hs, hb⟩ | ⟨hn, _⟩)
  · rw [show thru 31 [(1, 2), (2, 3)] = [1, 1] from by decide +kernel] at he hs
    exact ⟨A1, c1, he, hs, hb⟩
  · exact absurd (show (px [(1, 2), (2, 3)]).Nodup by decide) hn
theorem ex_dup (A : Option Addr) (c : Nat) (w : World) (h : Pt w A c [(1, 2), (1, 3)]) : Calls Try.prog 13 #[.int .u64 31, .slice A 2 c] w fun e w' => e = .returned (.tuple #[.slice none 0 0, .int .i64 1]) ∧ Below w.heap.size w w' := by
  refine (pol_any 31 ok31 A c [(1, 2), (1, 3)] (el_dec (by decide)) (el_dec (by decide)) (by decide) w h).mono ?_
  rintro e w' (⟨hn, _⟩ | ⟨_, he, hb⟩)
  · exact absurd hn (show ¬ (px [(1, 2), (1, 3)]).Nodup by decide)
  · exact ⟨he, hb⟩
theorem ex_wts (A : Option Addr) (c : Nat) (w : World) (h : Sl w A c [1, 2]) : Calls Try.prog 20 #[.int .u64 31, .slice A 2 c, .int .u64 0] w fun e w' => ∃ A1 c1, e = .returned (.tuple #[.slice A1 2 c1, .int .i64 0]) ∧ Sl w' A1 c1 [2, 30] ∧ Below w.heap.size w w' := by
  refine (wt_any 31 0 ok31 (by decide) A c [1, 2] (el_dec (by decide)) (by decide) w h).mono ?_
  rintro e w' (⟨_, A1, c1, he, hs, hb⟩ | ⟨hn, _⟩)
  · rw [show wts 31 [1, 2] 0 = [2, 30] from by decide +kernel] at he hs
    exact ⟨A1, c1, he, hs, hb⟩
  · exact absurd (show ([1, 2] : List Int).Nodup by decide) hn
theorem ex_vand (A : Option Addr) (c : Nat) (w : World) (h : Sl w A c [0, 3]) : Calls Try.prog 26 #[.int .u64 31, .slice A 2 c, .int .i64 3] w fun e w' => ∃ A1 c1, e = .returned (.slice A1 2 c1) ∧ Sll w' A1 c1 [[1, 0, 0], [1, 3, 9]] ∧ Below w.heap.size w w' := by
  refine (vand_any 31 3 ok31 3 (by decide) (by decide) A c [0, 3] (el_dec (by decide)) (by decide) w h).mono ?_
  rintro e w' ⟨A1, c1, he, hs, hb⟩
  rw [show vmx 31 [0, 3] 3 = [[1, 0, 0], [1, 3, 9]] from by decide +kernel] at hs
  exact ⟨A1, c1, he, hs, hb⟩

set_option maxRecDepth 100000 in
set_option maxHeartbeats 2000000 in
theorem awake_any (w : World) : Calls Try.prog 10 #[] w fun e w' => e = .returned (.bool true) ∧ Below w.heap.size w w' := by
  have hp1 := Pt.lit w 34 [(1, 2), (2, 3)]
  have hB := bnew (Below.refl w.heap.size w) (.cells (pcells [(1, 2), (2, 3)]).toArray 34) (Nat.le_refl _)
  go_enter Try.func10, Try.ntmps10
  go_wp2_with fail
  refine (ex_pol _ _ _ hp1).mono ?_
  rintro e w1 ⟨A1, c1, rfl, hm, hb⟩
  replace hB := hB.trans (hb.mono hB.size)
  clear hb hp1
  go_wp2_with fail
  refine (ex_wts _ _ _ (Sl.l2 w1 1 2)).mono ?_
  rintro e w2 ⟨A2, c2, rfl, hq, hb⟩
  replace hm := (hm.push _).next hb
  replace hB := (bnew hB (.cells #[.int .u64 1, .int .u64 2] 22) (Nat.le_refl _))
  replace hB := hB.trans (hb.mono hB.size)
  clear hb
  have hp2 := Pt.lit w2 34 [(1, 2), (1, 3)]
  replace hm := hm.push (.cells (pcells [(1, 2), (1, 3)]).toArray 34)
  replace hq := hq.push (.cells (pcells [(1, 2), (1, 3)]).toArray 34)
  replace hB := bnew hB (.cells (pcells [(1, 2), (1, 3)]).toArray 34) (Nat.le_refl _)
  go_wp2_with fail
  refine (ex_dup _ _ _ hp2).mono ?_
  rintro e w3 ⟨rfl, hb⟩
  replace hm := hm.next hb
  replace hq := hq.next hb
  replace hB := hB.trans (hb.mono hB.size)
  clear hb hp2
  go_wp2_with fail
  refine (same_b _ _ [1, 1] _ _ _ (hm.push (.cells #[.int .u64 1, .int .u64 1] 22)) (Sl.l2 w3 1 1) (by decide)).mono ?_
  rintro e w4 ⟨rfl, hb⟩
  replace hq := (hq.push (.cells #[.int .u64 1, .int .u64 1] 22)).next hb
  replace hB := (bnew hB (.cells #[.int .u64 1, .int .u64 1] 22) (Nat.le_refl _))
  replace hB := hB.trans (hb.mono hB.size)
  clear hb hm
  go_wp2_with fail
  refine (same_b _ _ [2, 30] _ _ _ (hq.push (.cells #[.int .u64 2, .int .u64 30] 22)) (Sl.l2 w4 2 30) (by decide)).mono ?_
  rintro e w5 ⟨rfl, hb⟩
  replace hB := (bnew hB (.cells #[.int .u64 2, .int .u64 30] 22) (Nat.le_refl _))
  replace hB := hB.trans (hb.mono hB.size)
  clear hb hq
  go_wp2_with fail
  refine (ex_vand _ _ _ (Sl.l2 w5 0 3)).mono ?_
  rintro e w6 ⟨A6, c6, rfl, hv, hb⟩
  replace hB := (bnew hB (.cells #[.int .u64 0, .int .u64 3] 22) (Nat.le_refl _))
  replace hB := hB.trans (hb.mono hB.size)
  clear hb
  go_wp2_with fail
  have hr1 := (Sl.l3 w6 1 0 0).push (.cells #[.int .u64 1, .int .u64 3, .int .u64 9] 22)
  have hr2 := Sl.l3b w6 (.cells #[.int .u64 1, .int .u64 0, .int .u64 0] 22) 1 3 9
  have hl2 := Sll.lit2 _ hr1 hr2
  have hv2 := ((hv.push (.cells #[.int .u64 1, .int .u64 0, .int .u64 0] 22)).push (.cells #[.int .u64 1, .int .u64 3, .int .u64 9] 22)).push (.cells #[.slice (some ⟨w6.heap.size, 0, none⟩) 3 3, .slice (some ⟨w6.heap.size + 1, 0, none⟩) 3 3] 27)
  simp only [World.size_alloc] at hl2
  refine (rows_b _ _ [[1, 0, 0], [1, 3, 9]] _ _ _ hv2 hl2 (by decide) (by decide)).mono ?_
  rintro e w7 ⟨rfl, hb⟩
  replace hB := bnew (bnew (bnew hB (.cells #[.int .u64 1, .int .u64 0, .int .u64 0] 22) (Nat.le_refl _)) (.cells #[.int .u64 1, .int .u64 3, .int .u64 9] 22) (Nat.le_refl _)) (.cells #[.slice (some ⟨w6.heap.size, 0, none⟩) 3 3, .slice (some ⟨w6.heap.size + 1, 0, none⟩) 3 3] 27) (Nat.le_refl _)
  replace hB := hB.trans (hb.mono hB.size)
  clear hb hv hv2 hl2
  go_wp2_with fail
  go_ret
  exact ⟨rfl, hB⟩
end Go.Proofs.Ytpjgpfjepcidgaa
