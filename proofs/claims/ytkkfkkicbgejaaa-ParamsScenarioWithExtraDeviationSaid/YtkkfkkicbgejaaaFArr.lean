/- members and parties of package params: membership as an array of booleans. Conditions: party numbers from 0 to 13. -/
import Derived.Test.YtkkfkkicbgejaaaFList
import Derived.Test.YtkkfkkicbgejaaaATp
import Derived.Laws.CopyOwn
import Derived.Deep.MidRow
namespace Go.Proofs.Ytkkfkkicbgejaaa
set_option maxRecDepth 100000
open Go.RowKit PolyMath FieldMath PartyMath

/-- The cells of an array of booleans. -/
def al (f : Int → Bool) : List Value := [.bool (f 0), .bool (f 1), .bool (f 2), .bool (f 3), .bool (f 4), .bool (f 5), .bool (f 6), .bool (f 7), .bool (f 8), .bool (f 9), .bool (f 10), .bool (f 11), .bool (f 12), .bool (f 13)]
def arr (f : Int → Bool) : Array Value := (al f).toArray
theorem arr_at (f : Int → Bool) : ∀ k : Nat, k < 14 → (arr f)[k]? = some (.bool (f k))
  | 0, _ | 1, _ | 2, _ | 3, _ | 4, _ | 5, _ | 6, _ | 7, _ | 8, _ | 9, _ | 10, _ | 11, _ | 12, _ | 13, _ => rfl
theorem arr_put (f : Int → Bool) (b : Bool) : ∀ k : Nat, k < 14 → (arr f).setIfInBounds k (.bool b) = arr (fun i => if i = (k : Int) then b else f i)
  | 0, _ | 1, _ | 2, _ | 3, _ | 4, _ | 5, _ | 6, _ | 7, _ | 8, _ | 9, _ | 10, _ | 11, _ | 12, _ | 13, _ => rfl
theorem arr_same {f g : Int → Bool} (h : ∀ k : Nat, k < 14 → f k = g k) : arr f = arr g := by
  unfold arr al
  rw [show f 0 = g 0 from h 0 (by omega), show f 1 = g 1 from h 1 (by omega), show f 2 = g 2 from h 2 (by omega), show f 3 = g 3 from h 3 (by omega), show f 4 = g 4 from h 4 (by omega), show f 5 = g 5 from h 5 (by omega), show f 6 = g 6 from h 6 (by omega), show f 7 = g 7 from h 7 (by omega), show f 8 = g 8 from h 8 (by omega), show f 9 = g 9 from h 9 (by omega), show f 10 = g 10 from h 10 (by omega), show f 11 = g 11 from h 11 (by omega), show f 12 = g 12 from h 12 (by omega), show f 13 = g 13 from h 13 (by omega)]
/-- An array of booleans lies in block b. -/
def ArAt (w : World) (b : Nat) (f : Int → Bool) : Prop := w.heap[b]? = some (.cells (arr f) 53 (0, 0))
theorem ArAt.cell {w : World} {b : Nat} {f : Int → Bool} (h : ArAt w b f) (k : Nat) (hk : k < 14) : w.cell? ⟨b, k, none⟩ = some (.bool (f k)) := by rw [cell_at h k, arr_at f k hk]
theorem ArAt.all {w : World} {b : Nat} {f : Int → Bool} (h : ArAt w b f) : w.cell? ⟨b, 0, none⟩ = some (.bool (f 0)) ∧ w.cell? ⟨b, 1, none⟩ = some (.bool (f 1)) ∧ w.cell? ⟨b, 2, none⟩ = some (.bool (f 2)) ∧ w.cell? ⟨b, 3, none⟩ = some (.bool (f 3)) ∧ w.cell? ⟨b, 4, none⟩ = some (.bool (f 4)) ∧ w.cell? ⟨b, 5, none⟩ = some (.bool (f 5)) ∧ w.cell? ⟨b, 6, none⟩ = some (.bool (f 6)) ∧ w.cell? ⟨b, 7, none⟩ = some (.bool (f 7)) ∧ w.cell? ⟨b, 8, none⟩ = some (.bool (f 8)) ∧ w.cell? ⟨b, 9, none⟩ = some (.bool (f 9)) ∧ w.cell? ⟨b, 10, none⟩ = some (.bool (f 10)) ∧ w.cell? ⟨b, 11, none⟩ = some (.bool (f 11)) ∧ w.cell? ⟨b, 12, none⟩ = some (.bool (f 12)) ∧ w.cell? ⟨b, 13, none⟩ = some (.bool (f 13)) :=
  ⟨h.cell 0 (by omega), h.cell 1 (by omega), h.cell 2 (by omega), h.cell 3 (by omega), h.cell 4 (by omega), h.cell 5 (by omega), h.cell 6 (by omega), h.cell 7 (by omega), h.cell 8 (by omega), h.cell 9 (by omega), h.cell 10 (by omega), h.cell 11 (by omega), h.cell 12 (by omega), h.cell 13 (by omega)⟩
theorem ArAt.range {w : World} {b : Nat} {f : Int → Bool} (h : ArAt w b f) : w.rangeAt b 0 (al f) := fun j v hj => by
  rw [Nat.zero_add, cell_at h j]
  show (al f).toArray[j]? = some v
  rw [List.getElem?_toArray]
  exact hj
theorem ArAt.frozen {w : World} {b : Nat} {f : Int → Bool} (h : ArAt w b f) (k : Nat) : w.frozen? ⟨b, k, none⟩ = false := frozen_of_row w b k _ _ h
theorem ArAt.next {w w' : World} {b : Nat} {f : Int → Bool} (h : ArAt w b f) (hb : Below w.heap.size w w') : ArAt w' b f := (hb.block _ (heap_lt h)).trans h
theorem ArAt.put {w : World} {b : Nat} {f : Int → Bool} (h : ArAt w b f) (k : Nat) (hk : k < 14) (v : Bool) : ArAt (w.setCell ⟨b, k, none⟩ (.bool v)) b (fun i => if i = (k : Int) then v else f i) := by
  unfold ArAt
  rw [heap_setCell_same w b k _ _ _ h, arr_put f v k hk]
theorem ArAt.aside {w : World} {b d : Nat} {f : Int → Bool} (h : ArAt w b f) (hne : b ≠ d) (k : Nat) (v : Value) : ArAt (w.setCell ⟨d, k, none⟩ v) b f := (Below.heap_setCell w ⟨d, k, none⟩ v b hne).trans h
theorem ArAt.same {w : World} {b : Nat} {f g : Int → Bool} (h : ArAt w b f) (e : ∀ k : Nat, k < 14 → f k = g k) : ArAt w b g := by unfold ArAt; rw [← arr_same e]; exact h

theorem store_arr {w : World} {b : Nat} {g : Int → Bool} (f : Int → Bool) (h : ArAt w b g) : Sem.run Try.prog (storeCells ⟨b, 0, none⟩ (arr f).toList) w = .ok () (w.setRow b (arr f)) :=
  run_storeCells_from (P := Try.prog) b 53 (arr f).toList 0 (arr g) w h rfl (by intro v hv; simp [arr, al] at hv; rcases hv with rfl | rfl | rfl | rfl | rfl | rfl | rfl | rfl | rfl | rfl | rfl | rfl | rfl | rfl <;> rfl)
theorem ArAt.row {w : World} {b : Nat} {g : Int → Bool} (h : ArAt w b g) (f : Int → Bool) : ArAt (w.setRow b (arr f)) b f := setRow_heap w b (arr g) (arr f) 53 (0, 0) h
theorem info_al (f : Int → Bool) : (Try.prog.info? 53).map (·.size) = some (al f).length := by kernel_rfl
theorem info_mem : (Try.prog.info? 53).map (·.size) = some 14 := by kernel_rfl

set_option maxHeartbeats 1000000 in
theorem members_any (A : Option Addr) (c : Nat) (xs : List Int) (hl : xs.length ≤ 1000) (hx : ∀ x ∈ xs, 0 ≤ x ∧ x ≤ 13) (w : World) (h : Si w A c xs) :
    Calls Try.prog 34 #[.slice A xs.length c] w fun e w' => e = .returned (.agg (arr fun i => decide (i ∈ xs))) ∧ Below w.heap.size w w' := by
  go_enter Try.func34, Try.ntmps34
  go_wp2
  have hA0 : ArAt (w.alloc (.cells #[.bool false, .bool false, .bool false, .bool false, .bool false, .bool false, .bool false, .bool false, .bool false, .bool false, .bool false, .bool false, .bool false, .bool false] 53)) w.heap.size (fun _ => false) := heap_alloc_new w _
  have hB0 := (Below.refl _ w).alloc (Nat.le_refl _) (.cells #[.bool false, .bool false, .bool false, .bool false, .bool false, .bool false, .bool false, .bool false, .bool false, .bool false, .bool false, .bool false, .bool false, .bool false] 53)
  have hs1 : (w.alloc (.cells #[.bool false, .bool false, .bool false, .bool false, .bool false, .bool false, .bool false, .bool false, .bool false, .bool false, .bool false, .bool false, .bool false, .bool false] 53)).heap.size = w.heap.size + 1 := World.size_alloc _ _
  generalize w.alloc (.cells #[.bool false, .bool false, .bool false, .bool false, .bool false, .bool false, .bool false, .bool false, .bool false, .bool false, .bool false, .bool false, .bool false, .bool false] 53) = W1 at *
  have hA1 : ArAt (W1.alloc (.cells #[.bool false, .bool false, .bool false, .bool false, .bool false, .bool false, .bool false, .bool false, .bool false, .bool false, .bool false, .bool false, .bool false, .bool false] 53)) (w.heap.size + 1) (fun _ => false) := by rw [← hs1]; exact heap_alloc_new W1 _
  replace hA0 := hA0.next ((Below.refl _ W1).alloc (Nat.le_refl _) (.cells #[.bool false, .bool false, .bool false, .bool false, .bool false, .bool false, .bool false, .bool false, .bool false, .bool false, .bool false, .bool false, .bool false, .bool false] 53))
  replace hB0 := bnew hB0 (.cells #[.bool false, .bool false, .bool false, .bool false, .bool false, .bool false, .bool false, .bool false, .bool false, .bool false, .bool false, .bool false, .bool false, .bool false] 53) (Nat.le_refl _)
  generalize W1.alloc (.cells #[.bool false, .bool false, .bool false, .bool false, .bool false, .bool false, .bool false, .bool false, .bool false, .bool false, .bool false, .bool false, .bool false, .bool false] 53) = W2 at *
  go_loopw [8] (fun i wr => ∃ k : Nat, k ≤ xs.length ∧ i = .int .i64 k ∧ ArAt wr w.heap.size (fun _ => false) ∧ ArAt wr (w.heap.size + 1) (fun i => decide (i ∈ xs.take k)) ∧ Below w.heap.size w wr) (fun i _ => xs.length - (intOf i).toNat)
  case atStart => exact ⟨0, Nat.zero_le _, rfl, hA0, hA1.same (fun k _ => by simp), hB0⟩
  case round =>
    obtain ⟨k, hk, rfl, hR, hM, hB⟩ := hrel
    by_cases hlt : k < xs.length
    · obtain ⟨b, off, x, hA, hbl, hx1, hc⟩ := h.at_ hlt
      subst hA
      have hkN : (k : Int) < xs.length := by omega
      have hxb := hx x (List.mem_of_getElem? hx1)
      obtain ⟨q, rfl⟩ : ∃ q : Nat, x = (q : Int) := ⟨x.toNat, by omega⟩
      have hc2 := (hB.cell (p := ⟨b, off + k, none⟩) hbl).trans hc
      have hcq := hM.cell q (by omega)
      have hfq := hM.frozen q
      have hq13 : (q : Int) < 14 := by omega
      have hR2 := Lib.hid (hR.aside (d := w.heap.size + 1) (by omega) q (.bool true))
      have hM2 := Lib.hid ((hM.put q (by omega) true).same (g := fun i => decide (i ∈ xs.take (k + 1))) (fun j _ => by
        rw [List.take_add_one, hx1]
        by_cases e : (j : Int) = (q : Int)
        · rw [if_pos e, e]; exact (decide_eq_true (List.mem_append_right _ (List.mem_singleton.2 rfl))).symm
        · rw [if_neg e, decide_eq_decide]
          constructor
          · exact fun h => List.mem_append_left _ h
          · intro h
            rcases List.mem_append.1 h with h | h
            · exact h
            · exact absurd (List.mem_singleton.1 h) e))
      have hB2 := Lib.hid (hB.setCell (p := ⟨w.heap.size + 1, q, none⟩) (by simp) (.bool true))
      clear hR hM hx1 hxb hc
      go_wp2
      go_roundw
      case rel => exact ⟨k + 1, by omega, by simp, hR2.out, hM2.out, hB2.out⟩
      case measure => simp [intOf]; omega
    · obtain rfl : k = xs.length := by omega
      rw [List.take_length] at hM
      generalize hf : (fun i => decide (i ∈ xs)) = f at *
      have hst := store_arr f hR
      have hR2 := hR.row f
      have hB2 : Below w.heap.size w (wr.setRow w.heap.size (arr f)) := below_setRow hB (Nat.le_refl _) _
      clear hR
      generalize wr.setRow w.heap.size (arr f) = W5 at *
      go_wp2_with (refine wpList_load_row rfl 53 (.tmp 3) rfl (w.heap.size + 1) rfl 53 (arr f) (0, 0) _ hM Try.underlying53 rfl info_mem ?_)
      refine bodyPost_ret (v := .agg (arr f)) ?_ rfl ⟨by rw [hf], hB2⟩
      exact results_cell_row (h := rfl) (g := w.heap.size) (t := 53) (cs := arr f) (fr := (0, 0)) (d := _) (hp := rfl) (hg := hR2) (hu := Try.underlying53) (hd := rfl) (hi := info_mem) _ _
set_option maxHeartbeats 1000000 in
theorem parties_any (p t : Int) (N : Nat) (hN : N ≤ 13) (f : Int → Bool) (b : Bool) (w : World) :
    Calls Try.prog 35 #[pv p N t, .agg (arr f), .bool b] w fun e w' => RowO w e w' (sel (fun i => f i == b) N) := by
  obtain ⟨i0, hi0, hz0, hz1, hz2⟩ := info_parts info_int
  have hX1 := (Bx.made w p N t).next ((Below.refl _ (w.alloc (.cells #[.int .u64 p, .int .i64 N, .int .i64 t] 24))).alloc (Nat.le_refl _) (.cells (arr f) 53))
  have hM1 : ArAt ((w.alloc (.cells #[.int .u64 p, .int .i64 N, .int .i64 t] 24)).alloc (.cells (arr f) 53)) (w.heap.size + 1) f := by
    have h := heap_alloc_new (w.alloc (.cells #[.int .u64 p, .int .i64 N, .int .i64 t] 24)) (.cells (arr f) 53)
    rw [World.size_alloc] at h
    exact h
  have hB1 : Below w.heap.size w ((w.alloc (.cells #[.int .u64 p, .int .i64 N, .int .i64 t] 24)).alloc (.cells (arr f) 53)) := bnew ((Below.refl _ w).alloc (Nat.le_refl _) _) _ (Nat.le_refl _)
  have hs1 : w.heap.size ≤ ((w.alloc (.cells #[.int .u64 p, .int .i64 N, .int .i64 t] 24)).alloc (.cells (arr f) 53)).heap.size := hB1.size
  have hN' : (N : Int) ≤ 13 := by omega
  have hg : ∃ cs, cs = arr f := ⟨_, rfl⟩
  obtain ⟨cs, hcs⟩ := hg
  unfold pv
  rw [← hcs] at hX1 hM1 hB1 hs1 ⊢
  have hcs' := Lib.hid hcs
  clear hcs
  go_enter Try.func35, Try.ntmps35
  go_wp2
  generalize (w.alloc (.cells #[.int .u64 p, .int .i64 N, .int .i64 t] 24)).alloc (.cells cs 53) = W1 at *
  go_loopw [7, 8] (fun v i wr => ∃ k : Nat, k ≤ N ∧ i = .int .i64 ((k : Int) + 1) ∧ Hid (OI wr W1.heap.size v (sel (fun i => f i == b) k)) ∧ Below W1.heap.size W1 wr) (fun _ i _ => N + 1 - (intOf i).toNat)
  case atStart => exact ⟨0, Nat.zero_le _, rfl, Lib.hid (OI.nil _ _), Below.refl _ _⟩
  case round =>
    obtain ⟨k, hk, rfl, hO, hB⟩ := hrel
    obtain ⟨c0, c1, c2, hblt⟩ := hX1.next hB
    have hM := hM1.next hB
    have hsz := hB.size
    by_cases hlt : k < N
    · have hkN : (k : Int) + 1 ≤ N := by omega
      have hcm := hM.cell (k + 1) (by omega)
      have hkl := sel_len (fun i => f i == b) k
      have hnx := sel_succ (fun i => f i == b) k
      rw [show (((k + 1 : Nat)) : Int) = (k : Int) + 1 from rfl] at hcm
      have hk14 : (k : Int) + 1 < 14 := by omega
      clear hM
      generalize f ((k : Int) + 1) = q at *
      have hrow := hO.out
      unfold OI at hrow
      cases hq : (q == b) with
      | true =>
        rw [hq, if_pos rfl] at hnx
        have hNX := Lib.hid hnx
        have hHL : (sel (fun i => f i == b) k).length ≤ k := hkl
        generalize sel (fun i => f i == b) k = H at *
        have hrow3 := hrow.alloc (.cells #[.int .i64 ((k : Int) + 1)] 3)
        clear hnx hkl hO
        go_wp2_with (at_builtin; refine wpList_append_own _ rfl _ _ 25 rfl W1.heap.size 3 i0 (.int .i64 0) 1 8 Try.underlying25 hi0 hz0 hz1 hz2 rfl (by decide) _ _ _ rfl hrow3 ⟨wr.heap.size, 0, none⟩ 1 1 [.int .i64 ((k : Int) + 1)] rfl rfl (cell_one_new _ _ _) (by simp [Value.oneCell']) (by simp only [maxLen]; omega) (by omega) (by simp; omega) ?_; intro v' w3 hown hgrow _)
        have hB3 : Below W1.heap.size W1 w3 := (hB.alloc (Nat.le_trans hsz (Nat.le_refl _)) _).grown hgrow (by simp; omega) (fun q e => (hrow3.lt q e).1)
        go_roundw
        case rel => exact ⟨k + 1, by omega, by simp, by rw [hNX.out]; exact Lib.hid (OI.snoc rfl hown), hB3⟩
        case measure => simp [intOf]; omega
      | false =>
        rw [hq, if_neg (by simp)] at hnx
        have hNX := Lib.hid hnx
        clear hnx hkl hrow
        go_wp2
        go_roundw
        case rel => exact ⟨k + 1, by omega, by simp, by rw [hNX.out]; exact hO, hB⟩
        case measure => simp [intOf]; omega
    · obtain rfl : k = N := by omega
      go_wp2
      go_ret
      exact ⟨_, rfl, hO.out.weak hs1, hB1.trans (hB.mono hs1)⟩
end Go.Proofs.Ytkkfkkicbgejaaa
