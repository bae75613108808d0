/- Row, Eval and Translate of the reference of layer 10: new memory. Conditions: a supported prime, a square matrix of at most 100 rows over its field, elements. -/
import Derived.Test.YtkhiiiggmhncbaaGreatERef
import Derived.Test.YtkhiiiggmhncbaaGreatEShift
import Derived.Test.YtkhiiiggmhncbaaGreatMB
import Derived.Test.YtkhiiiggmhncbaaGreatMC
import Derived.Test.YtkhiiiggmhncbaaGreatMD
namespace Go.Proofs.YtkhiiiggmhncbaaGreat
set_option maxRecDepth 100000
open Go.RowKit PolyMath FieldMath MatMath

theorem rows_next (f : Nat → List Int) (k : Nat) : (List.range (k + 1)).map f = (List.range k).map f ++ [f k] := by rw [List.range_succ, List.map_append]; rfl
theorem rows_len (f : Nat → List Int) (k : Nat) : ((List.range k).map f).length = k := by simp

set_option maxHeartbeats 4000000 in
theorem rRow_any (p x : Int) (hp : OkP p) (hx : 0 ≤ x ∧ x < p) (A : Option Addr) (c N : Nat) (S : List (List Int)) (hS : Mat p N N S) (hN : N ≤ 100) (w : World) (h : Sll w A c S) :
    Calls Tryz.prog 26 #[.int .u64 p, .slice A N c, .int .u64 x] w fun e w' => ∃ A' c', e = .returned (.slice A' N c') ∧ Sl w' A' c' (brow p S x) ∧ Below w.heap.size w w' := by
  obtain ⟨i0, hi, hz0, hz1, hz2⟩ := info_parts info_u64
  have hbd := hp.bd
  have hl := Lib.hid hS.rows
  have hro := Lib.hid fun i (hi : i < N) => hS.ro hi
  have hce := Lib.hid fun k => hS.colm_el (by omega) k
  have hcol : ∀ k, Hid (((List.range N).map fun t => mx S t k) = colm S k) := fun k => Lib.hid (by unfold colm; rw [hl.out])
  have hEnd : Hid (((List.range N).map fun j => pev p (colm S j) x) = brow p S x) := Lib.hid (by unfold brow; rw [hl.out])
  clear hS
  go_enter Tryz.func26, Tryz.ntmps26
  go_wp2
  go_loopw [7, 8] (fun o i wr => ∃ k : Nat, k ≤ N ∧ i = .int .i64 k ∧ wr.ownsRow w.heap.size 22 1 o k (((List.range k).map fun j => pev p (colm S j) x).map (Value.int .u64)) ∧ Below w.heap.size w wr) (fun _ i _ => N - (intOf i).toNat)
  case atStart => exact ⟨0, Nat.zero_le _, rfl, World.ownsRow_nil _ _ _ _, Below.refl _ _⟩
  case round =>
    obtain ⟨k, hk, rfl, hO, hB⟩ := hrel
    have hsz := hB.size
    rename World => W0
    by_cases hlt : k < N
    · have hkN : (k : Int) < N := by omega
      obtain ⟨Ao, co', ho⟩ := row_form hO
      subst ho
      have HO := Lib.hid hO
      clear hO
      go_wp2
      go_loopw [9, 10] (fun v i wr => ∃ j : Nat, j ≤ N ∧ i = .int .i64 j ∧ wr.ownsRow W0.heap.size 22 1 v j (((List.range j).map fun t => mx S t k).map (Value.int .u64)) ∧ Below W0.heap.size W0 wr) (fun _ i _ => N - (intOf i).toNat)
      case atStart => exact ⟨0, Nat.zero_le _, rfl, World.ownsRow_nil _ _ _ _, Below.refl _ _⟩
      case round =>
        obtain ⟨j, hj9, rfl, hrow, hB2⟩ := hrel
        have hsz2 := hB2.size
        by_cases hlj : j < N
        · have hjn : (j : Int) < N := by omega
          obtain ⟨b1, o1, A1, c1, hA1, hbl1, hc1, hs1⟩ := h.rowAt (i := j) (L := N) (by rw [hl.out]; exact hlj) (hro.out j hlj).1
          obtain ⟨b3, o3, y, hA3, hbl3, hy, hcy⟩ := hs1.at_ (k := k) (by rw [(hro.out j hlj).1]; exact hlt)
          subst hA1 hA3
          have hY := Lib.hid (mx_at2 hy)
          have d1 := ((hB.trans (hB2.mono hsz)).cell (p := ⟨b1, o1 + j, none⟩) hbl1).trans hc1
          have d3 := ((hB.trans (hB2.mono hsz)).cell (p := ⟨b3, o3 + k, none⟩) hbl3).trans hcy
          obtain ⟨Av, cv, hv⟩ := row_form hrow
          subst hv
          have hO1 := Lib.hid (hrow.alloc (.cells #[.int .u64 y] 22))
          have hB1 := bnew hB2 (.cells #[.int .u64 y] 22) (Nat.le_refl _)
          clear hy hrow
          go_wp2_with (at_builtin; refine wpList_append_own _ rfl _ _ 23 rfl W0.heap.size 22 i0 (.int .u64 0) 1 8 Tryz.underlying23 hi hz0 hz1 hz2 rfl (by decide) _ _ _ rfl hO1.out ⟨wr.heap.size, 0, none⟩ 1 1 [.int .u64 y] rfl rfl (cell_one_new _ _ _) (by simp [Value.oneCell']) (by simp only [maxLen]; omega) (by omega) (by simp; omega) ?_; intro v6 w6 hown6 hgrow6 _)
          have hB6 := hB1.grown hgrow6 (by simp; omega) (fun x e => (World.ownsRow.lt hO1.out x e).1)
          go_roundw
          case rel => exact ⟨j + 1, by omega, by simp, own_next (f := fun t => mx S t k) (by show World.ownsRow _ _ _ _ _ _ (_ ++ [.int .u64 (mx S j k)]); rw [hY.out]; exact hown6), hB6⟩
          case measure => simp [intOf]; omega
        · obtain rfl : j = N := by omega
          rw [(hcol k).out] at hrow
          obtain ⟨A2, c2, hv, hs2⟩ := own_form hrow
          have hlc : (colm S k).length = j := by rw [colm_len, hl.out]
          rw [hlc] at hv
          subst hv
          have hval := rVal_any p x hp hx A2 c2 (colm S k) (hce.out k) (by omega) wr hs2
          rw [hlc] at hval
          have hOw := own_below HO.out hB2
          have hBB := hB.trans (hB2.mono hsz)
          clear hs2 hrow hlc
          go_wp2_with fail
          refine hval.mono ?_; rintro e w5 ⟨rfl, m, hm⟩
          have hb5 : Below wr.heap.size wr w5 := by rw [hm]; exact below_drewN (Below.refl _ wr) m
          have hO5 := own_below hOw hb5
          have hB5 := hBB.trans (hb5.mono hBB.size)
          have hsz5 := hB5.size
          have hO6 := Lib.hid (hO5.alloc (.cells #[.int .u64 (pev p (colm S k) x)] 22))
          have hB6 := bnew hB5 (.cells #[.int .u64 (pev p (colm S k) x)] 22) (Nat.le_refl _)
          clear hm hb5 hO5 hOw hBB hval
          go_wp2_with (at_builtin; refine wpList_append_own _ rfl _ _ 23 rfl w.heap.size 22 i0 (.int .u64 0) 1 8 Tryz.underlying23 hi hz0 hz1 hz2 rfl (by decide) _ _ _ rfl hO6.out ⟨w5.heap.size, 0, none⟩ 1 1 [.int .u64 (pev p (colm S k) x)] rfl rfl (cell_one_new _ _ _) (by simp [Value.oneCell']) (by simp only [maxLen]; omega) (by omega) (by simp; omega) ?_; intro v7 w7 hown7 hgrow7 _)
          have hB7 := hB6.grown hgrow7 (by simp; omega) (fun x e => (World.ownsRow.lt hO6.out x e).1)
          go_roundw
          case rel => exact ⟨k + 1, by omega, by simp, own_next (f := fun j => pev p (colm S j) x) hown7, hB7⟩
          case measure => simp [intOf]; omega
    · obtain rfl : k = N := by omega
      rw [hEnd.out] at hO
      obtain ⟨A2, c2, hv, hs2⟩ := own_form hO
      rw [brow_len, hl.out] at hv
      subst hv
      have HS2 := Lib.hid hs2
      clear hs2 hO
      go_wp2
      go_ret
      exact ⟨A2, c2, rfl, HS2.out, hB⟩
end Go.Proofs.YtkhiiiggmhncbaaGreat
