/- The helpers of package interpolate that make lists: abscissas, basisScales, vanishing, powers; nothing that lay is changed. Conditions: a supported prime, elements of its field, at most 100 of them. -/
import Derived.Test.YtkkfkkicbgejaaaIBase
import Derived.Test.YtkkfkkicbgejaaaPMore
namespace Go.Proofs.Ytkkfkkicbgejaaa
set_option maxRecDepth 100000
open Go.RowKit PolyMath FieldMath

theorem OwnAt.next {w w' : World} {base g n c : Nat} {xs : List Int} (h : OwnAt w base g n c xs) (hb : Below w.heap.size w w') : OwnAt w' base g n c xs := own_below h hb

set_option maxHeartbeats 1000000 in
theorem absc_row (A : Option Addr) (c : Nat) (ps : List (Int × Int)) (hl : ps.length ≤ 100) (w : World) (h : Pt w A c ps) :
    Calls Try.prog 52 #[.slice A ps.length c] w fun e w' => Row w e w' (px ps) := by
  obtain ⟨i0, hi, hz0, hz1, hz2⟩ := info_parts info_u64
  have hb8 : i0.bytes * ps.length ≤ 281474976710656 := by rw [hz2]; omega
  have hB8 := Lib.hid hb8
  have hD := Lib.hid (show fillL (co (px ps)) ps.length ps.length = px ps from by rw [fillL_done, ← px_len]; exact range_co _)
  clear hb8
  go_enter Try.func52, Try.ntmps52
  go_wp2_with (at_make; refine wpList_make_full _ rfl _ _ 33 rfl w.heap.size 22 i0 (.int .u64 0) 1 Try.underlying33 hi hz0 hz1 .i64 .i64 _ _ ps.length rfl rfl (by omega) (by omega) hB8.out (by simp only [maxLen]; omega) (Nat.le_refl _) ?_; intro w1 hown1 hgrow1)
  have hb1 : Below w.heap.size w w1 := (Below.refl _ w).grown hgrow1 (Nat.le_refl _) (fun k e => by cases e)
  simp only [Value.cells, toList_madeCells_one, Nat.mul_one] at hown1
  have hown2 : OwnAt w1 w.heap.size w.heap.size ps.length ps.length (fillL (co (px ps)) ps.length 0) := by
    unfold OwnAt; rw [fillL_start]; simpa using hown1
  clear hown1 hgrow1
  go_loopw [11] (fun i wr => ∃ k : Nat, k ≤ ps.length ∧ i = .int .i64 k ∧ OwnAt wr w.heap.size w.heap.size ps.length ps.length (fillL (co (px ps)) ps.length k) ∧ Below w.heap.size w wr) (fun i _ => ps.length - (intOf i).toNat)
  case atStart => exact ⟨0, Nat.zero_le _, rfl, hown2, hb1⟩
  case round =>
    obtain ⟨k, hk, rfl, hO, hB⟩ := hrel
    by_cases hlt : k < ps.length
    · obtain ⟨b, off, x, y, hA, hbl, hx, hcx, hcy⟩ := (h.next hB).at_ (by omega)
      subst hA
      have hset := fillL_set (co (px ps)) ps.length k
      rw [px_at hx] at hset
      have hS := Lib.hid hset
      have hcell := hO.cell (fillL_get (co (px ps)) ps.length k k hlt)
      have hfz := hO.frozen k
      have hlt2 := hO.lt
      have hne : w.heap.size ≠ wr.heap.size := by omega
      have hne2 : b ≠ wr.heap.size := by omega
      have hput := Lib.hid ((hO.put k x).push (.cells #[.int .u64 x, .int .u64 y] 57))
      have hbel := Lib.hid (bnew (hB.setCell (p := ⟨w.heap.size, k, none⟩) (Nat.le_refl _) (.int .u64 x)) (.cells #[.int .u64 x, .int .u64 y] 57) (Nat.le_refl _))
      have hkN : (k : Int) < ps.length := by omega
      clear hset hx
      go_wp2
      go_roundw
      case rel => exact ⟨k + 1, by omega, by simp, by rw [← hS.out]; exact hput.out, hbel.out⟩
      case measure => simp [intOf]; omega
    · obtain rfl : k = ps.length := by omega
      rw [hD.out] at hO
      have hs3 := Lib.hid hO.sl
      have hlen := Lib.hid (px_len ps)
      go_wp2
      go_ret
      exact ⟨_, _, by rw [hlen.out]; rfl, hs3.out, hB⟩

set_option maxHeartbeats 1000000 in
theorem van_row (p : Int) (hp : OkP p) (A : Option Addr) (c : Nat) (xs : List Int) (hxs : El p xs) (hl : xs.length ≤ 100) (w : World) (h : Sl w A c xs) :
    Calls Try.prog 54 #[.int .u64 p, .slice A xs.length c] w fun e w' => Row w e w' (van p [1] xs) := by
  have hbd := hp.bd
  go_enter Try.func54, Try.ntmps54
  go_wp2
  go_loopw [5, 11] (fun v i wr => ∃ (k : Nat) (A' : Option Addr) (c' : Nat), k ≤ xs.length ∧ i = .int .i64 k ∧ v = .slice A' (van p [1] (xs.take k)).length c' ∧ Sl wr A' c' (van p [1] (xs.take k)) ∧ Below w.heap.size w wr) (fun _ i _ => xs.length - (intOf i).toNat)
  case atStart => exact ⟨0, some ⟨w.heap.size, 0, none⟩, 1, Nat.zero_le _, rfl, rfl, Sl.l1 w 1, bnew (Below.refl _ _) _ (Nat.le_refl _)⟩
  case round =>
    obtain ⟨k, A', c', hk, rfl, rfl, hs, hB⟩ := hrel
    by_cases hlt : k < xs.length
    · obtain ⟨b, off, x, hA, _, hx, hcx⟩ := (h.next hB).at_ hlt
      subst hA
      have hxb := hxs x (List.mem_of_getElem? hx)
      have hk' : (k : Int) < xs.length := by omega
      have hE : van p [1] (xs.take (k + 1)) = pmul p (van p [1] (xs.take k)) (lin p x) := by
        rw [List.take_add_one, hx]; exact van_snoc p (xs.take k) [1] x
      have hEl := van_el (p := p) (by omega) (xs.take k) [1] (El.one (by omega))
      have hLn := van_len p (xs.take k) [1]
      rw [List.length_take, List.length_singleton] at hLn
      have hmul := fun w2 A2 c2 (h2 : Sl w2 A2 c2 (lin p x)) (h3 : Sl w2 A' c' (van p [1] (xs.take k))) => mul_row p hp A' A2 c' c2 _ _ hEl (lin_el (by omega) x) (by omega) (by rw [lin_len]; omega) w2 h3 h2
      rw [← hE] at hmul
      clear hx hE hEl hLn
      generalize van p [1] (xs.take k) = V at *
      go_wp2_with (first | (go_at_call 56; refine (lin_row p x hp hxb _).mono ?_; rintro e w2 ⟨A2, c2, rfl, hs2, hb2⟩; have hm := hmul w2 A2 c2 hs2 (hs.next hb2); clear hs2) | (go_at_call 73; refine hm.mono ?_; rintro e w3 ⟨A3, c3, rfl, hs3, hb3⟩; clear hm hmul))
      have hB3 := (hB.trans (hb2.mono hB.size)).trans (hb3.mono (Nat.le_trans hB.size hb2.size))
      go_roundw
      case rel => exact ⟨k + 1, _, _, by omega, by simp, rfl, hs3, hB3⟩
      case measure => simp [intOf]; omega
    · obtain rfl : k = xs.length := by omega
      rw [List.take_length] at *
      go_wp2
      go_ret
      exact ⟨_, _, rfl, hs, hB⟩

/-- What basisScales hands back. -/
def SclRow (p : Int) (xs : List Int) (w : World) (e : Ending) (w' : World) : Prop :=
  (xs.Nodup ∧ ∃ g, e = .returned (.tuple #[.slice (some ⟨g, 0, none⟩) xs.length xs.length, .int .i64 0]) ∧ OwnAt w' w.heap.size g xs.length xs.length (scls p xs) ∧ Below w.heap.size w w') ∨
  (¬ xs.Nodup ∧ e = .returned (.tuple #[.slice none 0 0, .int .i64 1]) ∧ Below w.heap.size w w')

set_option maxHeartbeats 1000000 in
theorem scl_row (p : Int) (hp : OkP p) (A : Option Addr) (c : Nat) (xs : List Int) (hxs : El p xs) (hl : xs.length ≤ 100) (w : World) (h : Sl w A c xs) :
    Calls Try.prog 53 #[.int .u64 p, .slice A xs.length c] w fun e w' => SclRow p xs w e w' := by
  obtain ⟨i0, hi, hz0, hz1, hz2⟩ := info_parts info_u64
  have hbd := hp.bd
  have hb8 : i0.bytes * xs.length ≤ 281474976710656 := by rw [hz2]; omega
  have hB8 := Lib.hid hb8
  have hD := Lib.hid (show fillL (scl p xs) xs.length xs.length = scls p xs from fillL_done _ _)
  clear hb8
  go_enter Try.func53, Try.ntmps53
  go_wp2_with (at_make; refine wpList_make_full _ rfl _ _ 33 rfl w.heap.size 22 i0 (.int .u64 0) 1 Try.underlying33 hi hz0 hz1 .i64 .i64 _ _ xs.length rfl rfl (by omega) (by omega) hB8.out (by simp only [maxLen]; omega) (Nat.le_refl _) ?_; intro w1 hown1 hgrow1)
  have hb1 : Below w.heap.size w w1 := (Below.refl _ w).grown hgrow1 (Nat.le_refl _) (fun k e => by cases e)
  simp only [Value.cells, toList_madeCells_one, Nat.mul_one] at hown1
  have hown2 : OwnAt w1 w.heap.size w.heap.size xs.length xs.length (fillL (scl p xs) xs.length 0) := by
    unfold OwnAt; rw [fillL_start]; simpa using hown1
  clear hown1 hgrow1
  go_loopw [16] (fun i wr => ∃ k : Nat, k ≤ xs.length ∧ i = .int .i64 k ∧ Hid (∀ j, j < k → co xs j ∉ xs.eraseIdx j) ∧ OwnAt wr w.heap.size w.heap.size xs.length xs.length (fillL (scl p xs) xs.length k) ∧ Below w.heap.size w wr) (fun i _ => xs.length - (intOf i).toNat)
  case atStart => exact ⟨0, Nat.zero_le _, rfl, Lib.hid (fun j hj => absurd hj (by omega)), hown2, hb1⟩
  case round =>
    obtain ⟨k, hk, rfl, hU, hO, hB⟩ := hrel
    by_cases hlt : k < xs.length
    · have hltx : k < xs.length := by omega
      obtain ⟨b, off, x, hA, _, hx, hcx⟩ := (h.next hB).at_ hltx
      have hxb := hxs x (List.mem_of_getElem? hx)
      have hX := Lib.hid (co_at hx)
      have hbp := bprod_any p x hp hxb A c xs hxs (by omega) k hltx wr (h.next hB)
      subst hA
      have hkN : (k : Int) < xs.length := by omega
      by_cases hin : x ∈ xs.eraseIdx k
      · rw [gpr_hit p x _ 1 hin] at hbp
        have hnot : ¬ xs.Nodup := fun hn => erase_not hn hltx (by rw [hX.out]; exact hin)
        have hNot := Lib.hid hnot
        clear hx hin hnot
        go_wp2_with (first | (go_at_call 72; refine hbp.mono ?_; clear hbp; rintro e w2 ⟨rfl, hb2⟩) | (go_at_call 71; refine (inverse_zero p _).mono ?_; rintro e w' ⟨rfl, rfl⟩))
        go_ret2
        exact .inr ⟨hNot.out, rfl, hB.trans (hb2.mono hB.size)⟩
      · have hG := gpr_pos hp.good hxb _ 1 (by omega) (el_erase hxs k) hin
        have hG2 := gpr_bd (p := p) (by omega) x (xs.eraseIdx k) 1 (by omega)
        have hset := fillL_set (scl p xs) xs.length k
        rw [show scl p xs k = fpow p (gpr p x 1 (xs.eraseIdx k)) (p - 2) from by unfold scl finv; rw [hX.out]] at hset
        have hU2 := Lib.hid (show ∀ j, j < k + 1 → co xs j ∉ xs.eraseIdx j from fun j hj => by
          rcases (show j < k ∨ j = k by omega) with h1 | rfl
          · exact hU.out j h1
          · rw [hX.out]; exact hin)
        generalize gpr p x 1 (xs.eraseIdx k) = G at *
        have hS := Lib.hid hset
        have hget := Lib.hid (fillL_get (scl p xs) xs.length k k hlt)
        clear hx hin hset
        go_wp2_with (first | (go_at_call 72; refine hbp.mono ?_; clear hbp; rintro e w2 ⟨rfl, hb2⟩; have hO2 := hO.next hb2; have hcell := hO2.cell hget.out; have hfz := hO2.frozen k) | (go_at_call 71; refine (inverse_any p _ hp hG hG2.2 _).mono ?_; rintro e w' ⟨rfl, rfl⟩))
        have hB2 := hB.trans (hb2.mono hB.size)
        go_roundw
        case rel => exact ⟨k + 1, by omega, by simp, hU2, by rw [← hS.out]; exact hO2.put k _, hB2.setCell (p := ⟨w.heap.size, k, none⟩) (Nat.le_refl _) _⟩
        case measure => simp [intOf]; omega
    · obtain rfl : k = xs.length := by omega
      rw [hD.out] at hO
      have hnd := Lib.hid (nodup_of (xs := xs) (fun j hj => hU.out j (by omega)))
      go_wp2
      go_ret2
      exact .inl ⟨hnd.out, w.heap.size, rfl, hO, hB⟩
end Go.Proofs.Ytkkfkkicbgejaaa
