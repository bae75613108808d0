/- slices.Grow of a slice that is nil, and slices.Concat of two slices of words: the words of both in memory of the call's own. Conditions: together at least one word and at most 1000. -/
import Derived.Test.YtkhiiiggmhncbaaGreatMD
import Derived.Lib.AppendZerosOnto
namespace Go.Proofs.YtkhiiiggmhncbaaGreat
set_option maxRecDepth 100000
open Go.RowKit PolyMath FieldMath

theorem zcells_len (m : Nat) : (Builtin.zeroCells #[Value.int .u64 0] m).size = m := by
  rw [size_zeroCells]
  simp
theorem grow_any (m : Nat) (h0 : 0 < m) (hm : m ≤ 1000) (w : World) :
    Calls Tryz.prog 54 #[.slice none 0 0, .int .i64 m] w fun e w' => ∃ v, e = .returned v ∧ w'.ownsRow w.heap.size 22 1 v 0 [] ∧ Below w.heap.size w w' := by
  obtain ⟨i0, hi, hz0, hz1, hz2⟩ := info_parts info_u64
  have hm0 : (0 : Int) < m := by omega
  have hold : (Builtin.firstCells i0.size 0 (.slice none 0 0)).run Tryz.prog w.drew = .ok ([] : List Value).toArray w.drew := run_firstCells_none w.drew i0.size 0 0 0
  have hrz : ∀ ty, (Builtin.append_ #[23, 3] ty #[.slice none 0 0, .int .i64 (m : Int)]).run Tryz.prog w =
      .ok (.slice (some ⟨w.heap.size, 0, none⟩) m (grownCap w (0 + m) 0 22)) (w.drew.alloc (.cells (([] : List Value).toArray ++ Builtin.zeroCells (Value.int .u64 0).cells m ++ Builtin.zeroCells (Value.int .u64 0).cells (grownCap w (0 + m) 0 22 - (0 + m))) 22)) := fun ty => by
    have h := Lib.run_append_grow_zeros w 23 3 ty 22 i0 (.int .u64 0) .i64 .i64 Tryz.underlying23 Tryz.underlying3 hi hz0 none 0 0 [] hold m h0 (by omega) (by omega) (by omega) (by rw [hz2]; omega)
      (growslice_fits (by omega) (by rw [hz2]; omega))
    rw [show (0 + m : Nat) = m from Nat.zero_add m] at h ⊢
    exact h
  have hGn := grownCap_ge w (0 + m) 0 22
  have hGx := grownCap_le_maxLen w (0 + m) 0 22 (by unfold maxLen; omega)
  rw [show (0 + m : Nat) = m from Nat.zero_add m] at hrz hGn hGx
  generalize grownCap w m 0 22 = G at hrz hGn hGx
  have hO : (w.alloc (.cells (Builtin.zeroCells #[.int .u64 0] m ++ Builtin.zeroCells #[.int .u64 0] (G - m)) 22)).drew.ownsRow w.heap.size 22 1 (.slice (some ⟨w.heap.size, 0, none⟩) 0 G) 0 [] := by
    refine ⟨rfl, .inr ⟨w.heap.size, G, _, rfl, Nat.le_refl _, heap_alloc_new w _, Nat.zero_le _, hGx, ?_, by simp⟩⟩
    rw [Array.size_append, zcells_len, zcells_len]
    omega
  have hB : Below w.heap.size w (w.alloc (.cells (Builtin.zeroCells #[.int .u64 0] m ++ Builtin.zeroCells #[.int .u64 0] (G - m)) 22)).drew := (bnew (Below.refl _ w) _ (Nat.le_refl _)).drew
  have HO := Lib.hid hO
  have HB := Lib.hid hB
  clear hold hO hB
  have hG63 : G ≤ 9223372036854775807 := by unfold maxLen at hGx; omega
  go_enter Tryz.func54, Tryz.ntmps54
  go_wp2_with (at_builtin; refine Lib.wpList_append_run _ rfl _ _ _ _ rfl _ _ rfl rfl _ _ (hrz _) ?_)
  all_goals (go_ret; exact ⟨.slice (some ⟨w.heap.size, 0, none⟩) 0 G, rfl, HO.out, HB.out⟩)

/-- The words of the first k of two lists. -/
def cat2 (xs ys : List Int) (k : Nat) : List Int := if k = 0 then [] else if k = 1 then xs else xs ++ ys
theorem Sl.newsP {w : World} {ad : Addr} {c : Nat} {xs : List Int} (h : Sl w (some ad) c xs) : ∀ j u, (xs.map (Value.int .u64))[j]? = some u → w.cell? (ad.add j) = some u := fun j u hu => by
  rw [List.getElem?_map] at hu
  obtain ⟨x, hx, rfl⟩ := Option.map_eq_some_iff.1 hu
  obtain ⟨b, off, rfl, _, hc⟩ := h.rd ad rfl (fun e => by rw [e] at hx; simp at hx)
  rw [WideShapes.add_plain]
  exact hc j x hx

set_option maxHeartbeats 2000000 in
theorem concat_any (b c2 n m ca cb : Nat) (A B : Option Addr) (xs ys : List Int) (hn : xs.length = n) (hm : ys.length = m) (h0 : 0 < n + m) (h1 : n + m ≤ 1000) (w : World) (hc0 : w.cell? ⟨b, 0, none⟩ = some (.slice A n ca)) (hc1 : w.cell? ⟨b, 1, none⟩ = some (.slice B m cb)) (hb : b < w.heap.size) (sx : Sl w A ca xs) (sy : Sl w B cb ys) :
    Calls Tryz.prog 28 #[.slice (some ⟨b, 0, none⟩) 2 c2] w fun e w' => ∃ v, e = .returned v ∧ w'.ownsRow w.heap.size 22 1 v (n + m) ((xs ++ ys).map (Value.int .u64)) ∧ Below w.heap.size w w' := by
  obtain ⟨i0, hi, hz0, hz1, hz2⟩ := info_parts info_u64
  have hg := grow_any (n + m) h0 h1 w
  have e2 : ((n + m : Nat) : Int) = (n : Int) + m := by omega
  rw [e2] at hg
  have HN := Lib.hid hn
  have HM := Lib.hid hm
  have hon : ∀ (zs : List Int), ∀ u ∈ zs.map (Value.int .u64), u.oneCell' = true := fun zs u hu => by obtain ⟨y, _, rfl⟩ := List.mem_map.1 hu; rfl
  clear e2 hn hm
  go_enter Tryz.func28, Tryz.ntmps28
  go_wp2
  go_loop [3, 11] (fun s i => (i = .int .i64 0 ∧ s = .int .i64 0) ∨ (i = .int .i64 1 ∧ s = .int .i64 n) ∨ (i = .int .i64 2 ∧ s = .int .i64 ((n : Int) + m))) (fun _ i => 2 - (intOf i).toNat)
  case atStart => exact .inl ⟨rfl, rfl⟩
  case round =>
    rcases hrel with ⟨rfl, rfl⟩ | ⟨rfl, rfl⟩ | ⟨rfl, rfl⟩
    · go_wp2
      go_round
      case rel => exact .inr (.inl ⟨rfl, by simp⟩)
      case measure => simp [intOf]
    · go_wp2
      go_round
      case rel => exact .inr (.inr ⟨rfl, rfl⟩)
      case measure => simp [intOf]
    · go_wp2_with fail
      refine hg.mono ?_; rintro e w1 ⟨v0, rfl, hown9, hb1⟩
      go_wp2
      go_loopw [6, 27] (fun u i wr => ∃ k : Nat, k ≤ 2 ∧ i = .int .i64 k ∧ wr.ownsRow w.heap.size 22 1 u (cat2 xs ys k).length ((cat2 xs ys k).map (Value.int .u64)) ∧ Below w.heap.size w wr) (fun _ i _ => 2 - (intOf i).toNat)
      case atStart => exact ⟨0, by omega, rfl, hown9, hb1⟩
      case round =>
        obtain ⟨k, hk, rfl, hown, hB⟩ := hrel
        clear hb1 hown9
        have hsz := hB.size
        rcases (show k = 0 ∨ k = 1 ∨ k = 2 by omega) with rfl | rfl | rfl
        · have hcw := (hB.cell (p := ⟨b, 0, none⟩) hb).trans hc0
          have hE : Hid (cat2 xs ys 1 = xs) := Lib.hid rfl
          have hown0 : wr.ownsRow w.heap.size 22 1 u6 0 [] := hown
          clear hown
          cases A with
          | none =>
            obtain ⟨hx0, rfl⟩ := sx.empty rfl
            have hn0 : Hid (n = 0) := Lib.hid (by rw [← HN.out, hx0]; rfl)
            go_wp2_with (at_builtin; refine wpList_append_own_none rfl _ _ 23 rfl w.heap.size 22 i0 1 Tryz.underlying23 hi _ _ _ rfl hown0 (congrArg (fun q => Value.slice none q 0) hn0.out) ?_)
            go_roundw
            case rel => exact ⟨1, by omega, rfl, by rw [hE.out, hx0]; exact hown0, hB⟩
            case measure => simp [intOf]
          | some ad =>
            have hlen : Hid ((xs.map (Value.int .u64)).length = n * 1) := Lib.hid (by rw [List.length_map, Nat.mul_one]; exact HN.out)
            go_wp2_with (at_builtin; refine wpList_append_own _ rfl _ _ 23 rfl w.heap.size 22 i0 (.int .u64 0) 1 8 Tryz.underlying23 hi hz0 hz1 hz2 rfl (by decide) _ _ _ rfl hown0 ad n ca (xs.map (Value.int .u64)) rfl hlen.out (sx.next hB).newsP (hon xs) (by unfold maxLen; omega) (by omega) hsz ?_; intro v3 w3 hown3 hgrow3 _)
            have hB3 : Below w.heap.size w w3 := hB.grown hgrow3 (by omega) (fun k e => (hown0.lt k e).1)
            go_roundw
            case rel => exact ⟨1, by omega, rfl, by rw [hE.out, HN.out]; simpa using hown3, hB3⟩
            case measure => simp [intOf]
        · have hcw := (hB.cell (p := ⟨b, 1, none⟩) hb).trans hc1
          have hE : Hid (cat2 xs ys 2 = xs ++ ys) := Lib.hid rfl
          have hown0 : wr.ownsRow w.heap.size 22 1 u6 n (xs.map (Value.int .u64)) := by rw [← HN.out]; exact hown
          clear hown
          cases B with
          | none =>
            obtain ⟨hx0, rfl⟩ := sy.empty rfl
            have hm0 : Hid (m = 0) := Lib.hid (by rw [← HM.out, hx0]; rfl)
            go_wp2_with (at_builtin; refine wpList_append_own_none rfl _ _ 23 rfl w.heap.size 22 i0 1 Tryz.underlying23 hi _ _ _ rfl hown0 (congrArg (fun q => Value.slice none q 0) hm0.out) ?_)
            go_roundw
            case rel => exact ⟨2, by omega, rfl, by rw [hE.out, hx0, List.append_nil, HN.out]; exact hown0, hB⟩
            case measure => simp [intOf]
          | some ad =>
            have hlen : Hid ((ys.map (Value.int .u64)).length = m * 1) := Lib.hid (by rw [List.length_map, Nat.mul_one]; exact HM.out)
            go_wp2_with (at_builtin; refine wpList_append_own _ rfl _ _ 23 rfl w.heap.size 22 i0 (.int .u64 0) 1 8 Tryz.underlying23 hi hz0 hz1 hz2 rfl (by decide) _ _ _ rfl hown0 ad m cb (ys.map (Value.int .u64)) rfl hlen.out (sy.next hB).newsP (hon ys) (by unfold maxLen; omega) (by omega) hsz ?_; intro v3 w3 hown3 hgrow3 _)
            have hB3 : Below w.heap.size w w3 := hB.grown hgrow3 (by omega) (fun k e => (hown0.lt k e).1)
            go_roundw
            case rel => exact ⟨2, by omega, rfl, by rw [hE.out, List.length_append, HN.out, HM.out, List.map_append]; exact hown3, hB3⟩
            case measure => simp [intOf]
        · have hE : Hid (cat2 xs ys 2 = xs ++ ys) := Lib.hid rfl
          have hown0 : wr.ownsRow w.heap.size 22 1 u6 (n + m) ((xs ++ ys).map (Value.int .u64)) := by
            rw [hE.out, List.length_append, HN.out, HM.out] at hown
            exact hown
          have HO := Lib.hid hown0
          clear hown hown0
          go_wp2
          go_ret
          exact ⟨_, rfl, HO.out, hB⟩
end Go.Proofs.YtkhiiiggmhncbaaGreat
