/- Generate of package tape and of the reference of layer 11. Conditions: at most 1000 words. -/
import Derived.Test.YtcogiippiaebaaaATk
import Derived.Test.YtcogiippiaebaaaPRef
import Derived.Laws.Bits64
namespace Go.Proofs.Ytcogiippiaebaaa
set_option maxRecDepth 100000
open Go.RowKit PolyMath FieldMath

/-- A word with its bits scattered. -/
def xr (s x : Int) : Int := bits .xor .u64 x (x / s)
def ml (c x : Int) : Int := IntKind.u64.wrap (x * c)
def mixI (x : Int) : Int := xr 4294967296 (ml 1609587929392839161 (xr 536870912 (ml 14029467366897019727 (xr 4294967296 x))))
theorem wrap_bd (n : Int) : 0 ≤ IntKind.u64.wrap n ∧ IntKind.u64.wrap n ≤ 18446744073709551615 := by
  rw [IntKind.wrap_u64]; omega
theorem xr_bd (s x : Int) : 0 ≤ xr s x ∧ xr s x ≤ 18446744073709551615 := by
  unfold xr bits; exact wrap_bd _
theorem ml_bd (c x : Int) : 0 ≤ ml c x ∧ ml c x ≤ 18446744073709551615 := wrap_bd _
theorem mixI_bd (x : Int) : 0 ≤ mixI x ∧ mixI x ≤ 18446744073709551615 := xr_bd _ _
/-- Word i of the generated tape. -/
def stp (seed : Int) (i : Nat) : Int := IntKind.u64.wrap (seed + IntKind.u64.wrap (((i : Int) + 1) * 11400714819323198485))
def gen (p seed : Int) (i : Nat) : Int := mixI (stp seed i) % p
def gens (p seed : Int) (n : Nat) : List Int := (List.range n).map (gen p seed)
def genL (p seed : Int) (n k : Nat) : List Int := (List.range n).map fun i => if i < k then gen p seed i else 0
theorem genL_len (p seed : Int) (n k : Nat) : (genL p seed n k).length = n := by simp [genL]
theorem genL_start (p seed : Int) (n : Nat) : genL p seed n 0 = List.replicate n 0 := by
  apply List.ext_getElem?; intro i
  simp only [genL, List.getElem?_map, List.getElem?_replicate, Nat.not_lt_zero, if_false]
  by_cases h : i < n
  · rw [List.getElem?_range h, if_pos h]; rfl
  · rw [if_neg h, List.getElem?_eq_none (by simpa using h)]; rfl
theorem genL_end (p seed : Int) (n : Nat) : genL p seed n n = gens p seed n := by
  unfold genL gens
  apply List.map_congr_left
  intro i hi
  rw [if_pos (List.mem_range.1 hi)]
theorem genL_set (p seed : Int) (n k : Nat) (h : k < n) : (genL p seed n k).set k (gen p seed k) = genL p seed n (k + 1) := by
  apply List.ext_getElem?; intro i
  rw [List.getElem?_set]
  simp only [genL_len]
  by_cases e : k = i
  · subst e
    rw [if_pos rfl, if_pos h]
    simp [genL, h]
  · rw [if_neg e]
    simp only [genL, List.getElem?_map]
    by_cases hi : i < n
    · rw [List.getElem?_range hi]
      simp only [Option.map_some]
      by_cases h2 : i < k
      · rw [if_pos h2, if_pos (by omega)]
      · rw [if_neg h2, if_neg (by omega)]
    · rw [List.getElem?_eq_none (by simpa using hi)]; rfl

theorem mixed_any (x : Int) (_h0 : 0 ≤ x) (_h1 : x ≤ 18446744073709551615) (w : World) :
    Calls Try.prog 24 #[.int .u64 x] w fun e w' => e = .returned (.int .u64 (mixI x)) ∧ w = w' := by
  go_enter Try.func24, Try.ntmps24
  go_wp2
  go_ret
  exact ⟨rfl, rfl⟩

set_option maxHeartbeats 2000000 in
theorem generate_pos (p seed : Int) (hp : OkP p) (N : Nat) (hl : N ≤ 1000) (w : World) :
    Calls Try.prog 19 #[.int .u64 p, .int .u64 seed, .int .i64 N] w fun e w' => Row w e w' (gens p seed N) := by
  obtain ⟨i0, hi, hz0, hz1, hz2⟩ := info_parts info_u64
  have hb8 : Hid (i0.bytes * N ≤ 281474976710656) := Lib.hid (by rw [hz2]; omega)
  have hl' : (N : Int) ≤ 1000 := by omega
  have hmx : (0 : Int) ≤ N := by omega
  go_enter Try.func19, Try.ntmps19
  go_wp2_with (at_make; refine wpList_make_full _ rfl _ _ 22 rfl w.heap.size 37 i0 (.int .u64 0) 1 Try.underlying22 hi hz0 hz1 .i64 .i64 _ _ N rfl rfl (by omega) (by omega) hb8.out (by simp only [maxLen]; omega) (Nat.le_refl _) ?_; intro w1 hown1 hgrow1)
  all_goals
    have hb1 : Below w.heap.size w w1 := (Below.refl _ w).grown hgrow1 (Nat.le_refl _) (fun k e => by cases e)
    simp only [Value.cells, toList_madeCells_one, Nat.mul_one] at hown1
    have hown2 : OwnAt w1 w.heap.size w.heap.size N N (genL p seed N 0) := by
      unfold OwnAt; rw [genL_start]; simpa using hown1
    clear hown1 hgrow1
    go_loopw [8, 14] (fun _ i wr => ∃ k : Nat, k ≤ N ∧ i = .int .i64 k ∧ OwnAt wr w.heap.size w.heap.size N N (genL p seed N k) ∧ Below w.heap.size w wr) (fun _ i _ => N - (intOf i).toNat)
    case atStart => exact ⟨0, Nat.zero_le _, rfl, hown2, hb1⟩
    case round =>
      obtain ⟨k, hk, rfl, hO, hB⟩ := hrel
      by_cases hlt : k < N
      · have hset := Lib.hid (genL_set p seed N k hlt)
        have hbs := wrap_bd (seed + IntKind.u64.wrap (((k : Int) + 1) * 11400714819323198485))
        have hmx2 := fun W => mixed_any (IntKind.u64.wrap (seed + IntKind.u64.wrap (((k : Int) + 1) * 11400714819323198485))) hbs.1 hbs.2 W
        have hmb := mixI_bd (IntKind.u64.wrap (seed + IntKind.u64.wrap (((k : Int) + 1) * 11400714819323198485)))
        have hre := fun W => reduce_any p _ hp hmb.1 hmb.2 W
        have hfz := hO.frozen k
        have hP := Lib.hid (hO.put k (gen p seed k))
        have hgr := Lib.hid (hO.grow k (gen p seed k))
        obtain ⟨y, hcl⟩ : ∃ y, wr.cell? ⟨w.heap.size, k, none⟩ = some (.int .u64 y) := ⟨_, hO.cell (List.getElem?_eq_getElem (by rw [genL_len]; exact hlt))⟩
        have hG : Hid (mixI (IntKind.u64.wrap (seed + IntKind.u64.wrap (((k : Int) + 1) * 11400714819323198485))) % p = gen p seed k) := Lib.hid rfl
        have hk1 : (k : Int) < N := by omega
        have hblt := hO.lt.2
        rw [hG.out] at hre
        go_wp2_with (first | (go_at_call 24; (with_reducible refine (hmx2 _).mono ?_); rintro e w' ⟨rfl, rfl⟩) | (go_at_call 23; (with_reducible refine (hre _).mono ?_); rintro e w' ⟨rfl, rfl⟩))
        have hP2 := hP.out
        rw [hset.out] at hP2
        go_roundw
        case rel => exact ⟨k + 1, by omega, by simp, hP2, hB.grown hgr.out hB.size (fun q e => by injection e with e; omega)⟩
        case measure => simp [intOf]; omega
      · obtain rfl : k = N := by omega
        rw [genL_end] at hO
        have hS := Lib.hid hO.sl
        have hL : Hid ((gens p seed k).length = k) := Lib.hid (by simp [gens])
        clear hO
        go_wp2
        go_ret
        exact ⟨some ⟨w.heap.size, 0, none⟩, k, congrArg (fun m => Ending.returned (.slice (some ⟨w.heap.size, 0, none⟩) m k)) hL.out.symm, hS.out, hB⟩

set_option maxHeartbeats 2000000 in
theorem generate_neg (p seed n : Int) (hn : n < 0) (w : World) :
    Calls Try.prog 19 #[.int .u64 p, .int .u64 seed, .int .i64 n] w fun e w' => Row w e w' [] := by
  obtain ⟨i0, hi, hz0, hz1, hz2⟩ := info_parts info_u64
  have hb8 : Hid (i0.bytes * 0 ≤ 281474976710656) := Lib.hid (by omega)
  go_enter Try.func19, Try.ntmps19
  go_wp2_with (at_make; refine wpList_make_full _ rfl _ _ 22 rfl w.heap.size 37 i0 (.int .u64 0) 1 Try.underlying22 hi hz0 hz1 .i64 .i64 _ _ 0 rfl rfl (by omega) (by omega) hb8.out (by simp only [maxLen]; omega) (Nat.le_refl _) ?_; intro w1 hown1 hgrow1)
  all_goals
    have hb1 : Below w.heap.size w w1 := (Below.refl _ w).grown hgrow1 (Nat.le_refl _) (fun k e => by cases e)
    clear hown1 hgrow1
    go_loopw [8, 14] (fun _ i wr => i = .int .i64 0 ∧ Below w.heap.size w wr) (fun _ _ _ => 0)
    case atStart => exact ⟨rfl, hb1⟩
    case round =>
      obtain ⟨rfl, hB⟩ := hrel
      go_wp2
      go_ret
      exact ⟨some ⟨w.heap.size, 0, none⟩, 0, rfl, Sl.blank _ _ _, hB⟩

theorem generate_row (p seed : Int) (hp : OkP p) (n : Int) (N : Nat) (hN : n = N ∨ (n < 0 ∧ N = 0)) (hl : N ≤ 1000) (w : World) :
    Calls Try.prog 19 #[.int .u64 p, .int .u64 seed, .int .i64 n] w fun e w' => Row w e w' (gens p seed N) := by
  rcases hN with rfl | ⟨hn, rfl⟩
  · exact generate_pos p seed hp N hl w
  · exact generate_neg p seed n hn w

set_option maxHeartbeats 2000000 in
theorem rGenerate_row (p seed : Int) (hp : OkP p) (n : Int) (N : Nat) (hN : n = N ∨ (n < 0 ∧ N = 0)) (hl : N ≤ 1000) (w : World) :
    Calls Try.prog 20 #[.int .u64 p, .int .u64 seed, .int .i64 n] w fun e w' => Row w e w' (gens p seed N) := by
  obtain ⟨i0, hi, hz0, hz1, hz2⟩ := info_parts info_u64
  have hbd := hp.bd
  have hn1 : n ≤ 1000 := by omega
  go_enter Try.func20, Try.ntmps20
  go_wp2
  go_loopw [7, 8, 9] (fun v i _ wr => ∃ k : Nat, k ≤ N ∧ i = .int .i64 k ∧ wr.ownsRow w.heap.size 37 1 v k (((List.range k).map (gen p seed)).map (Value.int .u64)) ∧ Below w.heap.size w wr) (fun _ i _ _ => N - (intOf i).toNat)
  case atStart => exact ⟨0, Nat.zero_le _, rfl, World.ownsRow_nil _ _ _ _, Below.refl _ _⟩
  case round =>
    obtain ⟨k, hk, rfl, hrow, hB⟩ := hrel
    have hsz := hB.size
    by_cases hlt : k < N
    · have hk' : (k : Int) < n := by omega
      have hkb : (k : Int) ≤ 1000 := by omega
      have hG : Hid (mixI (IntKind.u64.wrap (seed + IntKind.u64.wrap (((k : Int) + 1) * 11400714819323198485))) % p = gen p seed k) := Lib.hid rfl
      have hmb := mixI_bd (IntKind.u64.wrap (seed + IntKind.u64.wrap (((k : Int) + 1) * 11400714819323198485)))
      unfold mixI xr ml at hmb hG
      go_wp2_with (at_builtin; refine wpList_append_own _ rfl _ _ 22 rfl w.heap.size 37 i0 (.int .u64 0) 1 8 Try.underlying22 hi hz0 hz1 hz2 rfl (by decide) _ _ _ rfl (hrow.alloc _) ⟨wr.heap.size, 0, none⟩ 1 1 [.int .u64 (gen p seed k)] rfl rfl (by rw [← hG.out]; exact cell_one_new _ _ _) (by simp [Value.oneCell']) (by simp only [maxLen]; omega) (by omega) (by simp; omega) ?_; intro v' w2 hown' hgrow _)
      have hB2 : Below w.heap.size w w2 := (hB.alloc hsz _).grown hgrow (by simp; omega) (fun k e => (hrow.lt k e).1)
      go_roundw
      case rel => exact ⟨k + 1, by omega, by simp, own_next (f := gen p seed) hown', hB2⟩
      case measure => simp [intOf]; omega
    · obtain rfl : k = N := by omega
      have hk2 : n ≤ (k : Int) := by omega
      obtain ⟨A2, c2, hv, hs2⟩ := own_form hrow
      subst hv
      have hS := Lib.hid hs2
      clear hrow hs2
      go_wp2
      go_ret
      exact ⟨A2, c2, rfl, hS.out, hB⟩
end Go.Proofs.Ytcogiippiaebaaa
