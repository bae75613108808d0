/- The iterator over the pairs of bits of both operands: it hands each pair on, in order, or stops where a round says so. Conditions: bit vectors of at most 1000 bits. -/
import Derived.RangeFuncNested
import Derived.RangeFuncBound
import Derived.RangeFuncCalls
import Derived.RangeFuncLeaves
import Derived.RangeFuncBox
import Derived.Shelf.Abstract
import Derived.Stop.RegionWithIn
import Derived.WalkKit
import Derived.OwnWalkIn
import Derived.TacticsInMore
import Derived.LoopNIn
import Derived.LoopIn
import Derived.Test.YtcjibadnhhnpmaaBMem
namespace Go.Proofs.Ytcjibadnhhnpmaa
open Go.RowKit Go.Shelf BitMath
attribute [local go_sem] Oper.semAt_some

theorem grown_drew_own (w : World) (row : Option Nat) : w.grownBy w.drew row := ⟨rfl, rfl, rfl, Nat.le_refl _, fun _ _ _ => rfl⟩

theorem pairs_in (n : Nat) (A A' : Option Addr) (k k' c c' : Nat) (w : World) :
    CallsIn Fence.wide n Try.prog 31 #[.slice A k c, .slice A' k' c'] w fun e w' =>
      e = .returned (.func (.func 34) #[] #[.pointer (some ⟨w.heap.size, 0, none⟩), .pointer (some ⟨w.heap.size + 1, 0, none⟩)]) ∧
      w' = (w.alloc (.cells #[.slice A k c] 24)).alloc (.cells #[.slice A' k' c'] 24) := by
  refine callsIn_of_wp Try.func31 rfl trivial ?_ rfl
  simp only [Try.ntmps31, List.size_toArray, List.length_cons, List.length_nil, Nat.reduceAdd, Nat.reduceSub, Array.replicate_succ, Array.replicate_zero, List.push_toArray, List.append_toArray, List.nil_append, List.cons_append]
  gi_wp2
  go_ret
  exact ⟨rfl, rfl⟩

/-- What a round must keep: what lay below n₀, and the boxes of the two operands. -/
def KeepsAB (n₀ Ba Bb : Nat) (W W' : World) : Prop :=
  Below n₀ W W' ∧ (∀ v, Boxed W Ba 24 v → Boxed W' Ba 24 v) ∧ (∀ v, Boxed W Bb 24 v → Boxed W' Bb 24 v)
theorem KeepsAB.trans {n₀ Ba Bb : Nat} {X Y Z : World} (h : KeepsAB n₀ Ba Bb X Y) (k : KeepsAB n₀ Ba Bb Y Z) : KeepsAB n₀ Ba Bb X Z :=
  ⟨h.1.trans k.1, fun v hv => k.2.1 v (h.2.1 v hv), fun v hv => k.2.2 v (h.2.2 v hv)⟩
theorem KeepsAB.drew {n₀ Ba Bb : Nat} {X Y : World} (h : KeepsAB n₀ Ba Bb X Y) : KeepsAB n₀ Ba Bb X Y.drew := ⟨h.1.drew, h.2.1, h.2.2⟩
theorem KeepsAB.refl (n₀ Ba Bb : Nat) (X : World) : KeepsAB n₀ Ba Bb X X := ⟨Below.refl _ _, fun _ h => h, fun _ h => h⟩
theorem KeepsAB.book {n₀ Ba Bb : Nat} {w : World} (hn : n₀ ≤ w.heap.size) (hBa : Ba < w.heap.size) (hBb : Bb < w.heap.size) (W : World) (l : Nat) (o o' : Obj) (hl : w.heap.size ≤ l) (h : W.heap[l]? = some o) (h1 : o.isCells = false) (h2 : o.isWalk = false) : KeepsAB n₀ Ba Bb W (W.putObj l o') :=
  ⟨belowK_b hn W l o o' hl h h1 h2, fun _ hv => hv.kept (grownBy_putObj' W l o') (by simp; omega), fun _ hv => hv.kept (grownBy_putObj' W l o') (by simp; omega)⟩

/-- What a call of yield hands back, said once for both ways. -/
def YieldSays (J Jx : List BB → World → Prop) (n₀ Ba Bb : Nat) (pre : List BB) (x : BB) (W : World) (e : Ending) (W' : World) : Prop :=
  ∃ go : Bool, e = .returned (.bool go) ∧ (go = true → J (pre ++ [x]) W' ∧ KeepsAB n₀ Ba Bb W W') ∧ (go = false → Jx (pre ++ [x]) W')

set_option maxRecDepth 100000 in
set_option maxHeartbeats 2000000 in
theorem pairs1_in (n : Nat) (hn : 1 ≤ n) (l Ba Bb n₀ : Nat) (A A' : Option Addr) (c c' : Nat) (a b : List Int) (ha : Bits a) (hb : Bits b) (la : a.length ≤ 1000) (lb : b.length ≤ 1000)
    (J Jx : List BB → World → Prop) (hJd : ∀ s W, J s W → J s W.drew)
    (hY : ∀ pre x W, J pre W → pre.length < max a.length b.length → YieldAt Fence.wide (n - 1) Try.prog l #[.int .u64 x.1.1, .int .u64 x.1.2] W (YieldSays J Jx n₀ Ba Bb pre x W))
    (W : World) (ba : Boxed W Ba 24 (.slice A a.length c)) (bb : Boxed W Bb 24 (.slice A' b.length c'))
    (hra : Rd n₀ W A a) (hrb : Rd n₀ W A' b) (h0 : J [] W) :
    CallsIn Fence.wide n Try.prog 34 #[.func (.yield l) #[] #[], .pointer (some ⟨Ba, 0, none⟩), .pointer (some ⟨Bb, 0, none⟩)] W fun e W' => (∃ v, e = .returned v) ∧
      ((∃ ys, ys = upto (pairAt ha hb) (max a.length b.length) ∧ J ys W') ∨ (∃ pre, (∃ k, k ≤ max a.length b.length ∧ pre = upto (pairAt ha hb) k) ∧ Jx pre W')) := by
  refine callsIn_of_wp Try.func34 rfl trivial ?_ rfl
  simp only [Try.ntmps34, List.size_toArray, List.length_cons, List.length_nil, Nat.reduceAdd, Nat.reduceSub, Array.replicate_succ, Array.replicate_zero, List.push_toArray, List.append_toArray, List.nil_append, List.cons_append]
  have hca := ba.cell
  have hcb := bb.cell
  gi_wp2
  all_goals
    gi_loopw [10] (fun i wr => ∃ k : Nat, k ≤ max a.length b.length ∧ i = .int .i64 k ∧ J (upto (pairAt ha hb) k) wr ∧ KeepsAB n₀ Ba Bb W wr) (fun i _ => max a.length b.length - (intOf i).toNat)
    case atStart => exact ⟨0, Nat.zero_le _, rfl, h0, KeepsAB.refl _ _ _ _⟩
    case round =>
      obtain ⟨k, hk, rfl, hJs, hnx⟩ := hrel
      have hca' : wr.drew.cell? ⟨Ba, 0, none⟩ = some (.slice A a.length c) := (hnx.2.1 _ ba).cell
      have hcb' : wr.drew.cell? ⟨Bb, 0, none⟩ = some (.slice A' b.length c') := (hnx.2.2 _ bb).cell
      have hra' : Rd n₀ wr.drew A a := hra.below hnx.1.drew
      have hrb' : Rd n₀ wr.drew A' b := hrb.below hnx.1.drew
      by_cases hlt : k < max a.length b.length
      · obtain ⟨fn, tmps, assign, body, hy, hR⟩ := hY _ (pairAt ha hb k) wr.drew (hJd _ _ hJs) (by rw [upto_length]; exact hlt)
        dsimp only [pairAt] at hy
        try have hkb : (k : Int) < b.length := by omega
        try have hka : (k : Int) < a.length := by omega
        gi_wp2
        gi_region_with (first
          | (refine ⟨trivial, ?_⟩; gi_at_call 35; refine (callsIn_wide.2 (bitAt_any _ _ _ _ n₀ _ (by assumption))).mono ?_; rintro e w' ⟨rfl, rfl⟩)
          | (refine hR.mono ?_; rintro e W3 ⟨go, rfl, h1, h2⟩))
        all_goals
          cases go with
          | true =>
            obtain ⟨hJ3, hk3⟩ := h1 rfl
            clear h1 h2
            gi_wp2
            go_roundw
            case rel => exact ⟨k + 1, by omega, by simp, by rw [upto_succ]; exact hJ3, hnx.drew.trans hk3⟩
            case measure => simp [intOf]; omega
          | false =>
            have hJx3 := h2 rfl
            clear h1 h2
            gi_wp2
            refine bodyPost_ret (results_none rfl _ _ _) rfl ?_
            exact ⟨⟨_, rfl⟩, .inr ⟨_, ⟨k + 1, by omega, (upto_succ _ _).symm⟩, hJx3⟩⟩
      · obtain rfl : k = max a.length b.length := by omega
        gi_wp2
        go_end0
        exact ⟨⟨_, rfl⟩, .inl ⟨_, rfl, hJs⟩⟩

theorem pairs_stops (n : Nat) (hn : 1 ≤ n) (Ba Bb n₀ : Nat) (A A' : Option Addr) (c c' : Nat) (a b : List Int) (ha : Bits a) (hb : Bits b) (la : a.length ≤ 1000) (lb : b.length ≤ 1000)
    (w : World) (hn₀ : n₀ ≤ w.heap.size) (ba : Boxed w Ba 24 (.slice A a.length c)) (bb : Boxed w Bb 24 (.slice A' b.length c'))
    (hra : Rd n₀ w A a) (hrb : Rd n₀ w A' b) :
    SeqStopsK Fence.wide n Try.prog 34 #[.pointer (some ⟨Ba, 0, none⟩), .pointer (some ⟨Bb, 0, none⟩)] (fun x : BB => #[Value.int .u64 x.1.1, Value.int .u64 x.1.2]) (KeepsAB n₀ Ba Bb)
      (fun ys => ys = upto (pairAt ha hb) (max a.length b.length)) (fun pre => ∃ k, k ≤ max a.length b.length ∧ pre = upto (pairAt ha hb) k) (max a.length b.length) w := fun l J Jx W hW hJ _ hY h0 => by
  refine pairs1_in n hn l Ba Bb n₀ A A' c c' a b ha hb la lb J Jx (fun s X hs => hJ s X _ none hs (grown_drew_own X none) (fun r e => by cases e)) (fun pre x X hj hl => (hY pre x X hj hl).mono ?_) W
    ((hW.block Ba ba.lt).trans ba) ((hW.block Bb bb.lt).trans bb) (hra.below (hW.mono hn₀)) (hrb.below (hW.mono hn₀)) h0
  rintro e X' (⟨rfl, h1, h2⟩ | ⟨rfl, h1⟩)
  · exact ⟨true, rfl, fun _ => ⟨h1, h2⟩, fun h => absurd h (by decide)⟩
  · exact ⟨false, rfl, fun h => absurd h (by decide), fun _ => h1⟩

end Go.Proofs.Ytcjibadnhhnpmaa
