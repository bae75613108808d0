/- slices.Backward over words: it hands on each index with the word that lies there, from the last to the first. Conditions: at most 1000 words. -/
import Derived.RangeFuncNested
import Derived.RangeFuncBound
import Derived.RangeFuncCalls
import Derived.RangeFuncLeaves
import Derived.RangeFuncBox
import Derived.Shelf.Abstract
import Derived.Stop.RegionWithIn
import Derived.WalkKit
import Derived.OwnWalkIn
import Derived.TacticsInMore
import Derived.LoopNIn
import Derived.LoopIn
import Derived.Test.YtkkfkkicbgejaaaPTail
import Derived.Test.YtkkfkkicbgejaaaPAdd
namespace Go.Proofs.Ytkkfkkicbgejaaa
set_option maxRecDepth 100000
open Go.RowKit Go.Shelf PolyMath FieldMath
attribute [local go_sem] Oper.semAt_some

theorem back_in (n : Nat) (A : Option Addr) (k c : Nat) (w : World) :
    CallsIn Fence.wide n Try.prog 40 #[.slice A k c] w fun e w' =>
      e = .returned (.func (.func 63) #[] #[.pointer (some ⟨w.heap.size, 0, none⟩)]) ∧ w' = w.alloc (.cells #[.slice A k c] 33) := by
  refine callsIn_of_wp Try.func40 rfl trivial ?_ rfl
  simp only [Try.ntmps40, List.size_toArray, List.length_cons, List.length_nil, Nat.reduceAdd, Nat.reduceSub, Array.replicate_succ, Array.replicate_zero, List.push_toArray, List.append_toArray, List.nil_append, List.cons_append]
  gi_wp2
  go_ret
  exact ⟨rfl, rfl⟩

/-- What the slice shows between two rounds. -/
def Reads (V : Nat → Int → Prop) (g off N : Nat) (W : World) : Prop := ∀ j, j < N → ∃ v, W.cell? ⟨g, off + j, none⟩ = some (.int .u64 v) ∧ V j v
/-- What a round must keep. -/
structure Keeping (Kp : World → World → Prop) (V : Nat → Int → Prop) (g off N Ba : Nat) : Prop where
  refl : ∀ X, Kp X X
  trans : ∀ {X Y Z}, Kp X Y → Kp Y Z → Kp X Z
  box : ∀ {X Y v}, Kp X Y → Boxed X Ba 33 v → Boxed Y Ba 33 v
  reads : ∀ {X Y}, Kp X Y → Reads V g off N X → Reads V g off N Y
/-- An index with a word that may lie there. -/
abbrev It (V : Nat → Int → Prop) (N : Nat) : Type := { x : Nat × Int // x.1 < N ∧ V x.1 x.2 }
/-- The first k indices, downward. -/
def dn (N k : Nat) : List Nat := (List.range k).map fun t => N - 1 - t
theorem dn_next (N k : Nat) : dn N (k + 1) = dn N k ++ [N - 1 - k] := by unfold dn; rw [List.range_succ, List.map_append]; rfl
theorem dn_len (N k : Nat) : (dn N k).length = k := by unfold dn; simp

def YieldGoes {α : Type} (J Jx : List α → World → Prop) (Kp : World → World → Prop) (pre : List α) (x : α) (W : World) (e : Ending) (W' : World) : Prop :=
  ∃ go : Bool, e = .returned (.bool go) ∧ (go = true → J (pre ++ [x]) W' ∧ Kp W W') ∧ (go = false → Jx (pre ++ [x]) W')

set_option maxRecDepth 100000 in
set_option maxHeartbeats 2000000 in
theorem back1_in (n : Nat) (hn : 1 ≤ n) (l Ba g off N c : Nat) (A : Option Addr) (hA : 0 < N → A = some ⟨g, off, none⟩) (hN : N ≤ 1000) (V : Nat → Int → Prop) (Kp : World → World → Prop) (hK : Keeping Kp V g off N Ba)
    (J Jx : List (It V N) → World → Prop)
    (hY : ∀ pre x W, J pre W → pre.length < N → YieldAt Fence.wide (n - 1) Try.prog l #[.int .i64 (x.1.1 : Int), .int .u64 x.1.2] W (YieldGoes J Jx Kp pre x W))
    (W : World) (ba : Boxed W Ba 33 (.slice A N c)) (hr : Reads V g off N W) (h0 : J [] W) :
    CallsIn Fence.wide n Try.prog 63 #[.func (.yield l) #[] #[], .pointer (some ⟨Ba, 0, none⟩)] W fun e W' => (∃ v, e = .returned v) ∧
      ((∃ ys : List (It V N), ys.map (fun x => x.1.1) = dn N N ∧ J ys W') ∨ (∃ pre : List (It V N), True ∧ Jx pre W')) := by
  refine callsIn_of_wp Try.func63 rfl trivial ?_ rfl
  simp only [Try.ntmps63, List.size_toArray, List.length_cons, List.length_nil, Nat.reduceAdd, Nat.reduceSub, Array.replicate_succ, Array.replicate_zero, List.push_toArray, List.append_toArray, List.nil_append, List.cons_append]
  have hca := ba.cell
  gi_wp2
  gi_loopw [3] (fun i wr => ∃ (k : Nat) (ys : List (It V N)), k ≤ N ∧ i = .int .i64 ((N : Int) - 1 - k) ∧ Hid (ys.map (fun x => x.1.1) = dn N k) ∧ J ys wr ∧ Kp W wr) (fun i _ => (intOf i + 1).toNat)
  case atStart => exact ⟨0, [], Nat.zero_le _, by simp, Lib.hid rfl, h0, hK.refl _⟩
  case round =>
    obtain ⟨k, ys, hk, rfl, hI, hJs, hnx⟩ := hrel
    have hca' : wr.cell? ⟨Ba, 0, none⟩ = some (.slice A N c) := (hK.box hnx ba).cell
    by_cases hlt : k < N
    · obtain ⟨m, hm⟩ : ∃ m : Nat, m = N - 1 - k := ⟨_, rfl⟩
      rw [show ((N : Int) - 1 - k) = (m : Int) from by omega]
      have hmlt : m < N := by omega
      obtain ⟨v, hcv, hv⟩ := hK.reads hnx hr m hmlt
      have hA' := hA (by omega)
      subst hA'
      obtain ⟨fn, tmps, assign, body, hy, hR⟩ := hY ys ⟨(m, v), hmlt, hv⟩ wr hJs (by have := congrArg List.length hI.out; rw [List.length_map, dn_len] at this; omega)
      dsimp only at hy
      have hI2 : Hid ((ys ++ [(⟨(m, v), hmlt, hv⟩ : It V N)]).map (fun x => x.1.1) = dn N (k + 1)) := Lib.hid (by rw [List.map_append, hI.out, dn_next, ← hm]; rfl)
      have hmN : (m : Int) < N := by omega
      have hk1 : ((N : Int) - 1 - ((k + 1 : Nat) : Int)) = (m : Int) - 1 := by omega
      have hK1 := Lib.hid hk1
      clear hk1 hI hm
      gi_wp2_with fail
      refine hR.mono ?_
      rintro e W3 ⟨go, rfl, h1, h2⟩
      cases go with
      | true =>
        obtain ⟨hJ3, hk3⟩ := h1 rfl
        clear h1 h2
        gi_wp2
        go_roundw
        case rel => exact ⟨k + 1, _, by omega, by rw [hK1.out], hI2, hJ3, hK.trans hnx hk3⟩
        case measure => simp [intOf]
      | false =>
        have hJx3 := h2 rfl
        clear h1 h2
        gi_wp2
        refine bodyPost_ret (results_none rfl _ _ _) rfl ?_
        exact ⟨⟨_, rfl⟩, .inr ⟨_, trivial, hJx3⟩⟩
    · obtain rfl : k = N := by omega
      gi_wp2
      go_end0
      exact ⟨⟨_, rfl⟩, .inl ⟨_, hI.out, hJs⟩⟩

theorem back_stops (n : Nat) (hn : 1 ≤ n) (Ba g off N c : Nat) (A : Option Addr) (hA : 0 < N → A = some ⟨g, off, none⟩) (hN : N ≤ 1000) (V : Nat → Int → Prop) (Kp : World → World → Prop) (hK : Keeping Kp V g off N Ba)
    (w : World) (hg : 0 < N → g < w.heap.size) (ba : Boxed w Ba 33 (.slice A N c)) (hr : Reads V g off N w) :
    SeqStopsK Fence.wide n Try.prog 63 #[.pointer (some ⟨Ba, 0, none⟩)] (fun x : It V N => #[Value.int .i64 (x.1.1 : Int), Value.int .u64 x.1.2]) Kp
      (fun ys => ys.map (fun x => x.1.1) = dn N N) (fun _ => True) N w := fun l J Jx W hW _ _ hY h0 => by
  refine back1_in n hn l Ba g off N c A hA hN V Kp hK J Jx (fun pre x X hj hl => (hY pre x X hj hl).mono ?_) W ((hW.block Ba ba.lt).trans ba) (fun j hj => by
    obtain ⟨v, hc, hv⟩ := hr j hj
    exact ⟨v, (hW.cell (p := ⟨g, off + j, none⟩) (hg (by omega))).trans hc, hv⟩) h0
  rintro e X' (⟨rfl, h1, h2⟩ | ⟨rfl, h1⟩)
  · exact ⟨true, rfl, fun _ => ⟨h1, h2⟩, fun h => absurd h (by decide)⟩
  · exact ⟨false, rfl, fun h => absurd h (by decide), fun _ => h1⟩

end Go.Proofs.Ytkkfkkicbgejaaa
