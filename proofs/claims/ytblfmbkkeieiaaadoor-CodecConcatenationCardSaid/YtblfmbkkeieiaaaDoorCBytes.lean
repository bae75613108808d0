/- The iterator over the bytes of a word: it hands the eight bytes on, the lowest first, or stops where a round says so. Conditions: a word. -/
import Derived.RangeFuncNested
import Derived.RangeFuncBound
import Derived.RangeFuncCalls
import Derived.RangeFuncLeaves
import Derived.RangeFuncBox
import Derived.Shelf.Abstract
import Derived.Stop.RegionWithIn
import Derived.WalkKit
import Derived.OwnWalkIn
import Derived.TacticsInMore
import Derived.LoopNIn
import Derived.LoopIn
import Derived.Test.YtblfmbkkeieiaaaDoorCMem
namespace Go.Proofs.YtblfmbkkeieiaaaDoor
open Go.RowKit Go.Shelf CodMath
attribute [local go_sem] Oper.semAt_some

theorem grown_drew_own (w : World) (row : Option Nat) : w.grownBy w.drew row := ⟨rfl, rfl, rfl, Nat.le_refl _, fun _ _ _ => rfl⟩

theorem bytesOf_in (n : Nat) (x : Int) (w : World) :
    CallsIn Fence.wide n Tryd.prog 36 #[.int .u64 x] w fun e w' =>
      e = .returned (.func (.func 43) #[] #[.pointer (some ⟨w.heap.size, 0, none⟩)]) ∧ w' = w.alloc (.cells #[.int .u64 x] 40) := by
  refine callsIn_of_wp Tryd.func36 rfl trivial ?_ rfl
  simp only [Tryd.ntmps36, List.size_toArray, List.length_cons, List.length_nil, Nat.reduceAdd, Nat.reduceSub, Array.replicate_succ, Array.replicate_zero, List.push_toArray, List.append_toArray, List.nil_append, List.cons_append]
  gi_wp2
  go_ret
  exact ⟨rfl, rfl⟩

/-- What a round must keep: the box of the word. -/
def KeepsW (Bw : Nat) (W W' : World) : Prop := ∀ v, Boxed W Bw 40 v → Boxed W' Bw 40 v
theorem KeepsW.trans {Bw : Nat} {X Y Z : World} (h : KeepsW Bw X Y) (k : KeepsW Bw Y Z) : KeepsW Bw X Z := fun v hv => k v (h v hv)
theorem KeepsW.drew {Bw : Nat} {X Y : World} (h : KeepsW Bw X Y) : KeepsW Bw X Y.drew := h
theorem KeepsW.refl (Bw : Nat) (X : World) : KeepsW Bw X X := fun _ h => h
theorem KeepsW.book {Bw : Nat} {w : World} (hB : Bw < w.heap.size) (W : World) (l : Nat) (o' : Obj) (hl : w.heap.size ≤ l) : KeepsW Bw W (W.putObj l o') := fun _ hv => hv.kept (grownBy_putObj' W l o') (by simp; omega)

/-- What a call of yield hands back, said once for both ways. -/
def YSays (J Jx : List UInt8 → World → Prop) (Bw : Nat) (pre : List UInt8) (c : UInt8) (W : World) (e : Ending) (W' : World) : Prop :=
  ∃ go : Bool, e = .returned (.bool go) ∧ (go = true → J (pre ++ [c]) W' ∧ KeepsW Bw W W') ∧ (go = false → Jx (pre ++ [c]) W')

theorem byte_wrap {x : Int} (h0 : 0 ≤ x) (k : Nat) : IntKind.u8.wrap (x / 2 ^ (8 * k)) = ((byteAt x k).toNat : Int) := by
  obtain ⟨m, rfl⟩ : ∃ m : Nat, x = m := ⟨x.toNat, by omega⟩
  rw [byteAt_toNat, Int.toNat_natCast, show (256 : Nat) ^ k = 2 ^ (8 * k) from by rw [Nat.pow_mul]]
  have e : ((2 : Int) ^ (8 * k)) = ((2 ^ (8 * k) : Nat) : Int) := by rw [Int.natCast_pow]; rfl
  rw [e]
  generalize 2 ^ (8 * k) = q
  have e2 : ∀ y : Int, IntKind.u8.wrap y = y % 256 := fun y => by simp [IntKind.wrap, IntKind.signed, IntKind.bits]
  rw [e2]
  omega
theorem wb_take_succ (x : Int) (k : Nat) (hk : k < 8) : (wb x).take (k + 1) = (wb x).take k ++ [byteAt x k] := by
  match k, hk with
  | 0, _ => rfl
  | 1, _ => rfl
  | 2, _ => rfl
  | 3, _ => rfl
  | 4, _ => rfl
  | 5, _ => rfl
  | 6, _ => rfl
  | 7, _ => rfl

set_option maxRecDepth 100000 in
set_option maxHeartbeats 2000000 in
theorem bytes1_in (n : Nat) (hn : 1 ≤ n) (l Bw : Nat) (x : Int) (hx0 : 0 ≤ x)
    (J Jx : List UInt8 → World → Prop)
    (hY : ∀ pre c W, J pre W → pre.length < 8 → YieldAt Fence.wide (n - 1) Tryd.prog l #[.int .u8 (c.toNat : Int)] W (YSays J Jx Bw pre c W))
    (W : World) (bw : Boxed W Bw 40 (.int .u64 x)) (h0 : J [] W) :
    CallsIn Fence.wide n Tryd.prog 43 #[.func (.yield l) #[] #[], .pointer (some ⟨Bw, 0, none⟩)] W fun e W' => (∃ v, e = .returned v) ∧
      ((∃ ys, ys = wb x ∧ J ys W') ∨ (∃ pre : List UInt8, True ∧ Jx pre W')) := by
  refine callsIn_of_wp Tryd.func43 rfl trivial ?_ rfl
  simp only [Tryd.ntmps43, List.size_toArray, List.length_cons, List.length_nil, Nat.reduceAdd, Nat.reduceSub, Array.replicate_succ, Array.replicate_zero, List.push_toArray, List.append_toArray, List.nil_append, List.cons_append]
  gi_wp2
  gi_loopw [4] (fun i wr => ∃ k : Nat, k ≤ 8 ∧ i = .int .i64 k ∧ J ((wb x).take k) wr ∧ KeepsW Bw W wr) (fun i _ => 8 - (intOf i).toNat)
  case atStart => exact ⟨0, Nat.zero_le _, rfl, h0, KeepsW.refl _ _⟩
  case round =>
    obtain ⟨k, hk, rfl, hJs, hnx⟩ := hrel
    by_cases hlt : k < 8
    · have hcw : wr.cell? ⟨Bw, 0, none⟩ = some (.int .u64 x) := (hnx _ bw).cell
      have hbyte := byte_wrap hx0 k
      have hstep := Lib.hid (wb_take_succ x k hlt)
      obtain ⟨fn, tmps, assign, body, hy, hR⟩ := hY _ (byteAt x k) wr hJs (by rw [List.length_take, wb_length]; omega)
      gi_wp2
      refine hR.mono ?_
      rintro e W3 ⟨go, rfl, h1, h2⟩
      cases go with
      | true =>
        obtain ⟨hJ3, hk3⟩ := h1 rfl
        clear h1 h2
        gi_wp2
        go_roundw
        case rel => exact ⟨k + 1, by omega, by simp, by rw [hstep.out]; exact hJ3, hnx.trans hk3⟩
        case measure => simp [intOf]; omega
      | false =>
        have hJx3 := h2 rfl
        clear h1 h2
        gi_wp2
        refine bodyPost_ret (results_none rfl _ _ _) rfl ?_
        exact ⟨⟨_, rfl⟩, .inr ⟨_, trivial, hJx3⟩⟩
    · obtain rfl : k = 8 := by omega
      gi_wp2
      go_end0
      exact ⟨⟨_, rfl⟩, .inl ⟨_, rfl, hJs⟩⟩

theorem bytes_stops (n : Nat) (hn : 1 ≤ n) (Bw : Nat) (x : Int) (hx0 : 0 ≤ x) (w : World) (bw : Boxed w Bw 40 (.int .u64 x)) :
    SeqStopsK Fence.wide n Tryd.prog 43 #[.pointer (some ⟨Bw, 0, none⟩)] (fun c : UInt8 => #[Value.int .u8 (c.toNat : Int)]) (KeepsW Bw)
      (fun ys => ys = wb x) (fun _ => True) 8 w := fun l J Jx W hW _ _ hY h0 => by
  refine bytes1_in n hn l Bw x hx0 J Jx (fun pre c X hj hl => (hY pre c X hj hl).mono ?_) W ((hW.block Bw bw.lt).trans bw) h0
  rintro e X' (⟨rfl, h1, h2⟩ | ⟨rfl, h1⟩)
  · exact ⟨true, rfl, fun _ => ⟨h1, h2⟩, fun h => absurd h (by decide)⟩
  · exact ⟨false, rfl, fun h => absurd h (by decide), fun _ => h1⟩

end Go.Proofs.YtblfmbkkeieiaaaDoor
