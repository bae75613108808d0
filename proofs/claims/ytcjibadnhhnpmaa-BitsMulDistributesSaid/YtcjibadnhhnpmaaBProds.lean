/- The iterator over the products of the bits of both operands: what it hands on adds up to the product of the values. Conditions: bit vectors of at most 1000 bits. -/
import Derived.Test.YtcjibadnhhnpmaaBPairs
namespace Go.Proofs.Ytcjibadnhhnpmaa
open Go.RowKit Go.Shelf BitMath
attribute [local go_sem] Oper.semAt_some

/-- An index below m, and a bit. -/
abbrev PP (m : Nat) : Type := { p : Nat × Int // p.1 < m ∧ (p.2 = 0 ∨ p.2 = 1) }
/-- What the bits that have come add up to. -/
def psum {m : Nat} (pre : List (PP m)) : Int := pre.foldl (fun s p => s + 2 ^ p.1.1 * p.1.2) 0
theorem psum_snoc {m : Nat} (pre : List (PP m)) (p : PP m) : psum (pre ++ [p]) = psum pre + 2 ^ p.1.1 * p.1.2 := by simp [psum]

theorem prods_in (n : Nat) (A A' : Option Addr) (k k' c c' : Nat) (w : World) :
    CallsIn Fence.wide n Try.prog 33 #[.slice A k c, .slice A' k' c'] w fun e w' =>
      e = .returned (.func (.func 36) #[] #[.pointer (some ⟨w.heap.size, 0, none⟩), .pointer (some ⟨w.heap.size + 1, 0, none⟩)]) ∧
      w' = (w.alloc (.cells #[.slice A k c] 24)).alloc (.cells #[.slice A' k' c'] 24) := by
  refine callsIn_of_wp Try.func33 rfl trivial ?_ rfl
  simp only [Try.ntmps33, List.size_toArray, List.length_cons, List.length_nil, Nat.reduceAdd, Nat.reduceSub, Array.replicate_succ, Array.replicate_zero, List.push_toArray, List.append_toArray, List.nil_append, List.cons_append]
  gi_wp2
  go_ret
  exact ⟨rfl, rfl⟩

theorem step_inner (s V t y : Int) (k j : Nat) (x : Int) (b : List Int) (hs : s = V + 2 ^ k * x * val (b.take j)) (hy : b[j]?.getD 0 = y) (ht : t = x * y) : s + 2 ^ (k + j) * t = V + 2 ^ k * x * val (b.take (j + 1)) := by
  rw [val_take_succ, hs, hy, ht, Int.mul_add, Int.pow_add, Int.add_assoc]
  congr 2
  simp only [Int.mul_assoc, Int.mul_comm, Int.mul_left_comm]

theorem step_outer (a b : List Int) (k : Nat) (x : Int) (hx : a[k]?.getD 0 = x) : val (a.take k) * val b + 2 ^ k * x * val b = val (a.take (k + 1)) * val b := by
  rw [val_take_succ, hx, Int.add_mul]

theorem mul_room {k j la lb : Nat} (hk : k < la) (hj : j < lb) : k * lb + j < la * lb := by
  have h : (k + 1) * lb ≤ la * lb := Nat.mul_le_mul_right lb hk
  rw [Nat.add_mul, Nat.one_mul] at h
  omega

set_option maxRecDepth 100000 in
set_option maxHeartbeats 2000000 in
theorem prods1_in (n : Nat) (hn : 1 ≤ n) (l Ba Bb n₀ : Nat) (A A' : Option Addr) (c c' : Nat) (a b : List Int) (ha : Bits a) (hb : Bits b) (la : a.length ≤ 1000) (lb : b.length ≤ 1000)
    (J Jx : List (PP (a.length + b.length)) → World → Prop)
    (hY : ∀ pre x W, J pre W → pre.length < a.length * b.length → YieldAt Fence.wide (n - 1) Try.prog l #[.int .i64 (x.1.1 : Int), .int .u64 x.1.2] W fun e W' =>
      (e = .returned (.bool true) ∧ J (pre ++ [x]) W' ∧ KeepsAB n₀ Ba Bb W W') ∨ (e = .returned (.bool false) ∧ Jx (pre ++ [x]) W'))
    (W : World) (ba : Boxed W Ba 24 (.slice A a.length c)) (bb : Boxed W Bb 24 (.slice A' b.length c'))
    (hra : Rd n₀ W A a) (hrb : Rd n₀ W A' b) (h0 : J [] W) :
    CallsIn Fence.wide n Try.prog 36 #[.func (.yield l) #[] #[], .pointer (some ⟨Ba, 0, none⟩), .pointer (some ⟨Bb, 0, none⟩)] W fun e W' => (∃ v, e = .returned v) ∧
      ((∃ ys, psum ys = val a * val b ∧ J ys W') ∨ (∃ pre, True ∧ Jx pre W')) := by
  refine callsIn_of_wp Try.func36 rfl trivial ?_ rfl
  simp only [Try.ntmps36, List.size_toArray, List.length_cons, List.length_nil, Nat.reduceAdd, Nat.reduceSub, Array.replicate_succ, Array.replicate_zero, List.push_toArray, List.append_toArray, List.nil_append, List.cons_append]
  have hca := ba.cell
  have f00 : bits BinOp.and IntKind.u64 0 0 = 0 := by decide
  have f01 : bits BinOp.and IntKind.u64 0 1 = 0 := by decide
  have f10 : bits BinOp.and IntKind.u64 1 0 = 0 := by decide
  have f11 : bits BinOp.and IntKind.u64 1 1 = 1 := by decide
  gi_wp2
  gi_loopw [10] (fun i wr => ∃ (k : Nat) (pre : List (PP (a.length + b.length))), k ≤ a.length ∧ i = .int .i64 k ∧ J pre wr ∧ pre.length = k * b.length ∧ psum pre = val (a.take k) * val b ∧ KeepsAB n₀ Ba Bb W wr) (fun i _ => a.length - (intOf i).toNat)
  case atStart => exact ⟨0, [], Nat.zero_le _, rfl, h0, by simp, by simp [psum, val], KeepsAB.refl _ _ _ _⟩
  case round =>
    obtain ⟨k, pre, hk, rfl, hJs, hlen, hsum, hnx⟩ := hrel
    by_cases hlt : k < a.length
    · obtain ⟨bk, ok, x, hA, _, hxk, hcx⟩ := (hra.below hnx.1).at_ hlt
      subst hA
      have hx01 : x = 0 ∨ x = 1 := ha x (List.mem_of_getElem? hxk)
      have hcb := (hnx.2.2 _ bb).cell
      have hSum := Lib.hid hsum
      have hLen := Lib.hid hlen
      clear hsum hlen
      gi_wp2
      gi_loopw [17] (fun i wq => ∃ (j : Nat) (pr : List (PP (a.length + b.length))), j ≤ b.length ∧ i = .int .i64 j ∧ J pr wq ∧ pr.length = k * b.length + j ∧ psum pr = val (a.take k) * val b + 2 ^ k * x * val (b.take j) ∧ KeepsAB n₀ Ba Bb W wq) (fun i _ => b.length - (intOf i).toNat)
      case atStart => exact ⟨0, pre, Nat.zero_le _, rfl, hJs, hLen.out, by rw [hSum.out]; simp [val], hnx⟩
      case round =>
        obtain ⟨j, pr, hj, rfl, hJq, hlenq, hsumq, hnq⟩ := hrel
        have hSq := Lib.hid hsumq
        have hLq := Lib.hid hlenq
        clear hsumq hlenq
        by_cases hltj : j < b.length
        · obtain ⟨bj, oj, y, hA', _, hyj, hcy⟩ := (hrb.below hnq.1).at_ hltj
          subst hA'
          have hy01 : y = 0 ∨ y = 1 := hb y (List.mem_of_getElem? hyj)
          obtain ⟨t, ht⟩ : ∃ t, x * y = t := ⟨_, rfl⟩
          have ht01 : t = 0 ∨ t = 1 := by rcases hx01 with rfl | rfl <;> rcases hy01 with rfl | rfl <;> simp at ht <;> omega
          have hst := Lib.hid (step_inner (psum pr) _ t y k j x b hSq.out (by rw [hyj]; rfl) ht.symm)
          obtain ⟨fn, tmps, assign, body, hy, hR⟩ := hY pr ⟨(k + j, t), by dsimp only; omega, ht01⟩ _ hJq (by rw [hLq.out]; exact mul_room hlt hltj)
          dsimp only at hy
          rw [Int.natCast_add] at hy
          have hXK := Lib.hid hxk
          clear hSum hLen hxk hyj
          rcases hx01 with rfl | rfl <;> rcases hy01 with rfl | rfl <;> rcases ht01 with rfl | rfl <;> first | (exfalso; revert ht; decide) | skip
          all_goals
            clear ht
            gi_wp2
            refine hR.mono ?_
            rintro e W3 (⟨rfl, hJ3, hk3⟩ | ⟨rfl, hJx3⟩)
            · gi_wp2
              go_roundw
              case rel => exact ⟨j + 1, _, by omega, by simp, hJ3, by rw [List.length_append, hLq.out]; rfl, by rw [psum_snoc]; exact hst.out, hnq.trans hk3⟩
              case measure => simp [intOf]; omega
            · gi_wp2
              refine bodyPost_ret (results_none rfl _ _ _) rfl ?_
              exact ⟨⟨_, rfl⟩, .inr ⟨_, trivial, hJx3⟩⟩
        · obtain rfl : j = b.length := by omega
          have hst := Lib.hid (step_outer a b k x (by rw [hxk]; rfl))
          gi_wp2
          go_roundw
          case rel => exact ⟨k + 1, pr, by omega, by simp, hJq, by rw [hLq.out, Nat.add_mul, Nat.one_mul], by rw [hSq.out, take_all (Nat.le_refl _)]; exact hst.out, hnq⟩
          case measure => simp [intOf]; omega
    · obtain rfl : k = a.length := by omega
      gi_wp2
      go_end0
      exact ⟨⟨_, rfl⟩, .inl ⟨_, by rw [hsum, take_all (Nat.le_refl _)], hJs⟩⟩

theorem prods_stops (n : Nat) (hn : 1 ≤ n) (Ba Bb n₀ : Nat) (A A' : Option Addr) (c c' : Nat) (a b : List Int) (ha : Bits a) (hb : Bits b) (la : a.length ≤ 1000) (lb : b.length ≤ 1000)
    (w : World) (hn₀ : n₀ ≤ w.heap.size) (ba : Boxed w Ba 24 (.slice A a.length c)) (bb : Boxed w Bb 24 (.slice A' b.length c'))
    (hra : Rd n₀ w A a) (hrb : Rd n₀ w A' b) :
    SeqStopsK Fence.wide n Try.prog 36 #[.pointer (some ⟨Ba, 0, none⟩), .pointer (some ⟨Bb, 0, none⟩)] (fun x : PP (a.length + b.length) => #[Value.int .i64 (x.1.1 : Int), Value.int .u64 x.1.2]) (KeepsAB n₀ Ba Bb)
      (fun ys => psum ys = val a * val b) (fun _ => True) (a.length * b.length) w := fun l J Jx W hW _ _ hY h0 =>
  prods1_in n hn l Ba Bb n₀ A A' c c' a b ha hb la lb J Jx hY W
    ((hW.block Ba ba.lt).trans ba) ((hW.block Bb bb.lt).trans bb) (hra.below (hW.mono hn₀)) (hrb.below (hW.mono hn₀)) h0

end Go.Proofs.Ytcjibadnhhnpmaa
