/- Contracts of the reference implementation of layer 1 (package privityref01) at every supported prime and at all elements of its field; and of the examples of the document, which hold. -/
import Derived.Test.YtcogiippiaebaaaField
import Derived.Below
import Derived.Deep.QuietTactic
import Derived.BigQuiet
namespace Go.Proofs.Ytcogiippiaebaaa
open Go.RowKit Go.Lib FieldMath

/-- The prime that Fit selects. -/
def fitP (n : Int) : Int := if n % 7 = 0 then 31 else if n % 7 = 1 then 127 else if n % 7 = 2 then 8191 else if n % 7 = 3 then 131071 else if n % 7 = 4 then 524287 else if n % 7 = 5 then 2147483647 else 2305843009213693951

theorem fitP_ok (n : Int) : OkP (fitP n) := by
  unfold fitP OkP
  by_cases h0 : n % 7 = 0; · rw [if_pos h0]; exact .inl rfl
  rw [if_neg h0]
  by_cases h1 : n % 7 = 1; · rw [if_pos h1]; exact .inr (.inl rfl)
  rw [if_neg h1]
  by_cases h2 : n % 7 = 2; · rw [if_pos h2]; exact .inr (.inr (.inl rfl))
  rw [if_neg h2]
  by_cases h3 : n % 7 = 3; · rw [if_pos h3]; exact .inr (.inr (.inr (.inl rfl)))
  rw [if_neg h3]
  by_cases h4 : n % 7 = 4; · rw [if_pos h4]; exact .inr (.inr (.inr (.inr (.inl rfl))))
  rw [if_neg h4]
  by_cases h5 : n % 7 = 5; · rw [if_pos h5]; exact .inr (.inr (.inr (.inr (.inr (.inl rfl)))))
  rw [if_neg h5]; exact .inr (.inr (.inr (.inr (.inr (.inr rfl)))))

set_option maxHeartbeats 1000000 in
theorem rFit_any (n : Int) (h0 : 0 ≤ n) (h1 : n ≤ 18446744073709551615) (w : World) :
    Calls Try.prog 18 #[.int .u64 n] w fun e w' => e = .returned (.int .u64 (fitP n)) ∧ Below w.heap.size w w' := by
  have hc : n % 7 = 0 ∨ n % 7 = 1 ∨ n % 7 = 2 ∨ n % 7 = 3 ∨ n % 7 = 4 ∨ n % 7 = 5 ∨ n % 7 = 6 := by omega
  rcases hc with h | h | h | h | h | h | h
  all_goals
    have e : ∃ v, fitP n = v := ⟨_, rfl⟩
    unfold fitP at e ⊢
    simp only [h] at e ⊢
    clear e
    go_enter Try.func18, Try.ntmps18
    go_wp2
    go_ret
    exact ⟨rfl, (Below.refl _ _).alloc (Nat.le_refl _) _⟩

theorem mul_dbl (p a b : Int) (ho : b % 2 = 0) : fmul p (fadd p a a) (b / 2) = fmul p a b := by
  unfold fmul fadd
  rw [Int.mul_emod, Int.emod_emod, ← Int.mul_emod, show (a + a) * (b / 2) = a * b from by
    conv => rhs; rw [show b = b / 2 + b / 2 from by omega]
    rw [Int.add_mul, Int.mul_add]]
theorem mul_dbl_odd (p a b c : Int) (ho : b % 2 = 1) : fadd p (fadd p c a) (fmul p (fadd p a a) (b / 2)) = fadd p c (fmul p a b) := by
  rw [fadd_assoc]
  congr 1
  unfold fmul fadd
  have h : (a + a) % p * (b / 2) % p = (a + a) * (b / 2) % p := by rw [Int.mul_emod, Int.emod_emod, ← Int.mul_emod]
  rw [h, Int.add_emod_emod]
  congr 1
  conv => rhs; rw [show b = 1 + (b / 2 + b / 2) from by omega]
  rw [Int.add_mul, Int.mul_add, Int.mul_add, Int.mul_one]

/-- The seven primes in their order. -/
def prOf (j : Int) : Int := if j = 0 then 31 else if j = 1 then 127 else if j = 2 then 8191 else if j = 3 then 131071 else if j = 4 then 524287 else if j = 5 then 2147483647 else 2305843009213693951

theorem qOf_none (p : Int) (h : ∀ j, 0 ≤ j → j < 7 → p ≠ prOf j) : qOf p = 0 := by
  apply qOf_other
  rintro (e | e | e | e | e | e | e)
  · exact h 0 (by omega) (by omega) e
  · exact h 1 (by omega) (by omega) e
  · exact h 2 (by omega) (by omega) e
  · exact h 3 (by omega) (by omega) e
  · exact h 4 (by omega) (by omega) e
  · exact h 5 (by omega) (by omega) e
  · exact h 6 (by omega) (by omega) e

theorem next_not (p k l : Int) (h : ∀ j, 0 ≤ j → j < k → p ≠ prOf j) (hk : p ≠ prOf k) (hl : l = k + 1) : ∀ j, 0 ≤ j → j < l → p ≠ prOf j := by
  intro j hj0 hj
  by_cases e : j = k
  · subst e; exact hk
  · exact h j hj0 (by omega)

theorem exps_any (w : World) :
    Calls Try.prog 22 #[] w fun e w' => e = .returned (.slice (some ⟨w.heap.size, 0, none⟩) 7 7) ∧ w' = w.alloc (.cells #[.int .i64 5, .int .i64 7, .int .i64 13, .int .i64 17, .int .i64 19, .int .i64 31, .int .i64 61] 3) := by
  go_enter Try.func22, Try.ntmps22
  go_wp2
  go_ret
  exact ⟨rfl, rfl⟩

/-- All that lay below is as it was. -/
theorem bcell {W w1 : World} (hb : Below W.heap.size W w1) : (∀ b o, b < W.heap.size → w1.cell? ⟨b, o, none⟩ = W.cell? ⟨b, o, none⟩) ∧ (∀ b o, b < W.heap.size → w1.frozen? ⟨b, o, none⟩ = W.frozen? ⟨b, o, none⟩) :=
  ⟨fun b o h => hb.cell (p := ⟨b, o, none⟩) h, fun b o h => hb.frozen (p := ⟨b, o, none⟩) h⟩

theorem results_tmp4 {fn : Func} {t u v x : Tmp} (h : fn.results = #[.tmp t, .tmp u, .tmp v, .tmp x]) (tmps : Array Value) (P : Program) (w : World) :
    (results fn tmps).run P w = .ok (.tuple #[tmps.getD t undef, tmps.getD u undef, tmps.getD v undef, tmps.getD x undef]) w := by simp [results, h]

/-! ### Quiet calls inside a region that draws its order -/
theorem quiet_left {P : Program} {f : FuncId} {args : Array Value} {w : World} {n : Nat} {v : Value}
    (h : Calls P f args (w.drewN n) fun e w' => e = .returned v ∧ w.drewN n = w') : Calls P f args (w.drewN n) fun e w'' => e = .returned v ∧ ∃ m, w'' = w.drewN m :=
  h.mono fun _ _ ⟨he, hm⟩ => ⟨he, n, hm.symm⟩
theorem quiet_add_left {P : Program} {f : FuncId} {args : Array Value} {w : World} {a n : Nat} {v : Value}
    (h : Calls P f args (w.drewN (a + n)) fun e w' => e = .returned v ∧ w.drewN (a + n) = w') :
    Calls P f args (w.drewN (a + n)) fun e w'' => e = .returned v ∧ ∃ m, w'' = w.drewN (a + m) :=
  h.mono fun _ _ ⟨he, hm⟩ => ⟨he, n, hm.symm⟩

end Go.Proofs.Ytcogiippiaebaaa
