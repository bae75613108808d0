/- Contracts of the reference implementation of layer 1 (package privityref01) at every supported prime and at all elements of its field; and of the examples of the document, which hold. -/
import Derived.Test.YtbhphamfkhccpaaField
import Derived.Below
import Derived.Deep.QuietTactic
import Derived.BigQuiet
namespace Go.Proofs.Ytbhphamfkhccpaa
set_option maxRecDepth 100000
open Go.RowKit Go.Lib FieldMath

/-- The prime that Fit selects. -/
def fitP (n : Int) : Int := if n % 7 = 0 then 31 else if n % 7 = 1 then 127 else if n % 7 = 2 then 8191 else if n % 7 = 3 then 131071 else if n % 7 = 4 then 524287 else if n % 7 = 5 then 2147483647 else 2305843009213693951

theorem fitP_ok (n : Int) : OkP (fitP n) := by
  unfold fitP OkP
  by_cases h0 : n % 7 = 0; · rw [if_pos h0]; exact .inl rfl
  rw [if_neg h0]
  by_cases h1 : n % 7 = 1; · rw [if_pos h1]; exact .inr (.inl rfl)
  rw [if_neg h1]
  by_cases h2 : n % 7 = 2; · rw [if_pos h2]; exact .inr (.inr (.inl rfl))
  rw [if_neg h2]
  by_cases h3 : n % 7 = 3; · rw [if_pos h3]; exact .inr (.inr (.inr (.inl rfl)))
  rw [if_neg h3]
  by_cases h4 : n % 7 = 4; · rw [if_pos h4]; exact .inr (.inr (.inr (.inr (.inl rfl))))
  rw [if_neg h4]
  by_cases h5 : n % 7 = 5; · rw [if_pos h5]; exact .inr (.inr (.inr (.inr (.inr (.inl rfl)))))
  rw [if_neg h5]; exact .inr (.inr (.inr (.inr (.inr (.inr rfl)))))

theorem rAdd_any (p a b : Int) (hp : OkP p) (ha0 : 0 ≤ a) (ha : a < p) (hb0 : 0 ≤ b) (hb : b < p) (w : World) :
    Calls Try.prog 45 #[.int .u64 p, .int .u64 a, .int .u64 b] w fun e w' => e = .returned (.int .u64 (fadd p a b)) ∧ w = w' := by
  have hbd := hp.bd
  unfold fadd
  go_enter Try.func45, Try.ntmps45
  go_wp2
  go_ret
  exact ⟨rfl, rfl⟩

theorem mul_dbl (p a b : Int) (ho : b % 2 = 0) : fmul p (fadd p a a) (b / 2) = fmul p a b := by
  unfold fmul fadd
  rw [Int.mul_emod, Int.emod_emod, ← Int.mul_emod, show (a + a) * (b / 2) = a * b from by
    conv => rhs; rw [show b = b / 2 + b / 2 from by omega]
    rw [Int.add_mul, Int.mul_add]]
theorem mul_dbl_odd (p a b c : Int) (ho : b % 2 = 1) : fadd p (fadd p c a) (fmul p (fadd p a a) (b / 2)) = fadd p c (fmul p a b) := by
  rw [fadd_assoc]
  congr 1
  unfold fmul fadd
  have h : (a + a) % p * (b / 2) % p = (a + a) * (b / 2) % p := by rw [Int.mul_emod, Int.emod_emod, ← Int.mul_emod]
  rw [h, Int.add_emod_emod]
  congr 1
  conv => rhs; rw [show b = 1 + (b / 2 + b / 2) from by omega]
  rw [Int.add_mul, Int.mul_add, Int.mul_add, Int.mul_one]

set_option maxHeartbeats 1000000 in
theorem rMul_any (p a b : Int) (hp : OkP p) (ha0 : 0 ≤ a) (ha : a < p) (hb0 : 0 ≤ b) (hb : b < p) (w : World) :
    Calls Try.prog 46 #[.int .u64 p, .int .u64 a, .int .u64 b] w fun e w' => e = .returned (.int .u64 (fmul p a b)) ∧ w = w' := by
  have hbd := hp.bd
  go_enter Try.func46, Try.ntmps46
  go_wp2
  go_loop [1, 2, 7] (fun x y z => ∃ A B C : Int, x = .int .u64 A ∧ y = .int .u64 B ∧ z = .int .u64 C ∧ 0 ≤ A ∧ A < p ∧ 0 ≤ B ∧ B ≤ 18446744073709551615 ∧ 0 ≤ C ∧ C < p ∧ Hid (fadd p C (fmul p A B) = fmul p a b)) (fun _ y _ => (intOf y).toNat)
  case atStart => exact ⟨a, b, 0, rfl, rfl, rfl, ha0, ha, hb0, by omega, by omega, by omega, by
    rw [fadd_comm]; exact fadd_zero p _ (fmul_bd p a b (by omega)).1 (fmul_bd p a b (by omega)).2⟩
  case round =>
    obtain ⟨A, B, C, rfl, rfl, rfl, hA0, hA, hB0, hB, hC0, hC, hI⟩ := hrel
    by_cases hz : 0 < B
    · have hm1 := fadd_bd p C A (by omega)
      have hm2 := fadd_bd p A A (by omega)
      by_cases ho : B % 2 = 1
      · have HI := Lib.hid (mul_dbl_odd p A B C ho)
        go_wp2
        go_round
        case rel => exact ⟨fadd p A A, _, fadd p C A, rfl, rfl, rfl, hm2.1, hm2.2, by omega, by omega, hm1.1, hm1.2, HI.out.trans hI.out⟩
        case measure => simp [intOf]; omega
      · have ho' : B % 2 = 0 := by omega
        have HI := Lib.hid (mul_dbl p A B ho')
        clear ho
        go_wp2
        go_round
        case rel => exact ⟨fadd p A A, _, _, rfl, rfl, rfl, hm2.1, hm2.2, by omega, by omega, hC0, hC, by rw [HI.out]; exact hI.out⟩
        case measure => simp [intOf]; omega
    · have hz' : B = 0 := by omega
      subst hz'
      have HF : Hid (C = fmul p a b) := by have := hI.out; rw [fmul_zero, fadd_zero p C hC0 hC] at this; exact this
      go_wp2
      go_ret
      exact ⟨by rw [← HF.out]; rfl, rfl⟩

/-- The seven primes in their order. -/
def prOf (j : Int) : Int := if j = 0 then 31 else if j = 1 then 127 else if j = 2 then 8191 else if j = 3 then 131071 else if j = 4 then 524287 else if j = 5 then 2147483647 else 2305843009213693951

theorem qOf_none (p : Int) (h : ∀ j, 0 ≤ j → j < 7 → p ≠ prOf j) : qOf p = 0 := by
  apply qOf_other
  rintro (e | e | e | e | e | e | e)
  · exact h 0 (by omega) (by omega) e
  · exact h 1 (by omega) (by omega) e
  · exact h 2 (by omega) (by omega) e
  · exact h 3 (by omega) (by omega) e
  · exact h 4 (by omega) (by omega) e
  · exact h 5 (by omega) (by omega) e
  · exact h 6 (by omega) (by omega) e

theorem next_not (p k l : Int) (h : ∀ j, 0 ≤ j → j < k → p ≠ prOf j) (hk : p ≠ prOf k) (hl : l = k + 1) : ∀ j, 0 ≤ j → j < l → p ≠ prOf j := by
  intro j hj0 hj
  by_cases e : j = k
  · subst e; exact hk
  · exact h j hj0 (by omega)

theorem exps_any (w : World) :
    Calls Try.prog 67 #[] w fun e w' => e = .returned (.slice (some ⟨w.heap.size, 0, none⟩) 7 7) ∧ w' = w.alloc (.cells #[.int .i64 5, .int .i64 7, .int .i64 13, .int .i64 17, .int .i64 19, .int .i64 31, .int .i64 61] 3) := by
  go_enter Try.func67, Try.ntmps67
  go_wp2
  go_ret
  exact ⟨rfl, rfl⟩

set_option maxHeartbeats 4000000 in
theorem rExponent_any (p : Int) (w : World) :
    Calls Try.prog 57 #[.int .u64 p] w fun e w' => e = .returned (.int .i64 (qOf p)) ∧ Below w.heap.size w w' := by
  go_enter Try.func57, Try.ntmps57
  go_wp2_with fail
  refine (exps_any _).mono ?_
  rintro e w' ⟨rfl, rfl⟩
  go_wp2_with fail
  go_loop [4] (fun x => ∃ k : Int, 0 ≤ k ∧ k ≤ 7 ∧ x = .int .i64 k ∧ Hid (∀ j, 0 ≤ j → j < k → p ≠ prOf j)) (fun x => 7 - (intOf x).toNat)
  case atStart => exact ⟨0, by omega, by omega, rfl, fun j hj hj' => by omega⟩
  case round =>
    obtain ⟨k, hk0, hk, rfl, hI⟩ := hrel
    have hc : k = 0 ∨ k = 1 ∨ k = 2 ∨ k = 3 ∨ k = 4 ∨ k = 5 ∨ k = 6 ∨ k = 7 := by omega
    rcases hc with rfl | rfl | rfl | rfl | rfl | rfl | rfl | rfl
    case inr.inr.inr.inr.inr.inr.inr =>
      have HF := Lib.hid (qOf_none p hI.out)
      clear hI hk hk0
      go_wp2
      go_ret
      exact ⟨by rw [HF.out]; rfl, (Below.refl _ _).alloc (Nat.le_refl _) _⟩
    · by_cases hp : p = 31
      · subst hp
        have HF := Lib.hid (show qOf 31 = 5 from by decide +kernel)
        clear hI hk hk0
        go_wp2
        go_ret
        exact ⟨by rw [HF.out]; rfl, (Below.refl _ _).alloc (Nat.le_refl _) _⟩
      · have hne : (p == 31) = false := beq_eq_false_iff_ne.2 hp
        have HN := Lib.hid (next_not p 0 1 hI.out hp rfl)
        clear hI hk hk0 hp
        go_wp2
        go_round
        case rel => exact ⟨1, by omega, by omega, rfl, HN.out⟩
        case measure => simp [intOf]
    · by_cases hp : p = 127
      · subst hp
        have HF := Lib.hid (show qOf 127 = 7 from by decide +kernel)
        clear hI hk hk0
        go_wp2
        go_ret
        exact ⟨by rw [HF.out]; rfl, (Below.refl _ _).alloc (Nat.le_refl _) _⟩
      · have hne : (p == 127) = false := beq_eq_false_iff_ne.2 hp
        have HN := Lib.hid (next_not p 1 2 hI.out hp rfl)
        clear hI hk hk0 hp
        go_wp2
        go_round
        case rel => exact ⟨2, by omega, by omega, rfl, HN.out⟩
        case measure => simp [intOf]
    · by_cases hp : p = 8191
      · subst hp
        have HF := Lib.hid (show qOf 8191 = 13 from by decide +kernel)
        clear hI hk hk0
        go_wp2
        go_ret
        exact ⟨by rw [HF.out]; rfl, (Below.refl _ _).alloc (Nat.le_refl _) _⟩
      · have hne : (p == 8191) = false := beq_eq_false_iff_ne.2 hp
        have HN := Lib.hid (next_not p 2 3 hI.out hp rfl)
        clear hI hk hk0 hp
        go_wp2
        go_round
        case rel => exact ⟨3, by omega, by omega, rfl, HN.out⟩
        case measure => simp [intOf]
    · by_cases hp : p = 131071
      · subst hp
        have HF := Lib.hid (show qOf 131071 = 17 from by decide +kernel)
        clear hI hk hk0
        go_wp2
        go_ret
        exact ⟨by rw [HF.out]; rfl, (Below.refl _ _).alloc (Nat.le_refl _) _⟩
      · have hne : (p == 131071) = false := beq_eq_false_iff_ne.2 hp
        have HN := Lib.hid (next_not p 3 4 hI.out hp rfl)
        clear hI hk hk0 hp
        go_wp2
        go_round
        case rel => exact ⟨4, by omega, by omega, rfl, HN.out⟩
        case measure => simp [intOf]
    · by_cases hp : p = 524287
      · subst hp
        have HF := Lib.hid (show qOf 524287 = 19 from by decide +kernel)
        clear hI hk hk0
        go_wp2
        go_ret
        exact ⟨by rw [HF.out]; rfl, (Below.refl _ _).alloc (Nat.le_refl _) _⟩
      · have hne : (p == 524287) = false := beq_eq_false_iff_ne.2 hp
        have HN := Lib.hid (next_not p 4 5 hI.out hp rfl)
        clear hI hk hk0 hp
        go_wp2
        go_round
        case rel => exact ⟨5, by omega, by omega, rfl, HN.out⟩
        case measure => simp [intOf]
    · by_cases hp : p = 2147483647
      · subst hp
        have HF := Lib.hid (show qOf 2147483647 = 31 from by decide +kernel)
        clear hI hk hk0
        go_wp2
        go_ret
        exact ⟨by rw [HF.out]; rfl, (Below.refl _ _).alloc (Nat.le_refl _) _⟩
      · have hne : (p == 2147483647) = false := beq_eq_false_iff_ne.2 hp
        have HN := Lib.hid (next_not p 5 6 hI.out hp rfl)
        clear hI hk hk0 hp
        go_wp2
        go_round
        case rel => exact ⟨6, by omega, by omega, rfl, HN.out⟩
        case measure => simp [intOf]
    · by_cases hp : p = 2305843009213693951
      · subst hp
        have HF := Lib.hid (show qOf 2305843009213693951 = 61 from by decide +kernel)
        clear hI hk hk0
        go_wp2
        go_ret
        exact ⟨by rw [HF.out]; rfl, (Below.refl _ _).alloc (Nat.le_refl _) _⟩
      · have hne : (p == 2305843009213693951) = false := beq_eq_false_iff_ne.2 hp
        have HN := Lib.hid (next_not p 6 7 hI.out hp rfl)
        clear hI hk hk0 hp
        go_wp2
        go_round
        case rel => exact ⟨7, by omega, by omega, rfl, HN.out⟩
        case measure => simp [intOf]

theorem rSupported_any (p : Int) (w : World) :
    Calls Try.prog 48 #[.int .u64 p] w fun e w' => e = .returned (.bool (qOf p != 0)) ∧ Below w.heap.size w w' := by
  have HB : Hid (decide (0 < qOf p) = (qOf p != 0)) := by
    have h := qOf_bd p
    show decide (0 < qOf p) = (qOf p != 0)
    rw [Bool.eq_iff_iff, decide_eq_true_eq, bne_iff_ne]; omega
  go_enter Try.func48, Try.ntmps48
  go_wp2_with fail
  refine (rExponent_any _ _).mono ?_
  rintro e w' ⟨rfl, hb⟩
  go_wp2_with fail
  go_ret
  exact ⟨by rw [← HB.out]; rfl, hb⟩

/-- All that lay below is as it was. -/
theorem bcell {W w1 : World} (hb : Below W.heap.size W w1) : (∀ b o, b < W.heap.size → w1.cell? ⟨b, o, none⟩ = W.cell? ⟨b, o, none⟩) ∧ (∀ b o, b < W.heap.size → w1.frozen? ⟨b, o, none⟩ = W.frozen? ⟨b, o, none⟩) :=
  ⟨fun b o h => hb.cell (p := ⟨b, o, none⟩) h, fun b o h => hb.frozen (p := ⟨b, o, none⟩) h⟩

theorem results_tmp4 {fn : Func} {t u v x : Tmp} (h : fn.results = #[.tmp t, .tmp u, .tmp v, .tmp x]) (tmps : Array Value) (P : Program) (w : World) :
    (results fn tmps).run P w = .ok (.tuple #[tmps.getD t undef, tmps.getD u undef, tmps.getD v undef, tmps.getD x undef]) w := by simp [results, h]

theorem aw_mul (w : World) : Calls Try.prog 44 #[.int .u64 31, .int .u64 20, .int .u64 20] w fun e w' => e = .returned (.int .u64 28) ∧ w = w' := by
  have h := mul_any 31 20 20 (.inl rfl) (by omega) (by omega) (by omega) (by omega) w
  rw [show fmul 31 20 20 = 28 from by decide +kernel] at h
  exact h
theorem aw_sup (w : World) : Calls Try.prog 68 #[.int .u64 8191] w fun e w' => e = .returned (.bool true) ∧ w = w' := by
  have h := supported_any 8191 w
  rw [show (qOf 8191 != 0) = true from by decide +kernel] at h
  exact h
theorem aw_nsup (w : World) : Calls Try.prog 68 #[.int .u64 7] w fun e w' => e = .returned (.bool false) ∧ w = w' := by
  have h := supported_any 7 w
  rw [show (qOf 7 != 0) = false from by decide +kernel] at h
  exact h
theorem aw_exp (w : World) : Calls Try.prog 72 #[.int .u64 127] w fun e w' => e = .returned (.int .i64 7) ∧ w = w' := by
  have h := exponent_any 127 w
  rw [show qOf 127 = 7 from by decide +kernel] at h
  exact h

/-! ### Quiet calls inside a region that draws its order -/
theorem quiet_left {P : Program} {f : FuncId} {args : Array Value} {w : World} {n : Nat} {v : Value}
    (h : Calls P f args (w.drewN n) fun e w' => e = .returned v ∧ w.drewN n = w') : Calls P f args (w.drewN n) fun e w'' => e = .returned v ∧ ∃ m, w'' = w.drewN m :=
  h.mono fun _ _ ⟨he, hm⟩ => ⟨he, n, hm.symm⟩
theorem quiet_add_left {P : Program} {f : FuncId} {args : Array Value} {w : World} {a n : Nat} {v : Value}
    (h : Calls P f args (w.drewN (a + n)) fun e w' => e = .returned v ∧ w.drewN (a + n) = w') :
    Calls P f args (w.drewN (a + n)) fun e w'' => e = .returned v ∧ ∃ m, w'' = w.drewN (a + m) :=
  h.mono fun _ _ ⟨he, hm⟩ => ⟨he, n, hm.symm⟩

end Go.Proofs.Ytbhphamfkhccpaa
