/- Contracts of package field and of what it calls of math/bits, at every supported prime and at all elements of its field. -/
import Derived.Test.YtbhphamfkhccpaaProg
import Derived.Test.YtbhphamfkhccpaaMath
import Derived.WalkKit
import Derived.WalkLawsBesides
import Derived.Lib.Mul64
import Derived.Laws.Bits64b
import Derived.Lib.Hide
import Derived.KernelRfl
import Derived.Outline
namespace Go.Proofs.Ytbhphamfkhccpaa
set_option maxRecDepth 100000
open Go.RowKit Go.Lib FieldMath

namespace Words
theorem maskN (a : Nat) (ha : a < 18446744073709551616) : bits .and .u64 (a : Int) 4294967295 = ((a % 4294967296 : Nat) : Int) := by
  have h := bits_and_u64_nat a 4294967295 ha (by omega)
  have e : a &&& 4294967295 = a % 4294967296 := Nat.and_two_pow_sub_one_eq_mod a 32
  rw [e] at h
  exact h
theorem divN (a : Nat) : (a : Int) / 4294967296 = ((a / 4294967296 : Nat) : Int) := by omega
theorem mulN (a b : Nat) : (a : Int) * (b : Int) = ((a * b : Nat) : Int) := (Int.natCast_mul a b).symm
theorem addN (a b : Nat) : (a : Int) + (b : Int) = ((a + b : Nat) : Int) := (Int.natCast_add a b).symm
theorem wrapN (a : Nat) (ha : a < 18446744073709551616) : IntKind.u64.wrap (a : Int) = (a : Int) := by rw [IntKind.wrap_u64]; omega
theorem wrapM (a : Nat) : IntKind.u64.wrap (a : Int) = ((a % 18446744073709551616 : Nat) : Int) := by rw [IntKind.wrap_u64]; omega
end Words

set_option maxHeartbeats 1000000 in
theorem mul64_nat (x y : Nat) (hx : x < 18446744073709551616) (hy : y < 18446744073709551616) (w : World) :
    Calls Try.prog 55 #[.int .u64 x, .int .u64 y] w fun e w' => e = .returned (.tuple #[.int .u64 ((x * y / 18446744073709551616 : Nat) : Int), .int .u64 ((x * y % 18446744073709551616 : Nat) : Int)]) ∧ w = w' := by
  obtain ⟨bd, bt, bw, hhi⟩ := Lib.mul64_hi x y hx hy
  have ba := Lib.half_mul_le (a := x / 4294967296) (b := y / 4294967296) (by omega) (by omega)
  have bb := Lib.half_mul_le (a := x / 4294967296) (b := y % 4294967296) (by omega) (by omega)
  have bc := Lib.half_mul_le (a := x % 4294967296) (b := y / 4294967296) (by omega) (by omega)
  have ba' : x / 4294967296 * (y / 4294967296) < 18446744073709551616 := by omega
  have bb' : x / 4294967296 * (y % 4294967296) < 18446744073709551616 := by omega
  have bc' : x % 4294967296 * (y / 4294967296) < 18446744073709551616 := by omega
  have bh1 : x / 4294967296 * (y / 4294967296) + (x / 4294967296 * (y % 4294967296) + x % 4294967296 * (y % 4294967296) / 4294967296) / 4294967296 < 18446744073709551616 := by omega
  have bh : x / 4294967296 * (y / 4294967296) + (x / 4294967296 * (y % 4294967296) + x % 4294967296 * (y % 4294967296) / 4294967296) / 4294967296 + ((x / 4294967296 * (y % 4294967296) + x % 4294967296 * (y % 4294967296) / 4294967296) % 4294967296 + x % 4294967296 * (y / 4294967296)) / 4294967296 < 18446744073709551616 := by omega
  go_enter Try.func55, Try.ntmps55
  go_wp2
  simp only [Words.maskN x hx, Words.maskN y hy, Words.divN, Words.mulN, Words.addN, Words.wrapN _ bd, Words.wrapN _ bb', Words.wrapN _ bt, Words.maskN _ bt, Words.wrapN _ bc', Words.wrapN _ bw, Words.wrapN _ ba', Words.wrapN _ bh1, Words.wrapN _ bh, Words.wrapM (x * y)]
  rw [hhi]
  go_ret2
  exact ⟨rfl, rfl⟩

/-- The two halves of a product. -/
def hi64 (a b : Int) : Int := a * b / 18446744073709551616
def lo64 (a b : Int) : Int := a * b % 18446744073709551616

theorem mul64_any (a b : Int) (ha0 : 0 ≤ a) (ha : a ≤ 18446744073709551615) (hb0 : 0 ≤ b) (hb : b ≤ 18446744073709551615) (w : World) :
    Calls Try.prog 55 #[.int .u64 a, .int .u64 b] w fun e w' => e = .returned (.tuple #[.int .u64 (hi64 a b), .int .u64 (lo64 a b)]) ∧ w = w' := by
  obtain ⟨x, rfl⟩ := Int.eq_ofNat_of_zero_le ha0
  obtain ⟨y, rfl⟩ := Int.eq_ofNat_of_zero_le hb0
  refine (mul64_nat x y (by omega) (by omega) w).mono fun e w' ⟨he, hw⟩ => ⟨?_, hw⟩
  rw [he]
  unfold hi64 lo64
  rw [Words.mulN, Int.natCast_ediv, Int.natCast_emod]
  rfl

/-- The exponent of a supported prime. -/
def qOf (p : Int) : Int := if p = 31 then 5 else if p = 127 then 7 else if p = 8191 then 13 else if p = 131071 then 17 else if p = 524287 then 19 else if p = 2147483647 then 31 else if p = 2305843009213693951 then 61 else 0

set_option maxRecDepth 100000 in
set_option maxHeartbeats 4000000 in
theorem len64_any (p : Int) (hp : OkP p) (w : World) : Calls Try.prog 56 #[.int .u64 p] w fun e w' => e = .returned (.int .i64 (qOf p)) ∧ w = w' := by
  rcases hp with rfl | rfl | rfl | rfl | rfl | rfl | rfl
  all_goals
    go_enter Try.func56, Try.ntmps56
    go_wp2
    go_ret
    exact ⟨by kernel_rfl, rfl⟩

theorem subOnce_any (p n : Int) (hn0 : 0 ≤ n) (hp0 : 0 < p) (hn : n < 2 * p) (hp : p ≤ 2305843009213693951) (w : World) :
    Calls Try.prog 54 #[.int .u64 p, .int .u64 n] w fun e w' => e = .returned (.int .u64 (n % p)) ∧ w = w' := by
  by_cases h : p ≤ n
  · have e : n % p = n - p := by
      rw [show n = (n - p) + p * 1 from by omega, Int.add_mul_emod_self_left, Int.emod_eq_of_lt (by omega) (by omega)]; omega
    rw [e]; clear e
    go_enter Try.func54, Try.ntmps54
    go_wp2
    go_ret
    exact ⟨rfl, rfl⟩
  · have e : n % p = n := Int.emod_eq_of_lt (by omega) (by omega)
    rw [e]; clear e
    go_enter Try.func54, Try.ntmps54
    go_wp2
    go_ret
    exact ⟨rfl, rfl⟩

theorem add_any (p a b : Int) (hp : OkP p) (ha0 : 0 ≤ a) (ha : a < p) (hb0 : 0 ≤ b) (hb : b < p) (w : World) :
    Calls Try.prog 43 #[.int .u64 p, .int .u64 a, .int .u64 b] w fun e w' => e = .returned (.int .u64 (fadd p a b)) ∧ w = w' := by
  have hbd := hp.bd
  unfold fadd
  go_enter Try.func43, Try.ntmps43
  go_wp2_with (go_at_call 54; refine (subOnce_any _ _ (by omega) (by omega) (by omega) (by omega) _).mono ?_; rintro e w' ⟨rfl, rfl⟩)
  go_ret
  exact ⟨rfl, rfl⟩

theorem reduce_any (p n : Int) (hp : OkP p) (hn0 : 0 ≤ n) (hn : n ≤ 18446744073709551615) (w : World) :
    Calls Try.prog 42 #[.int .u64 p, .int .u64 n] w fun e w' => e = .returned (.int .u64 (n % p)) ∧ w = w' := by
  have hbd := hp.bd
  go_enter Try.func42, Try.ntmps42
  go_wp2
  go_ret
  exact ⟨rfl, rfl⟩

/-- The folded product: the lowest q bits plus the bits above them. -/
def mid (p a b : Int) : Int := a * b % (p + 1) + a * b / (p + 1)

theorem fold_nat (q k P x : Nat) (hk : k + q = 64) (hP : P + 1 = 2 ^ q) (hq : q ≤ 61) (hx : x < P * P) :
    IntKind.u64.wrap (bits .and .u64 ((x % 18446744073709551616 : Nat) : Int) (P : Int) + bits .or .u64 (IntKind.u64.wrap (((x / 18446744073709551616 : Nat) : Int) * 2 ^ k)) (((x % 18446744073709551616 : Nat) : Int) / 2 ^ q)) = ((x % 2 ^ q + x / 2 ^ q : Nat) : Int) ∧ x % 2 ^ q + x / 2 ^ q < 2 * P := by
  have h64 : (18446744073709551616 : Nat) = 2 ^ k * 2 ^ q := by rw [← Nat.pow_add, hk]
  have hq61 : (2 : Nat) ^ q ≤ 2 ^ 61 := Nat.pow_le_pow_right (by omega) hq
  have hq0 : 0 < (2 : Nat) ^ q := Nat.pow_pos (by omega)
  have hk0 : 0 < (2 : Nat) ^ k := Nat.pow_pos (by omega)
  have hPP : P * P < 2 ^ q * P := Nat.mul_lt_mul_of_pos_right (by omega) (by rcases Nat.eq_zero_or_pos P with h | h; (subst h; omega); exact h)
  have hlo : x % 18446744073709551616 < 18446744073709551616 := Nat.mod_lt _ (by omega)
  -- the mask
  have e1 : bits .and .u64 ((x % 18446744073709551616 : Nat) : Int) (P : Int) = ((x % 2 ^ q : Nat) : Int) := by
    rw [bits_and_u64_nat _ P hlo (by omega), show P = 2 ^ q - 1 from by omega, Nat.and_two_pow_sub_one_eq_mod, h64, Nat.mod_mul_left_mod]
  -- the upper part
  have hdiv : x / 2 ^ q < P := Nat.div_lt_of_lt_mul (by omega)
  have e0 : x / 18446744073709551616 * 2 ^ k + x % 18446744073709551616 / 2 ^ q = x / 2 ^ q := by
    have hxe : x = x % 18446744073709551616 + 2 ^ q * (x / 18446744073709551616 * 2 ^ k) := by
      have := Nat.mod_add_div x 18446744073709551616
      rw [show 2 ^ q * (x / 18446744073709551616 * 2 ^ k) = 2 ^ k * 2 ^ q * (x / 18446744073709551616) from by rw [Nat.mul_comm (x / 18446744073709551616), ← Nat.mul_assoc, Nat.mul_comm (2 ^ q)], ← h64]
      exact this.symm
    conv => rhs; rw [hxe]
    rw [Nat.add_mul_div_left _ _ hq0, Nat.add_comm]
  have hhi : x / 18446744073709551616 * 2 ^ k < 18446744073709551616 := by
    have h1 : x / 18446744073709551616 * 2 ^ k ≤ x / 2 ^ q := by rw [← e0]; exact Nat.le_add_right _ _
    omega
  have e2 : IntKind.u64.wrap (((x / 18446744073709551616 : Nat) : Int) * 2 ^ k) = ((x / 18446744073709551616 * 2 ^ k : Nat) : Int) := by
    rw [show ((x / 18446744073709551616 : Nat) : Int) * 2 ^ k = ((x / 18446744073709551616 * 2 ^ k : Nat) : Int) from by rw [Int.natCast_mul, Int.natCast_pow]; rfl]
    exact Words.wrapN _ hhi
  have hl : x % 18446744073709551616 / 2 ^ q < 2 ^ k := Nat.div_lt_of_lt_mul (by rw [Nat.mul_comm, ← h64]; exact hlo)
  have e3 : bits .or .u64 (IntKind.u64.wrap (((x / 18446744073709551616 : Nat) : Int) * 2 ^ k)) (((x % 18446744073709551616 : Nat) : Int) / 2 ^ q) = ((x / 2 ^ q : Nat) : Int) := by
    rw [e2, show ((x % 18446744073709551616 : Nat) : Int) / 2 ^ q = ((x % 18446744073709551616 / 2 ^ q : Nat) : Int) from by rw [Int.natCast_ediv, Int.natCast_pow]; rfl]
    rw [bits_or_u64_nat _ _ hhi (Nat.lt_of_le_of_lt (Nat.div_le_self _ _) hlo), ← Nat.shiftLeft_eq, ← Nat.shiftLeft_add_eq_or_of_lt hl, Nat.shiftLeft_eq, e0]
  have hm : x % 2 ^ q < 2 ^ q := Nat.mod_lt _ hq0
  refine ⟨?_, by omega⟩
  rw [e1, e3, ← Int.natCast_add]
  exact Words.wrapN _ (by omega)

theorem mid_mod (p a b : Int) : mid p a b % p = fmul p a b := by
  unfold mid fmul
  have e := Int.emod_add_mul_ediv (a * b) (p + 1)
  conv => rhs; rw [← e]
  rw [Int.add_mul, Int.one_mul, show a * b % (p + 1) + (p * (a * b / (p + 1)) + a * b / (p + 1)) = a * b % (p + 1) + a * b / (p + 1) + p * (a * b / (p + 1)) from by omega, Int.add_mul_emod_self_left]

theorem fold_int (p a b : Int) (hp : OkP p) (ha0 : 0 ≤ a) (ha : a < p) (hb0 : 0 ≤ b) (hb : b < p) :
    IntKind.u64.wrap (bits .and .u64 (lo64 a b) p + bits .or .u64 (IntKind.u64.wrap (hi64 a b * 2 ^ min (IntKind.u64.wrap (64 - IntKind.u64.wrap (qOf p))).toNat 64)) (lo64 a b / 2 ^ min (IntKind.u64.wrap (qOf p)).toNat 64)) = mid p a b ∧ 0 ≤ mid p a b ∧ mid p a b < 2 * p := by
  obtain ⟨A, rfl⟩ := Int.eq_ofNat_of_zero_le ha0
  obtain ⟨B, rfl⟩ := Int.eq_ofNat_of_zero_le hb0
  have key : ∀ (q k P : Nat), k + q = 64 → P + 1 = 2 ^ q → q ≤ 61 → A < P → B < P →
      IntKind.u64.wrap (bits .and .u64 (lo64 A B) P + bits .or .u64 (IntKind.u64.wrap (hi64 A B * 2 ^ k)) (lo64 A B / 2 ^ q)) = mid P A B ∧ 0 ≤ mid P A B ∧ mid P A B < 2 * P := by
    intro q k P hk hP hq hA hB
    have h := fold_nat q k P (A * B) hk hP hq (by
      have h1 : A * B ≤ A * P := Nat.mul_le_mul_left _ (by omega)
      have h2 : A * P < P * P := Nat.mul_lt_mul_of_pos_right hA (by omega)
      omega)
    have em : mid P A B = ((A * B % 2 ^ q + A * B / 2 ^ q : Nat) : Int) := by
      unfold mid
      rw [← hP, Int.natCast_add, Int.natCast_emod, Int.natCast_ediv, Int.natCast_mul, Int.natCast_add]; rfl
    have el : lo64 A B = ((A * B % 18446744073709551616 : Nat) : Int) := by unfold lo64; rw [Int.natCast_emod, Int.natCast_mul]; rfl
    have eh : hi64 A B = ((A * B / 18446744073709551616 : Nat) : Int) := by unfold hi64; rw [Int.natCast_ediv, Int.natCast_mul]; rfl
    rw [em, el, eh]
    have h2 := h.2
    refine ⟨h.1, Int.natCast_nonneg _, ?_⟩
    generalize A * B % 2 ^ q + A * B / 2 ^ q = m at h2 ⊢
    omega
  rcases hp with rfl | rfl | rfl | rfl | rfl | rfl | rfl
  · exact key 5 59 31 rfl rfl (by omega) (by omega) (by omega)
  · exact key 7 57 127 rfl rfl (by omega) (by omega) (by omega)
  · exact key 13 51 8191 rfl rfl (by omega) (by omega) (by omega)
  · exact key 17 47 131071 rfl rfl (by omega) (by omega) (by omega)
  · exact key 19 45 524287 rfl rfl (by omega) (by omega) (by omega)
  · exact key 31 33 2147483647 rfl rfl (by omega) (by omega) (by omega)
  · exact key 61 3 2305843009213693951 rfl rfl (by omega) (by omega) (by omega)

theorem mul_any (p a b : Int) (hp : OkP p) (ha0 : 0 ≤ a) (ha : a < p) (hb0 : 0 ≤ b) (hb : b < p) (w : World) :
    Calls Try.prog 44 #[.int .u64 p, .int .u64 a, .int .u64 b] w fun e w' => e = .returned (.int .u64 (fmul p a b)) ∧ w = w' := by
  have hbd := hp.bd
  obtain ⟨hf, hm0, hm⟩ := fold_int p a b hp ha0 ha hb0 hb
  have HF := Lib.hid hf; clear hf
  have HM := Lib.hid (mid_mod p a b)
  go_enter Try.func44, Try.ntmps44
  go_wp2_with fail
  refine (mul64_any _ _ (by omega) (by omega) (by omega) (by omega) _).mono ?_
  rintro e w' ⟨rfl, rfl⟩
  go_wp2_with fail
  refine (len64_any _ hp _).mono ?_
  rintro e w' ⟨rfl, rfl⟩
  go_wp2_with fail
  rw [HF.out]
  refine (subOnce_any _ _ (by omega) (by omega) (by omega) (by omega) _).mono ?_
  rintro e w' ⟨rfl, rfl⟩
  rw [HM.out]
  go_wp2_with fail
  go_ret
  exact ⟨rfl, rfl⟩

theorem pow_odd (p a n : Int) (hn : 0 < n) (ho : n % 2 = 1) (c : Int) : fmul p (fmul p c a) (fpow p (fmul p a a) (n / 2)) = fmul p c (fpow p a n) := by
  have e : fpow p a n = fmul p a (fpow p (fmul p a a) (n / 2)) := by
    rw [fpow_fmul]
    conv => lhs; rw [show n = 1 + (n / 2 + n / 2) from by omega, fpow_add p a 1 _ (by omega) (by omega), fpow_add p a _ _ (by omega) (by omega)]
    unfold fmul fpow
    rw [show (1 : Int).toNat = 1 from rfl, Int.pow_succ, Int.pow_zero, Int.one_mul, Int.mul_emod, Int.emod_emod, ← Int.mul_emod]
  rw [fmul_assoc, e]
theorem pow_even (p a n : Int) (hn : 0 < n) (ho : n % 2 = 0) : fpow p (fmul p a a) (n / 2) = fpow p a n := by
  rw [fpow_fmul]
  conv => rhs; rw [show n = n / 2 + n / 2 from by omega, fpow_add p a _ _ (by omega) (by omega)]

/-- What Sqrt hands back. -/
def fsqVal (p a : Int) : Int := if fsqOk p a = true then fsqrt p a else 0
def fsqErr (p a : Int) : Int := if fsqOk p a = true then 0 else 8

theorem qOf_other (p : Int) (h : ¬ OkP p) : qOf p = 0 := by
  unfold OkP at h; unfold qOf
  rw [if_neg (fun e => h (.inl e)), if_neg (fun e => h (.inr (.inl e))), if_neg (fun e => h (.inr (.inr (.inl e)))), if_neg (fun e => h (.inr (.inr (.inr (.inl e))))), if_neg (fun e => h (.inr (.inr (.inr (.inr (.inl e)))))), if_neg (fun e => h (.inr (.inr (.inr (.inr (.inr (.inl e))))))), if_neg (fun e => h (.inr (.inr (.inr (.inr (.inr (.inr e)))))))]
theorem qOf_bd (p : Int) : 0 ≤ qOf p ∧ qOf p ≤ 61 := by
  by_cases h : OkP p
  · rcases h with rfl | rfl | rfl | rfl | rfl | rfl | rfl <;> decide
  · rw [qOf_other p h]; decide

theorem exponent_any (p : Int) (w : World) :
    Calls Try.prog 72 #[.int .u64 p] w fun e w' => e = .returned (.int .i64 (qOf p)) ∧ w = w' := by
  by_cases h : OkP p
  · have hp := h
    rcases h with rfl | rfl | rfl | rfl | rfl | rfl | rfl
    all_goals
      go_enter Try.func72, Try.ntmps72
      go_wp2_with fail
      refine (len64_any _ hp _).mono ?_
      rintro e w' ⟨rfl, rfl⟩
      go_wp2_with fail
      go_ret
      exact ⟨rfl, rfl⟩
  · rw [qOf_other p h]
    have h1 : (p == 31) = false := beq_eq_false_iff_ne.2 fun e => h (.inl e)
    have h2 : (p == 127) = false := beq_eq_false_iff_ne.2 fun e => h (.inr (.inl e))
    have h3 : (p == 8191) = false := beq_eq_false_iff_ne.2 fun e => h (.inr (.inr (.inl e)))
    have h4 : (p == 131071) = false := beq_eq_false_iff_ne.2 fun e => h (.inr (.inr (.inr (.inl e))))
    have h5 : (p == 524287) = false := beq_eq_false_iff_ne.2 fun e => h (.inr (.inr (.inr (.inr (.inl e)))))
    have h6 : (p == 2147483647) = false := beq_eq_false_iff_ne.2 fun e => h (.inr (.inr (.inr (.inr (.inr (.inl e))))))
    have h7 : (p == 2305843009213693951) = false := beq_eq_false_iff_ne.2 fun e => h (.inr (.inr (.inr (.inr (.inr (.inr e))))))
    clear h
    go_enter Try.func72, Try.ntmps72
    go_wp2_with fail
    go_ret
    exact ⟨rfl, rfl⟩

theorem supported_any (p : Int) (w : World) :
    Calls Try.prog 68 #[.int .u64 p] w fun e w' => e = .returned (.bool (qOf p != 0)) ∧ w = w' := by
  go_enter Try.func68, Try.ntmps68
  go_wp2_with fail
  refine (exponent_any _ _).mono ?_
  rintro e w' ⟨rfl, rfl⟩
  go_wp2_with fail
  go_ret
  exact ⟨rfl, rfl⟩

end Go.Proofs.Ytbhphamfkhccpaa
