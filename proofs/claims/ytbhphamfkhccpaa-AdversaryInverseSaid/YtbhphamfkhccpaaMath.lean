/- Plain facts about the fields of the seven Mersenne primes, with no Go in sight: each is prime (by a certificate that the kernel checks), Fermat, inverses, squares and square roots. No conditions. -/
namespace FieldMath

/-- An injective map of the numbers below n into themselves meets each of them. -/
theorem pigeon (n : Nat) : ∀ f : Nat → Nat, (∀ i, i < n → f i < n) → (∀ i j, i < n → j < n → f i = f j → i = j) →
    ∀ y, y < n → ∃ i, i < n ∧ f i = y := by
  induction n with
  | zero => intro f _ _ y hy; omega
  | succ n ih =>
    intro f hlt hinj y hy
    by_cases hfn : f n = n
    · have hlt' : ∀ i, i < n → f i < n := by
        intro i hi
        have h1 := hlt i (by omega)
        have h2 : f i ≠ n := by
          intro h
          have := hinj i n (by omega) (by omega) (by rw [h, hfn])
          omega
        omega
      by_cases hyn : y = n
      · exact ⟨n, by omega, by rw [hfn, hyn]⟩
      · obtain ⟨i, hi, he⟩ := ih f hlt' (fun i j hi hj h => hinj i j (by omega) (by omega) h) y (by omega)
        exact ⟨i, by omega, he⟩
    · have hfn' : f n < n := by have := hlt n (by omega); omega
      have key := ih (fun i => if f i = n then f n else f i)
        (by
          intro i hi
          show (if f i = n then f n else f i) < n
          by_cases h : f i = n
          · rw [if_pos h]; exact hfn'
          · rw [if_neg h]; have := hlt i (by omega); omega)
        (by
          intro i j hi hj h
          change (if f i = n then f n else f i) = (if f j = n then f n else f j) at h
          by_cases h1 : f i = n
          · by_cases h2 : f j = n
            · exact hinj i j (by omega) (by omega) (by rw [h1, h2])
            · rw [if_pos h1, if_neg h2] at h
              have := hinj n j (by omega) (by omega) h
              omega
          · by_cases h2 : f j = n
            · rw [if_neg h1, if_pos h2] at h
              have := hinj i n (by omega) (by omega) h
              omega
            · rw [if_neg h1, if_neg h2] at h
              exact hinj i j (by omega) (by omega) h)
      by_cases hy1 : y = f n
      · exact ⟨n, by omega, hy1.symm⟩
      · by_cases hyn : y = n
        · obtain ⟨i, hi, he⟩ := key (f n) hfn'
          change (if f i = n then f n else f i) = f n at he
          by_cases h : f i = n
          · exact ⟨i, by omega, by rw [h, hyn]⟩
          · rw [if_neg h] at he
            have := hinj i n (by omega) (by omega) he
            omega
        · obtain ⟨i, hi, he⟩ := key y (by omega)
          change (if f i = n then f n else f i) = y at he
          by_cases h : f i = n
          · rw [if_pos h] at he; exact absurd he.symm hy1
          · rw [if_neg h] at he; exact ⟨i, by omega, he⟩

/-- Fast modular exponentiation, for the kernel. -/
def powm (p : Nat) : Nat → Nat → Nat → Nat → Nat
  | 0, _, _, acc => acc
  | f + 1, a, n, acc => if n = 0 then acc else powm p f (a * a % p) (n / 2) (if n % 2 = 1 then acc * a % p else acc)

theorem powm_eq (p : Nat) : ∀ (f a n acc : Nat), n < 2 ^ f → acc < p → powm p f a n acc = acc * a ^ n % p := by
  intro f
  induction f with
  | zero => intro a n acc hn ha; have : n = 0 := by simp at hn; exact hn
            subst this; simp [powm, Nat.mod_eq_of_lt ha]
  | succ f ih =>
    intro a n acc hn ha
    unfold powm
    by_cases h0 : n = 0
    · subst h0; simp [Nat.mod_eq_of_lt ha]
    · rw [if_neg h0]
      have hp : 0 < p := by omega
      rw [ih _ _ _ (by rw [Nat.pow_succ] at hn; omega) (by split; exact Nat.mod_lt _ hp; exact ha)]
      have e : a ^ n = (a * a) ^ (n / 2) * (if n % 2 = 1 then a else 1) := by
        have h2 : n = 2 * (n / 2) + n % 2 := by omega
        conv => lhs; rw [h2]
        rw [Nat.pow_add, Nat.pow_mul, show a ^ 2 = a * a from Nat.pow_two a]
        rcases Nat.mod_two_eq_zero_or_one n with h | h <;> rw [h] <;> simp
      rw [e]
      split
      · rw [Nat.mul_mod, Nat.mod_mod, ← Nat.pow_mod (a * a), ← Nat.mul_mod, Nat.mul_assoc, Nat.mul_comm a]
      · rw [Nat.mul_mod, ← Nat.pow_mod, ← Nat.mul_mod, Nat.mul_one]

/-- Every divisor of r is 1 or r. -/
def primeB (r : Nat) : Bool := decide (2 ≤ r) && (List.range r).all fun d => decide (d ≤ 1) || !decide (r % d = 0)

theorem primeB_spec {r d : Nat} (h : primeB r = true) (hd : d ∣ r) : d = 1 ∨ d = r := by
  unfold primeB at h
  simp only [Bool.and_eq_true, decide_eq_true_eq, List.all_eq_true, List.mem_range, Bool.or_eq_true, Bool.not_eq_true', decide_eq_false_iff_not] at h
  have hle := Nat.le_of_dvd (by omega) hd
  by_cases hr : d = r
  · exact .inr hr
  · rcases h.2 d (by omega) with h1 | h1
    · have : d ≠ 0 := by rintro rfl; have := Nat.eq_zero_of_zero_dvd hd; omega
      left; omega
    · exact absurd (Nat.mod_eq_zero_of_dvd hd) h1

theorem coprime_prod (c : Nat) (l : List Nat) (h : ∀ r, r ∈ l → Nat.Coprime c r) : Nat.Coprime c l.prod := by
  induction l with
  | nil => simp
  | cons r l ih =>
    rw [List.prod_cons]
    exact Nat.Coprime.mul_right (h r (by simp)) (ih fun s hs => h s (by simp [hs]))

/-- A proper divisor e of m = the product of primes divides m / r for one of these primes r. -/
theorem proper_divisor (l : List Nat) (hl : ∀ r, r ∈ l → primeB r = true) (e : Nat) (hd : e ∣ l.prod) (hne : e ≠ l.prod) :
    ∃ r, r ∈ l ∧ e ∣ l.prod / r := by
  obtain ⟨c, hc⟩ := hd
  have hcop : ¬ Nat.Coprime c l.prod := by
    intro h
    have h1 : c ∣ l.prod := ⟨e, by rw [hc, Nat.mul_comm]⟩
    have h2 : Nat.gcd c l.prod = c := Nat.gcd_eq_left h1
    rw [Nat.Coprime, h2] at h
    rw [h, Nat.mul_one] at hc
    exact hne hc.symm
  have hex : ∃ r, r ∈ l ∧ ¬ Nat.Coprime c r := by
    apply Classical.byContradiction
    intro hno
    apply hcop
    apply coprime_prod
    intro r hr
    apply Classical.byContradiction
    intro h
    exact hno ⟨r, hr, h⟩
  obtain ⟨r, hr, hn⟩ := hex
  refine ⟨r, hr, ?_⟩
  have hpr := hl r hr
  have hg : Nat.gcd c r = r := by
    rcases primeB_spec hpr (Nat.gcd_dvd_right c r) with h | h
    · exact absurd h hn
    · exact h
  obtain ⟨c', hc'⟩ : r ∣ c := by rw [← hg]; exact Nat.gcd_dvd_left c r
  have hr0 : 0 < r := by
    rcases Nat.eq_zero_or_pos r with h | h
    · subst h; simp [primeB] at hpr
    · exact h
  refine ⟨c', ?_⟩
  rw [hc, hc', show e * (r * c') = r * (e * c') from by rw [Nat.mul_left_comm], Nat.mul_div_cancel_left _ hr0]

theorem pow_gcd (p g : Nat) (hp : 1 < p) : ∀ (m n : Nat), g ^ m % p = 1 → g ^ n % p = 1 → g ^ (Nat.gcd m n) % p = 1 := by
  intro m n
  induction m, n using Nat.gcd.induction with
  | H0 n => intro _ h; simpa using h
  | H1 m n hm ih =>
    intro h1 h2
    rw [Nat.gcd_rec]
    apply ih _ h1
    have e : g ^ n = (g ^ m) ^ (n / m) * g ^ (n % m) := by
      rw [← Nat.pow_mul, ← Nat.pow_add, Nat.div_add_mod]
    rw [e, Nat.mul_mod, Nat.pow_mod, h1, Nat.one_pow, Nat.mod_eq_of_lt hp, Nat.one_mul, Nat.mod_mod] at h2
    exact h2

/-- What a certificate says: g generates the nonzero residues of p. -/
structure Cert (p g : Nat) (l : List Nat) : Prop where
  two : 2 < p
  prod : l.prod = p - 1
  primes : ∀ r, r ∈ l → primeB r = true
  one : g ^ (p - 1) % p = 1
  others : ∀ r, r ∈ l → g ^ ((p - 1) / r) % p ≠ 1

theorem Cert.order {p g : Nat} {l : List Nat} (h : Cert p g l) (d : Nat) (h0 : 0 < d) (hd : d < p - 1) : g ^ d % p ≠ 1 := by
  intro h1
  have hp := h.two
  have hg := pow_gcd p g (by omega) d (p - 1) h1 h.one
  have hle : Nat.gcd d (p - 1) ≤ d := Nat.le_of_dvd h0 (Nat.gcd_dvd_left _ _)
  obtain ⟨r, hr, c, hc⟩ := proper_divisor l h.primes (Nat.gcd d (p - 1)) (by rw [h.prod]; exact Nat.gcd_dvd_right _ _) (by rw [h.prod]; omega)
  apply h.others r hr
  rw [← h.prod, hc, Nat.pow_mul, Nat.pow_mod, hg, Nat.one_pow, Nat.mod_eq_of_lt (by omega)]

theorem Cert.gen {p g : Nat} {l : List Nat} (h : Cert p g l) (a : Nat) (h0 : 0 < a) (ha : a < p) : ∃ k, g ^ k % p = a := by
  have hp := h.two
  have hnz : ∀ k, k < p - 1 → 0 < g ^ k % p := by
    intro k hk
    rcases Nat.eq_zero_or_pos (g ^ k % p) with hz | hz
    · exfalso
      have := h.one
      rw [show p - 1 = k + (p - 1 - k) from by omega, Nat.pow_add, Nat.mul_mod, hz] at this
      simp at this
    · exact hz
  obtain ⟨k, hk, he⟩ := pigeon (p - 1) (fun k => g ^ k % p - 1)
    (by
      intro i hi
      show g ^ i % p - 1 < p - 1
      have := hnz i hi
      have := Nat.mod_lt (g ^ i) (show 0 < p by omega)
      omega)
    (by
      have key : ∀ i j, i < j → j < p - 1 → g ^ i % p ≠ g ^ j % p := by
        intro i j hij hj he
        apply h.order (j - i) (by omega) (by omega)
        have e1 : g ^ (p - 1 - i) * g ^ i % p = 1 := by rw [← Nat.pow_add, show p - 1 - i + i = p - 1 from by omega]; exact h.one
        have e2 : g ^ (p - 1 - i) * g ^ j % p = 1 := by rw [Nat.mul_mod, ← he, ← Nat.mul_mod]; exact e1
        rw [show j = i + (j - i) from by omega, Nat.pow_add, ← Nat.mul_assoc, Nat.mul_mod, e1, Nat.one_mul, Nat.mod_mod] at e2
        exact e2
      intro i j hi hj hij
      change g ^ i % p - 1 = g ^ j % p - 1 at hij
      have h1 := hnz i hi
      have h2 := hnz j hj
      have he : g ^ i % p = g ^ j % p := by omega
      rcases Nat.lt_trichotomy i j with hlt | heq | hlt
      · exact absurd he (key i j hlt hj)
      · exact heq
      · exact absurd he.symm (key j i hlt hi))
    (a - 1) (by omega)
  refine ⟨k, ?_⟩
  change g ^ k % p - 1 = a - 1 at he
  have := hnz k hk
  omega

theorem Cert.fermat {p g : Nat} {l : List Nat} (h : Cert p g l) (a : Nat) (h0 : 0 < a) (ha : a < p) : a ^ (p - 1) % p = 1 := by
  obtain ⟨k, hk⟩ := h.gen a h0 ha
  rw [← hk, ← Nat.pow_mod, ← Nat.pow_mul, Nat.mul_comm, Nat.pow_mul, Nat.pow_mod, h.one, Nat.one_pow, Nat.mod_eq_of_lt (by have := h.two; omega)]

/-- What a certificate comes to for the kernel. -/
def certB (p g : Nat) (l : List Nat) : Bool :=
  decide (2 < p) && decide (p < 2 ^ 64) && (l.prod == p - 1) && l.all primeB && (powm p 64 g (p - 1) 1 == 1) && l.all fun r => powm p 64 g ((p - 1) / r) 1 != 1

theorem cert_of {p g : Nat} {l : List Nat} (h : certB p g l = true) : Cert p g l := by
  unfold certB at h
  simp only [Bool.and_eq_true, decide_eq_true_eq, List.all_eq_true, beq_iff_eq, bne_iff_ne] at h
  obtain ⟨⟨⟨⟨⟨h1, h2⟩, h3⟩, h4⟩, h5⟩, h6⟩ := h
  refine ⟨h1, h3, h4, ?_, ?_⟩
  · rw [powm_eq p 64 _ _ _ (by omega) (by omega), Nat.one_mul] at h5; exact h5
  · intro r hr
    have h7 := h6 r hr
    rw [powm_eq p 64 _ _ _ (Nat.lt_of_le_of_lt (Nat.div_le_self _ _) (by omega)) (by omega), Nat.one_mul] at h7
    exact h7

/-- What the laws need of p. -/
structure Good (p : Nat) : Prop where
  two : 2 < p
  four : p % 4 = 3
  fermat : ∀ a, 0 < a → a < p → a ^ (p - 1) % p = 1

theorem good_of {p g : Nat} {l : List Nat} (h : certB p g l = true) (h4 : p % 4 = 3) : Good p :=
  ⟨(cert_of h).two, h4, (cert_of h).fermat⟩

theorem good5 : Good 31 := good_of (g := 3) (l := [2, 3, 5]) (by decide +kernel) rfl
theorem good7 : Good 127 := good_of (g := 3) (l := [2, 3, 3, 7]) (by decide +kernel) rfl
theorem good13 : Good 8191 := good_of (g := 17) (l := [2, 3, 3, 5, 7, 13]) (by decide +kernel) rfl
theorem good17 : Good 131071 := good_of (g := 3) (l := [2, 3, 5, 17, 257]) (by decide +kernel) rfl
theorem good19 : Good 524287 := good_of (g := 3) (l := [2, 3, 3, 3, 7, 19, 73]) (by decide +kernel) rfl
theorem good31 : Good 2147483647 := good_of (g := 7) (l := [2, 3, 3, 7, 11, 31, 151, 331]) (by decide +kernel) rfl
theorem good61 : Good 2305843009213693951 := good_of (g := 37) (l := [2, 3, 3, 5, 5, 7, 11, 13, 31, 41, 61, 151, 331, 1321]) (by decide +kernel) rfl


/-! ### The field's operations on integers -/
def fadd (p a b : Int) : Int := (a + b) % p
def fsub (p a b : Int) : Int := (a - b) % p
def fneg (p a : Int) : Int := (-a) % p
def fmul (p a b : Int) : Int := a * b % p
def fpow (p a n : Int) : Int := a ^ n.toNat % p

theorem md (a p : Int) (hp : 0 < p) : 0 ≤ a % p ∧ a % p < p := ⟨Int.emod_nonneg _ (by omega), Int.emod_lt_of_pos _ hp⟩
theorem fadd_bd (p a b : Int) (hp : 0 < p) : 0 ≤ fadd p a b ∧ fadd p a b < p := md _ _ hp
theorem fsub_bd (p a b : Int) (hp : 0 < p) : 0 ≤ fsub p a b ∧ fsub p a b < p := md _ _ hp
theorem fneg_bd (p a : Int) (hp : 0 < p) : 0 ≤ fneg p a ∧ fneg p a < p := md _ _ hp
theorem fmul_bd (p a b : Int) (hp : 0 < p) : 0 ≤ fmul p a b ∧ fmul p a b < p := md _ _ hp
theorem fpow_bd (p a n : Int) (hp : 0 < p) : 0 ≤ fpow p a n ∧ fpow p a n < p := md _ _ hp

theorem fadd_assoc (p a b c : Int) : fadd p (fadd p a b) c = fadd p a (fadd p b c) := by
  unfold fadd; rw [Int.emod_add_emod, Int.add_emod_emod, Int.add_assoc]
theorem fadd_comm (p a b : Int) : fadd p a b = fadd p b a := by unfold fadd; rw [Int.add_comm]
theorem fadd_zero (p a : Int) (h0 : 0 ≤ a) (h : a < p) : fadd p a 0 = a := by unfold fadd; rw [Int.add_zero]; exact Int.emod_eq_of_lt h0 h
theorem fadd_neg (p a : Int) : fadd p a (fneg p a) = 0 := by
  unfold fadd fneg; rw [Int.add_emod_emod, Int.add_right_neg, Int.zero_emod]
theorem fsub_eq (p a b : Int) : fsub p a b = fadd p a (fneg p b) := by
  unfold fadd fneg fsub; rw [Int.add_emod_emod, Int.sub_eq_add_neg]
theorem fmul_assoc (p a b c : Int) : fmul p (fmul p a b) c = fmul p a (fmul p b c) := by
  unfold fmul; rw [Int.mul_emod, Int.emod_emod, ← Int.mul_emod, Int.mul_emod a, Int.emod_emod, ← Int.mul_emod, Int.mul_assoc]
theorem fmul_comm (p a b : Int) : fmul p a b = fmul p b a := by unfold fmul; rw [Int.mul_comm]
theorem fmul_one (p a : Int) (h0 : 0 ≤ a) (h : a < p) : fmul p a 1 = a := by unfold fmul; rw [Int.mul_one]; exact Int.emod_eq_of_lt h0 h
theorem fmul_add (p a b c : Int) : fmul p a (fadd p b c) = fadd p (fmul p a b) (fmul p a c) := by
  unfold fmul fadd; rw [Int.mul_emod, Int.emod_emod, ← Int.mul_emod, Int.mul_add, Int.add_emod]
theorem fmul_zero (p a : Int) : fmul p a 0 = 0 := by unfold fmul; rw [Int.mul_zero, Int.zero_emod]

theorem pow_emod (a p : Int) (n : Nat) : (a % p) ^ n % p = a ^ n % p := by
  induction n with
  | zero => rw [Int.pow_zero, Int.pow_zero]
  | succ n ih => rw [Int.pow_succ, Int.pow_succ, Int.mul_emod, ih, Int.emod_emod, ← Int.mul_emod]

theorem fpow_add (p a m n : Int) (hm : 0 ≤ m) (hn : 0 ≤ n) : fpow p a (m + n) = fmul p (fpow p a m) (fpow p a n) := by
  unfold fpow fmul; rw [Int.toNat_add hm hn, Int.pow_add, Int.mul_emod]
theorem fpow_mul (p a m n : Int) (hm : 0 ≤ m) (hn : 0 ≤ n) : fpow p (fpow p a m) n = fpow p a (m * n) := by
  unfold fpow; rw [Int.toNat_mul hm hn, Int.pow_mul, pow_emod]
theorem fpow_zero (p a : Int) (hp : 1 < p) : fpow p a 0 = 1 := by
  unfold fpow; rw [Int.toNat_zero, Int.pow_zero]; exact Int.emod_eq_of_lt (by omega) hp
theorem fpow_one (p a : Int) (h0 : 0 ≤ a) (h : a < p) : fpow p a 1 = a := by
  unfold fpow; rw [show (1 : Int).toNat = 1 from rfl, Int.pow_succ, Int.pow_zero, Int.one_mul]; exact Int.emod_eq_of_lt h0 h
theorem fpow_fmul (p a b n : Int) : fpow p (fmul p a b) n = fmul p (fpow p a n) (fpow p b n) := by
  unfold fpow fmul; rw [pow_emod, Int.mul_pow, Int.mul_emod]
theorem fpow_base0 (p n : Int) (hn : 0 < n) : fpow p 0 n = 0 := by
  unfold fpow
  obtain ⟨k, hk⟩ : ∃ k, n.toNat = k + 1 := ⟨n.toNat - 1, by omega⟩
  rw [hk, Int.pow_succ, Int.mul_zero, Int.zero_emod]

/-- What the laws need of p, on integers. -/
structure GoodI (p : Int) : Prop where
  two : 2 < p
  four : p % 4 = 3
  fermat : ∀ a, 0 < a → a < p → fpow p a (p - 1) = 1

theorem goodI_of {p : Nat} (h : Good p) : GoodI p := by
  refine ⟨by have := h.two; omega, by have := h.four; omega, ?_⟩
  intro a h0 ha
  obtain ⟨n, rfl⟩ := Int.eq_ofNat_of_zero_le (show 0 ≤ a by omega)
  have := h.fermat n (by omega) (by omega)
  have hp := h.two
  unfold fpow
  rw [show ((p : Int) - 1).toNat = p - 1 from by omega, ← Int.natCast_pow, ← Int.natCast_emod, this]
  rfl

/-- The supported primes. -/
def OkP (p : Int) : Prop := p = 31 ∨ p = 127 ∨ p = 8191 ∨ p = 131071 ∨ p = 524287 ∨ p = 2147483647 ∨ p = 2305843009213693951

theorem OkP.good {p : Int} (h : OkP p) : GoodI p := by
  rcases h with rfl | rfl | rfl | rfl | rfl | rfl | rfl
  · exact goodI_of good5
  · exact goodI_of good7
  · exact goodI_of good13
  · exact goodI_of good17
  · exact goodI_of good19
  · exact goodI_of good31
  · exact goodI_of good61
theorem OkP.bd {p : Int} (h : OkP p) : 31 ≤ p ∧ p ≤ 2305843009213693951 := by
  rcases h with rfl | rfl | rfl | rfl | rfl | rfl | rfl <;> decide

theorem GoodI.inv {p a : Int} (h : GoodI p) (h0 : 0 < a) (ha : a < p) : fmul p a (fpow p a (p - 2)) = 1 := by
  have e := fpow_add p a 1 (p - 2) (by omega) (by have := h.two; omega)
  rw [fpow_one p a (by omega) ha, show 1 + (p - 2) = p - 1 from by omega, h.fermat a h0 ha] at e
  exact e.symm

theorem GoodI.fermat_p {p a : Int} (h : GoodI p) (h0 : 0 ≤ a) (ha : a < p) : fpow p a p = a := by
  have hp := h.two
  by_cases hz : a = 0
  · subst hz; exact fpow_base0 p p (by omega)
  · have e := fpow_add p a (p - 1) 1 (by omega) (by omega)
    rw [fpow_one p a h0 ha, show p - 1 + 1 = p from by omega, h.fermat a (by omega) ha, fmul_comm, fmul_one p a h0 ha] at e
    exact e

/-- No zero divisors. -/
theorem GoodI.nozero {p a b : Int} (h : GoodI p) (h0 : 0 < a) (ha : a < p) (h1 : 0 ≤ b) (hb : b < p) (he : fmul p a b = 0) : b = 0 := by
  have hi := h.inv h0 ha
  have e : fmul p (fmul p (fpow p a (p - 2)) a) b = 0 := by rw [fmul_assoc, he, fmul_zero]
  rw [fmul_comm p (fpow p a (p - 2)), hi, fmul_comm, fmul_one p b h1 hb] at e
  exact e

theorem GoodI.fmul_ne {p a b : Int} (h : GoodI p) (h0 : 0 < a) (ha : a < p) (h1 : 0 < b) (hb : b < p) : 0 < fmul p a b := by
  have hp := h.two
  have hbd := fmul_bd p a b (by omega)
  by_cases he : fmul p a b = 0
  · have := h.nozero h0 ha (by omega) hb he; omega
  · omega

/-- Two elements with one square are equal up to sign. -/
theorem GoodI.square {p x y : Int} (h : GoodI p) (hx0 : 0 ≤ x) (hx : x < p) (hy0 : 0 ≤ y) (hy : y < p) (he : fmul p x x = fmul p y y) : x = y ∨ x = fneg p y := by
  have hp := h.two
  have key : fmul p (fsub p x y) (fadd p x y) = 0 := by
    have e1 : (x - y) * (x + y) = x * x - y * y := by rw [Int.sub_mul, Int.mul_add, Int.mul_add, Int.mul_comm y x]; omega
    unfold fmul fsub fadd
    rw [← Int.mul_emod, e1, Int.sub_emod]
    unfold fmul at he
    rw [he, Int.sub_self, Int.zero_emod]
  have hs := fsub_bd p x y (by omega)
  have ha := fadd_bd p x y (by omega)
  by_cases hz : fsub p x y = 0
  · left
    unfold fsub at hz
    have hd := Int.dvd_of_emod_eq_zero hz
    by_cases hxy : x = y
    · exact hxy
    · exfalso
      rcases Int.lt_or_gt_of_ne hxy with hlt | hgt
      · have := Int.le_of_dvd (show 0 < y - x by omega) ((Int.dvd_neg).1 (by rw [Int.neg_sub]; exact hd)); omega
      · have := Int.le_of_dvd (show 0 < x - y by omega) hd; omega
  · right
    have hq := h.nozero (by omega) hs.2 ha.1 ha.2 key
    unfold fadd at hq
    unfold fneg
    have : (-y) % p = x % p := by
      have e : (x + y - y) % p = (0 - y) % p := by rw [Int.sub_emod (x + y), hq, Int.sub_emod 0 y, Int.zero_emod]
      rw [show x + y - y = x from by omega, show 0 - y = -y from by omega] at e
      exact e.symm
    rw [this, Int.emod_eq_of_lt hx0 hx]

theorem fneg_of {p y : Int} (hy0 : 0 < y) (hy : y < p) : fneg p y = p - y := by
  unfold fneg
  have e : (-y) % p = (-y + p * 1) % p := by rw [Int.add_mul_emod_self_left]
  rw [e, Int.mul_one, show -y + p = p - y from by omega]; exact Int.emod_eq_of_lt (by omega) (by omega)
theorem fneg_zero (p : Int) : fneg p 0 = 0 := by unfold fneg; simp

/-! ### Roots -/
def froot (p a : Int) : Int := fpow p a (p / 4 + 1)
def fsqOk (p a : Int) : Bool := fmul p (froot p a) (froot p a) == a
def fsqrt (p a : Int) : Int := if (p - 1) / 2 < froot p a then fneg p (froot p a) else froot p a
def chi (p a : Int) : Int := fpow p a ((p - 1) / 2)

theorem froot_bd (p a : Int) (hp : 0 < p) : 0 ≤ froot p a ∧ froot p a < p := fpow_bd _ _ _ hp

theorem GoodI.chi_sq {p a : Int} (h : GoodI p) (h0 : 0 < a) (ha : a < p) : chi p a = 1 ∨ chi p a = p - 1 := by
  have hp := h.two
  have h4 := h.four
  have e := fpow_add p a ((p - 1) / 2) ((p - 1) / 2) (by omega) (by omega)
  rw [show (p - 1) / 2 + (p - 1) / 2 = p - 1 from by omega, h.fermat a h0 ha] at e
  have hb := fpow_bd p a ((p - 1) / 2) (by omega)
  have h1 : fmul p 1 1 = 1 := fmul_one p 1 (by omega) (by omega)
  rcases h.square hb.1 hb.2 (show (0:Int) ≤ 1 by omega) (by omega) (by rw [← e, h1]) with hq | hq
  · exact .inl hq
  · right; show fpow p a ((p - 1) / 2) = _; rw [hq, fneg_of (by omega) (by omega)]

theorem GoodI.root_sq {p a : Int} (h : GoodI p) (h0 : 0 ≤ a) (ha : a < p) : fmul p (froot p a) (froot p a) = fmul p a (chi p a) := by
  have hp := h.two
  have h4 := h.four
  unfold froot chi
  rw [← fpow_add p a _ _ (by omega) (by omega), show p / 4 + 1 + (p / 4 + 1) = 1 + (p - 1) / 2 from by omega, fpow_add p a _ _ (by omega) (by omega), fpow_one p a h0 ha]

theorem GoodI.ok_iff {p a : Int} (h : GoodI p) (h0 : 0 < a) (ha : a < p) : fsqOk p a = true ↔ chi p a = 1 := by
  have hp := h.two
  unfold fsqOk
  rw [beq_iff_eq, h.root_sq (by omega) ha]
  constructor
  · intro he
    rcases h.chi_sq h0 ha with hc | hc
    · exact hc
    · exfalso
      rw [hc] at he
      have e : fadd p a (fmul p a (p - 1)) = 0 := by
        have := fmul_add p a 1 (p - 1)
        rw [fmul_one p a (by omega) ha] at this
        rw [← this]
        unfold fadd; rw [show (1 : Int) + (p - 1) = p from by omega, Int.emod_self, fmul_zero]
      rw [he] at e
      unfold fadd at e
      have hd := Int.dvd_of_emod_eq_zero e
      obtain ⟨c, hc⟩ := hd
      have h4 := h.four
      have hc0 : 0 < c := by
        rcases (show 0 < c ∨ c ≤ 0 by omega) with hh | hh
        · exact hh
        · have := Int.mul_nonneg (show 0 ≤ p by omega) (show 0 ≤ -c by omega); rw [Int.mul_neg] at this; omega
      have hc2 : c < 2 := by
        rcases (show c < 2 ∨ 2 ≤ c by omega) with hh | hh
        · exact hh
        · have := Int.mul_le_mul_of_nonneg_left hh (show 0 ≤ p by omega); omega
      obtain rfl : c = 1 := by omega
      omega
  · intro hc; rw [hc]; exact fmul_one p a (by omega) ha

theorem GoodI.neg_ok {p a : Int} (h : GoodI p) (h0 : 0 < a) (ha : a < p) : fsqOk p (fneg p a) = !fsqOk p a := by
  have hp := h.two
  have h4 := h.four
  have hn : 0 < fneg p a ∧ fneg p a < p := by rw [fneg_of h0 ha]; omega
  -- chi (-1) = -1
  have hm1 : chi p (p - 1) = p - 1 := by
    unfold chi
    have e1 : fmul p (p - 1) (p - 1) = 1 := by
      have := fneg_of (p := p) (y := 1) (by omega) (by omega)
      rw [← this]; unfold fmul fneg
      rw [← Int.mul_emod]; exact Int.emod_eq_of_lt (by omega) (by omega)
    rw [show (p - 1) / 2 = 2 * ((p - 3) / 4) + 1 from by omega, fpow_add p _ _ _ (by omega) (by omega), ← fpow_mul p _ 2 _ (by omega) (by omega)]
    have e2 : fpow p (p - 1) 2 = 1 := by
      have := fpow_add p (p - 1) 1 1 (by omega) (by omega)
      rw [fpow_one p _ (by omega) (by omega), e1] at this; exact this
    have e3 : fpow p 1 ((p - 3) / 4) = 1 := by unfold fpow; rw [Int.one_pow]; exact Int.emod_eq_of_lt (by omega) (by omega)
    rw [e2, e3, fpow_one p _ (by omega) (by omega), fmul_comm, fmul_one p _ (by omega) (by omega)]
  have hneg : fneg p a = fmul p a (p - 1) := by
    unfold fneg fmul
    rw [Int.mul_sub, Int.mul_one, show a * p - a = -a + p * a from by rw [Int.mul_comm]; omega, Int.add_mul_emod_self_left]
  have hchi : chi p (fneg p a) = fmul p (chi p a) (p - 1) := by
    rw [hneg]; unfold chi; rw [fpow_fmul]; unfold chi at hm1; rw [hm1]
  have hone : fmul p 1 (p - 1) = p - 1 := by rw [fmul_comm]; exact fmul_one p _ (by omega) (by omega)
  have hsq : fmul p (p - 1) (p - 1) = 1 := by
    have := fneg_of (p := p) (y := 1) (by omega) (by omega)
    rw [← this]; unfold fmul fneg
    rw [← Int.mul_emod]; exact Int.emod_eq_of_lt (by omega) (by omega)
  have i1 := h.ok_iff h0 ha
  have i2 := h.ok_iff hn.1 hn.2
  rcases h.chi_sq h0 ha with hc | hc
  · rw [hchi, hc, hone] at i2
    have t1 : fsqOk p a = true := i1.2 hc
    have t2 : fsqOk p (fneg p a) = false := by
      cases hb : fsqOk p (fneg p a) with
      | false => rfl
      | true => have := i2.1 hb; omega
    rw [t1, t2]; rfl
  · rw [hchi, hc, hsq] at i2
    have t2 : fsqOk p (fneg p a) = true := i2.2 rfl
    have t1 : fsqOk p a = false := by
      cases hb : fsqOk p a with
      | false => rfl
      | true => have := i1.1 hb; omega
    rw [t1, t2]; rfl

theorem GoodI.sqrt_sq {p a : Int} (h : GoodI p) (hok : fsqOk p a = true) : fmul p (fsqrt p a) (fsqrt p a) = a := by
  have hp := h.two
  unfold fsqOk at hok
  rw [beq_iff_eq] at hok
  unfold fsqrt
  split
  · have e : fmul p (fneg p (froot p a)) (fneg p (froot p a)) = fmul p (froot p a) (froot p a) := by
      unfold fmul fneg; rw [← Int.mul_emod, Int.neg_mul_neg]
    rw [e, hok]
  · exact hok

theorem GoodI.sqrt_le {p : Int} (h : GoodI p) (a : Int) : 0 ≤ fsqrt p a ∧ fsqrt p a ≤ (p - 1) / 2 := by
  have hp := h.two
  have h4 := h.four
  have hb := froot_bd p a (by omega)
  unfold fsqrt
  split
  · rename_i hlt; rw [fneg_of (by omega) hb.2]; omega
  · omega

theorem GoodI.sqrt_zero {p : Int} (h : GoodI p) : fsqOk p 0 = true ∧ fsqrt p 0 = 0 := by
  have hp := h.two
  have e : froot p 0 = 0 := fpow_base0 p _ (by omega)
  unfold fsqOk fsqrt
  rw [e, fmul_zero, if_neg (by omega)]
  exact ⟨rfl, rfl⟩

/-- The root of a square is the lesser of a and -a. -/
theorem GoodI.sqrt_of_square {p a : Int} (h : GoodI p) (h0 : 0 < a) (ha : a < p) : fsqOk p (fmul p a a) = true ∧ fsqrt p (fmul p a a) = min a (p - a) := by
  have hp := h.two
  have h4 := h.four
  have hpos := h.fmul_ne h0 ha h0 ha
  have hb := fmul_bd p a a (by omega)
  have hok : fsqOk p (fmul p a a) = true := by
    rw [h.ok_iff hpos hb.2]
    unfold chi
    rw [fpow_fmul, ← fpow_add p a _ _ (by omega) (by omega), show (p - 1) / 2 + (p - 1) / 2 = p - 1 from by omega, h.fermat a h0 ha]
  refine ⟨hok, ?_⟩
  have hs := h.sqrt_sq hok
  have hl := h.sqrt_le (fmul p a a)
  rcases h.square hl.1 (by omega) (by omega) ha hs with e | e
  · omega
  · rw [fneg_of h0 ha] at e; omega

theorem GoodI.ok_mul {p a b : Int} (h : GoodI p) (h0 : 0 < a) (ha : a < p) (h1 : 0 < b) (hb : b < p) : fsqOk p (fmul p a b) = (fsqOk p a == fsqOk p b) := by
  have hp := h.two
  have hpos := h.fmul_ne h0 ha h1 hb
  have hbd := fmul_bd p a b (by omega)
  have hc : chi p (fmul p a b) = fmul p (chi p a) (chi p b) := by unfold chi; exact fpow_fmul p a b _
  have h11 : fmul p 1 1 = 1 := fmul_one p 1 (by omega) (by omega)
  have h1m : fmul p 1 (p - 1) = p - 1 := by rw [fmul_comm]; exact fmul_one p _ (by omega) (by omega)
  have hm1 : fmul p (p - 1) 1 = p - 1 := fmul_one p _ (by omega) (by omega)
  have hmm : fmul p (p - 1) (p - 1) = 1 := by
    have := fneg_of (p := p) (y := 1) (by omega) (by omega)
    rw [← this]; unfold fmul fneg
    rw [← Int.mul_emod]; exact Int.emod_eq_of_lt (by omega) (by omega)
  have ia := h.ok_iff h0 ha
  have ib := h.ok_iff h1 hb
  have ic := h.ok_iff hpos hbd.2
  rw [hc] at ic
  have no : ∀ x, (fsqOk p x = true ↔ p - 1 = 1) → fsqOk p x = false := by
    intro x hx
    cases hq : fsqOk p x with
    | false => rfl
    | true => have := hx.1 hq; omega
  rcases h.chi_sq h0 ha with ca | ca <;> rcases h.chi_sq h1 hb with cb | cb <;> rw [ca, cb] at ic <;> rw [ca] at ia <;> rw [cb] at ib
  · rw [h11] at ic; rw [ic.2 rfl, ia.2 rfl, ib.2 rfl]; rfl
  · rw [h1m] at ic; rw [no _ ic, ia.2 rfl, no _ ib]; rfl
  · rw [hm1] at ic; rw [no _ ic, no _ ia, ib.2 rfl]; rfl
  · rw [hmm] at ic; rw [ic.2 rfl, no _ ia, no _ ib]; rfl

theorem GoodI.sqrt_mul {p a b : Int} (h : GoodI p) (h0 : 0 < a) (ha : a < p) (h1 : 0 < b) (hb : b < p) (oka : fsqOk p a = true) (okb : fsqOk p b = true) :
    fsqrt p (fmul p a b) = fmul p (fsqrt p a) (fsqrt p b) ∨ fsqrt p (fmul p a b) = fneg p (fmul p (fsqrt p a) (fsqrt p b)) := by
  have hp := h.two
  have h4 := h.four
  have okc : fsqOk p (fmul p a b) = true := by rw [h.ok_mul h0 ha h1 hb, oka, okb]; rfl
  have ea := h.sqrt_sq oka
  have eb := h.sqrt_sq okb
  have ec := h.sqrt_sq okc
  have lc := h.sqrt_le (fmul p a b)
  have hq := fmul_bd p (fsqrt p a) (fsqrt p b) (by omega)
  apply h.square lc.1 (by omega) hq.1 hq.2
  rw [ec, fmul_assoc, fmul_comm p (fsqrt p b), fmul_assoc, eb, ← fmul_assoc, ea]

end FieldMath
