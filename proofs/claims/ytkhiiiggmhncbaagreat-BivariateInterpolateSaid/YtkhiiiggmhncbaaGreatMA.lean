/- Texts joined: Math, PMath, PStep, IMath, IFac, GDet, GRank, GLin, GSolve. Each says its own conditions. -/
/- Plain facts about the fields of the seven Mersenne primes, with no Go in sight: each is prime (by a certificate that the kernel checks), Fermat, inverses, squares and square roots. No conditions. -/
namespace FieldMath

/-- An injective map of the numbers below n into themselves meets each of them. -/
theorem pigeon (n : Nat) : ∀ f : Nat → Nat, (∀ i, i < n → f i < n) → (∀ i j, i < n → j < n → f i = f j → i = j) →
    ∀ y, y < n → ∃ i, i < n ∧ f i = y := by
  induction n with
  | zero => intro f _ _ y hy; omega
  | succ n ih =>
    intro f hlt hinj y hy
    by_cases hfn : f n = n
    · have hlt' : ∀ i, i < n → f i < n := by
        intro i hi
        have h1 := hlt i (by omega)
        have h2 : f i ≠ n := by
          intro h
          have := hinj i n (by omega) (by omega) (by rw [h, hfn])
          omega
        omega
      by_cases hyn : y = n
      · exact ⟨n, by omega, by rw [hfn, hyn]⟩
      · obtain ⟨i, hi, he⟩ := ih f hlt' (fun i j hi hj h => hinj i j (by omega) (by omega) h) y (by omega)
        exact ⟨i, by omega, he⟩
    · have hfn' : f n < n := by have := hlt n (by omega); omega
      have key := ih (fun i => if f i = n then f n else f i)
        (by
          intro i hi
          show (if f i = n then f n else f i) < n
          by_cases h : f i = n
          · rw [if_pos h]; exact hfn'
          · rw [if_neg h]; have := hlt i (by omega); omega)
        (by
          intro i j hi hj h
          change (if f i = n then f n else f i) = (if f j = n then f n else f j) at h
          by_cases h1 : f i = n
          · by_cases h2 : f j = n
            · exact hinj i j (by omega) (by omega) (by rw [h1, h2])
            · rw [if_pos h1, if_neg h2] at h
              have := hinj n j (by omega) (by omega) h
              omega
          · by_cases h2 : f j = n
            · rw [if_neg h1, if_pos h2] at h
              have := hinj i n (by omega) (by omega) h
              omega
            · rw [if_neg h1, if_neg h2] at h
              exact hinj i j (by omega) (by omega) h)
      by_cases hy1 : y = f n
      · exact ⟨n, by omega, hy1.symm⟩
      · by_cases hyn : y = n
        · obtain ⟨i, hi, he⟩ := key (f n) hfn'
          change (if f i = n then f n else f i) = f n at he
          by_cases h : f i = n
          · exact ⟨i, by omega, by rw [h, hyn]⟩
          · rw [if_neg h] at he
            have := hinj i n (by omega) (by omega) he
            omega
        · obtain ⟨i, hi, he⟩ := key y (by omega)
          change (if f i = n then f n else f i) = y at he
          by_cases h : f i = n
          · rw [if_pos h] at he; exact absurd he.symm hy1
          · rw [if_neg h] at he; exact ⟨i, by omega, he⟩

/-- Fast modular exponentiation, for the kernel. -/
def powm (p : Nat) : Nat → Nat → Nat → Nat → Nat
  | 0, _, _, acc => acc
  | f + 1, a, n, acc => if n = 0 then acc else powm p f (a * a % p) (n / 2) (if n % 2 = 1 then acc * a % p else acc)

theorem powm_eq (p : Nat) : ∀ (f a n acc : Nat), n < 2 ^ f → acc < p → powm p f a n acc = acc * a ^ n % p := by
  intro f
  induction f with
  | zero => intro a n acc hn ha; have : n = 0 := by simp at hn; exact hn
            subst this; simp [powm, Nat.mod_eq_of_lt ha]
  | succ f ih =>
    intro a n acc hn ha
    unfold powm
    by_cases h0 : n = 0
    · subst h0; simp [Nat.mod_eq_of_lt ha]
    · rw [if_neg h0]
      have hp : 0 < p := by omega
      rw [ih _ _ _ (by rw [Nat.pow_succ] at hn; omega) (by split; exact Nat.mod_lt _ hp; exact ha)]
      have e : a ^ n = (a * a) ^ (n / 2) * (if n % 2 = 1 then a else 1) := by
        have h2 : n = 2 * (n / 2) + n % 2 := by omega
        conv => lhs; rw [h2]
        rw [Nat.pow_add, Nat.pow_mul, show a ^ 2 = a * a from Nat.pow_two a]
        rcases Nat.mod_two_eq_zero_or_one n with h | h <;> rw [h] <;> simp
      rw [e]
      split
      · rw [Nat.mul_mod, Nat.mod_mod, ← Nat.pow_mod (a * a), ← Nat.mul_mod, Nat.mul_assoc, Nat.mul_comm a]
      · rw [Nat.mul_mod, ← Nat.pow_mod, ← Nat.mul_mod, Nat.mul_one]

/-- Every divisor of r is 1 or r. -/
def primeB (r : Nat) : Bool := decide (2 ≤ r) && (List.range r).all fun d => decide (d ≤ 1) || !decide (r % d = 0)

theorem primeB_spec {r d : Nat} (h : primeB r = true) (hd : d ∣ r) : d = 1 ∨ d = r := by
  unfold primeB at h
  simp only [Bool.and_eq_true, decide_eq_true_eq, List.all_eq_true, List.mem_range, Bool.or_eq_true, Bool.not_eq_true', decide_eq_false_iff_not] at h
  have hle := Nat.le_of_dvd (by omega) hd
  by_cases hr : d = r
  · exact .inr hr
  · rcases h.2 d (by omega) with h1 | h1
    · have : d ≠ 0 := by rintro rfl; have := Nat.eq_zero_of_zero_dvd hd; omega
      left; omega
    · exact absurd (Nat.mod_eq_zero_of_dvd hd) h1

theorem coprime_prod (c : Nat) (l : List Nat) (h : ∀ r, r ∈ l → Nat.Coprime c r) : Nat.Coprime c l.prod := by
  induction l with
  | nil => simp
  | cons r l ih =>
    rw [List.prod_cons]
    exact Nat.Coprime.mul_right (h r (by simp)) (ih fun s hs => h s (by simp [hs]))

/-- A proper divisor e of m = the product of primes divides m / r for one of these primes r. -/
theorem proper_divisor (l : List Nat) (hl : ∀ r, r ∈ l → primeB r = true) (e : Nat) (hd : e ∣ l.prod) (hne : e ≠ l.prod) :
    ∃ r, r ∈ l ∧ e ∣ l.prod / r := by
  obtain ⟨c, hc⟩ := hd
  have hcop : ¬ Nat.Coprime c l.prod := by
    intro h
    have h1 : c ∣ l.prod := ⟨e, by rw [hc, Nat.mul_comm]⟩
    have h2 : Nat.gcd c l.prod = c := Nat.gcd_eq_left h1
    rw [Nat.Coprime, h2] at h
    rw [h, Nat.mul_one] at hc
    exact hne hc.symm
  have hex : ∃ r, r ∈ l ∧ ¬ Nat.Coprime c r := by
    apply Classical.byContradiction
    intro hno
    apply hcop
    apply coprime_prod
    intro r hr
    apply Classical.byContradiction
    intro h
    exact hno ⟨r, hr, h⟩
  obtain ⟨r, hr, hn⟩ := hex
  refine ⟨r, hr, ?_⟩
  have hpr := hl r hr
  have hg : Nat.gcd c r = r := by
    rcases primeB_spec hpr (Nat.gcd_dvd_right c r) with h | h
    · exact absurd h hn
    · exact h
  obtain ⟨c', hc'⟩ : r ∣ c := by rw [← hg]; exact Nat.gcd_dvd_left c r
  have hr0 : 0 < r := by
    rcases Nat.eq_zero_or_pos r with h | h
    · subst h; simp [primeB] at hpr
    · exact h
  refine ⟨c', ?_⟩
  rw [hc, hc', show e * (r * c') = r * (e * c') from by rw [Nat.mul_left_comm], Nat.mul_div_cancel_left _ hr0]

theorem pow_gcd (p g : Nat) (hp : 1 < p) : ∀ (m n : Nat), g ^ m % p = 1 → g ^ n % p = 1 → g ^ (Nat.gcd m n) % p = 1 := by
  intro m n
  induction m, n using Nat.gcd.induction with
  | H0 n => intro _ h; simpa using h
  | H1 m n hm ih =>
    intro h1 h2
    rw [Nat.gcd_rec]
    apply ih _ h1
    have e : g ^ n = (g ^ m) ^ (n / m) * g ^ (n % m) := by
      rw [← Nat.pow_mul, ← Nat.pow_add, Nat.div_add_mod]
    rw [e, Nat.mul_mod, Nat.pow_mod, h1, Nat.one_pow, Nat.mod_eq_of_lt hp, Nat.one_mul, Nat.mod_mod] at h2
    exact h2

/-- What a certificate says: g generates the nonzero residues of p. -/
structure Cert (p g : Nat) (l : List Nat) : Prop where
  two : 2 < p
  prod : l.prod = p - 1
  primes : ∀ r, r ∈ l → primeB r = true
  one : g ^ (p - 1) % p = 1
  others : ∀ r, r ∈ l → g ^ ((p - 1) / r) % p ≠ 1

theorem Cert.order {p g : Nat} {l : List Nat} (h : Cert p g l) (d : Nat) (h0 : 0 < d) (hd : d < p - 1) : g ^ d % p ≠ 1 := by
  intro h1
  have hp := h.two
  have hg := pow_gcd p g (by omega) d (p - 1) h1 h.one
  have hle : Nat.gcd d (p - 1) ≤ d := Nat.le_of_dvd h0 (Nat.gcd_dvd_left _ _)
  obtain ⟨r, hr, c, hc⟩ := proper_divisor l h.primes (Nat.gcd d (p - 1)) (by rw [h.prod]; exact Nat.gcd_dvd_right _ _) (by rw [h.prod]; omega)
  apply h.others r hr
  rw [← h.prod, hc, Nat.pow_mul, Nat.pow_mod, hg, Nat.one_pow, Nat.mod_eq_of_lt (by omega)]

theorem Cert.gen {p g : Nat} {l : List Nat} (h : Cert p g l) (a : Nat) (h0 : 0 < a) (ha : a < p) : ∃ k, g ^ k % p = a := by
  have hp := h.two
  have hnz : ∀ k, k < p - 1 → 0 < g ^ k % p := by
    intro k hk
    rcases Nat.eq_zero_or_pos (g ^ k % p) with hz | hz
    · exfalso
      have := h.one
      rw [show p - 1 = k + (p - 1 - k) from by omega, Nat.pow_add, Nat.mul_mod, hz] at this
      simp at this
    · exact hz
  obtain ⟨k, hk, he⟩ := pigeon (p - 1) (fun k => g ^ k % p - 1)
    (by
      intro i hi
      show g ^ i % p - 1 < p - 1
      have := hnz i hi
      have := Nat.mod_lt (g ^ i) (show 0 < p by omega)
      omega)
    (by
      have key : ∀ i j, i < j → j < p - 1 → g ^ i % p ≠ g ^ j % p := by
        intro i j hij hj he
        apply h.order (j - i) (by omega) (by omega)
        have e1 : g ^ (p - 1 - i) * g ^ i % p = 1 := by rw [← Nat.pow_add, show p - 1 - i + i = p - 1 from by omega]; exact h.one
        have e2 : g ^ (p - 1 - i) * g ^ j % p = 1 := by rw [Nat.mul_mod, ← he, ← Nat.mul_mod]; exact e1
        rw [show j = i + (j - i) from by omega, Nat.pow_add, ← Nat.mul_assoc, Nat.mul_mod, e1, Nat.one_mul, Nat.mod_mod] at e2
        exact e2
      intro i j hi hj hij
      change g ^ i % p - 1 = g ^ j % p - 1 at hij
      have h1 := hnz i hi
      have h2 := hnz j hj
      have he : g ^ i % p = g ^ j % p := by omega
      rcases Nat.lt_trichotomy i j with hlt | heq | hlt
      · exact absurd he (key i j hlt hj)
      · exact heq
      · exact absurd he.symm (key j i hlt hi))
    (a - 1) (by omega)
  refine ⟨k, ?_⟩
  change g ^ k % p - 1 = a - 1 at he
  have := hnz k hk
  omega

theorem Cert.fermat {p g : Nat} {l : List Nat} (h : Cert p g l) (a : Nat) (h0 : 0 < a) (ha : a < p) : a ^ (p - 1) % p = 1 := by
  obtain ⟨k, hk⟩ := h.gen a h0 ha
  rw [← hk, ← Nat.pow_mod, ← Nat.pow_mul, Nat.mul_comm, Nat.pow_mul, Nat.pow_mod, h.one, Nat.one_pow, Nat.mod_eq_of_lt (by have := h.two; omega)]

/-- What a certificate comes to for the kernel. -/
def certB (p g : Nat) (l : List Nat) : Bool :=
  decide (2 < p) && decide (p < 2 ^ 64) && (l.prod == p - 1) && l.all primeB && (powm p 64 g (p - 1) 1 == 1) && l.all fun r => powm p 64 g ((p - 1) / r) 1 != 1

theorem cert_of {p g : Nat} {l : List Nat} (h : certB p g l = true) : Cert p g l := by
  unfold certB at h
  simp only [Bool.and_eq_true, decide_eq_true_eq, List.all_eq_true, beq_iff_eq, bne_iff_ne] at h
  obtain ⟨⟨⟨⟨⟨h1, h2⟩, h3⟩, h4⟩, h5⟩, h6⟩ := h
  refine ⟨h1, h3, h4, ?_, ?_⟩
  · rw [powm_eq p 64 _ _ _ (by omega) (by omega), Nat.one_mul] at h5; exact h5
  · intro r hr
    have h7 := h6 r hr
    rw [powm_eq p 64 _ _ _ (Nat.lt_of_le_of_lt (Nat.div_le_self _ _) (by omega)) (by omega), Nat.one_mul] at h7
    exact h7

/-- What the laws need of p. -/
structure Good (p : Nat) : Prop where
  two : 2 < p
  four : p % 4 = 3
  fermat : ∀ a, 0 < a → a < p → a ^ (p - 1) % p = 1

theorem good_of {p g : Nat} {l : List Nat} (h : certB p g l = true) (h4 : p % 4 = 3) : Good p :=
  ⟨(cert_of h).two, h4, (cert_of h).fermat⟩

theorem good5 : Good 31 := good_of (g := 3) (l := [2, 3, 5]) (by decide +kernel) rfl
theorem good7 : Good 127 := good_of (g := 3) (l := [2, 3, 3, 7]) (by decide +kernel) rfl
theorem good13 : Good 8191 := good_of (g := 17) (l := [2, 3, 3, 5, 7, 13]) (by decide +kernel) rfl
theorem good17 : Good 131071 := good_of (g := 3) (l := [2, 3, 5, 17, 257]) (by decide +kernel) rfl
theorem good19 : Good 524287 := good_of (g := 3) (l := [2, 3, 3, 3, 7, 19, 73]) (by decide +kernel) rfl
theorem good31 : Good 2147483647 := good_of (g := 7) (l := [2, 3, 3, 7, 11, 31, 151, 331]) (by decide +kernel) rfl
theorem good61 : Good 2305843009213693951 := good_of (g := 37) (l := [2, 3, 3, 5, 5, 7, 11, 13, 31, 41, 61, 151, 331, 1321]) (by decide +kernel) rfl


/-! ### The field's operations on integers -/
def fadd (p a b : Int) : Int := (a + b) % p
def fsub (p a b : Int) : Int := (a - b) % p
def fneg (p a : Int) : Int := (-a) % p
def fmul (p a b : Int) : Int := a * b % p
def fpow (p a n : Int) : Int := a ^ n.toNat % p

theorem md (a p : Int) (hp : 0 < p) : 0 ≤ a % p ∧ a % p < p := ⟨Int.emod_nonneg _ (by omega), Int.emod_lt_of_pos _ hp⟩
theorem fadd_bd (p a b : Int) (hp : 0 < p) : 0 ≤ fadd p a b ∧ fadd p a b < p := md _ _ hp
theorem fsub_bd (p a b : Int) (hp : 0 < p) : 0 ≤ fsub p a b ∧ fsub p a b < p := md _ _ hp
theorem fneg_bd (p a : Int) (hp : 0 < p) : 0 ≤ fneg p a ∧ fneg p a < p := md _ _ hp
theorem fmul_bd (p a b : Int) (hp : 0 < p) : 0 ≤ fmul p a b ∧ fmul p a b < p := md _ _ hp
theorem fpow_bd (p a n : Int) (hp : 0 < p) : 0 ≤ fpow p a n ∧ fpow p a n < p := md _ _ hp

theorem fadd_assoc (p a b c : Int) : fadd p (fadd p a b) c = fadd p a (fadd p b c) := by
  unfold fadd; rw [Int.emod_add_emod, Int.add_emod_emod, Int.add_assoc]
theorem fadd_comm (p a b : Int) : fadd p a b = fadd p b a := by unfold fadd; rw [Int.add_comm]
theorem fadd_zero (p a : Int) (h0 : 0 ≤ a) (h : a < p) : fadd p a 0 = a := by unfold fadd; rw [Int.add_zero]; exact Int.emod_eq_of_lt h0 h
theorem fadd_neg (p a : Int) : fadd p a (fneg p a) = 0 := by
  unfold fadd fneg; rw [Int.add_emod_emod, Int.add_right_neg, Int.zero_emod]
theorem fsub_eq (p a b : Int) : fsub p a b = fadd p a (fneg p b) := by
  unfold fadd fneg fsub; rw [Int.add_emod_emod, Int.sub_eq_add_neg]
theorem fmul_assoc (p a b c : Int) : fmul p (fmul p a b) c = fmul p a (fmul p b c) := by
  unfold fmul; rw [Int.mul_emod, Int.emod_emod, ← Int.mul_emod, Int.mul_emod a, Int.emod_emod, ← Int.mul_emod, Int.mul_assoc]
theorem fmul_comm (p a b : Int) : fmul p a b = fmul p b a := by unfold fmul; rw [Int.mul_comm]
theorem fmul_one (p a : Int) (h0 : 0 ≤ a) (h : a < p) : fmul p a 1 = a := by unfold fmul; rw [Int.mul_one]; exact Int.emod_eq_of_lt h0 h
theorem fmul_add (p a b c : Int) : fmul p a (fadd p b c) = fadd p (fmul p a b) (fmul p a c) := by
  unfold fmul fadd; rw [Int.mul_emod, Int.emod_emod, ← Int.mul_emod, Int.mul_add, Int.add_emod]
theorem fmul_zero (p a : Int) : fmul p a 0 = 0 := by unfold fmul; rw [Int.mul_zero, Int.zero_emod]

theorem pow_emod (a p : Int) (n : Nat) : (a % p) ^ n % p = a ^ n % p := by
  induction n with
  | zero => rw [Int.pow_zero, Int.pow_zero]
  | succ n ih => rw [Int.pow_succ, Int.pow_succ, Int.mul_emod, ih, Int.emod_emod, ← Int.mul_emod]

theorem fpow_add (p a m n : Int) (hm : 0 ≤ m) (hn : 0 ≤ n) : fpow p a (m + n) = fmul p (fpow p a m) (fpow p a n) := by
  unfold fpow fmul; rw [Int.toNat_add hm hn, Int.pow_add, Int.mul_emod]
theorem fpow_mul (p a m n : Int) (hm : 0 ≤ m) (hn : 0 ≤ n) : fpow p (fpow p a m) n = fpow p a (m * n) := by
  unfold fpow; rw [Int.toNat_mul hm hn, Int.pow_mul, pow_emod]
theorem fpow_zero (p a : Int) (hp : 1 < p) : fpow p a 0 = 1 := by
  unfold fpow; rw [Int.toNat_zero, Int.pow_zero]; exact Int.emod_eq_of_lt (by omega) hp
theorem fpow_one (p a : Int) (h0 : 0 ≤ a) (h : a < p) : fpow p a 1 = a := by
  unfold fpow; rw [show (1 : Int).toNat = 1 from rfl, Int.pow_succ, Int.pow_zero, Int.one_mul]; exact Int.emod_eq_of_lt h0 h
theorem fpow_fmul (p a b n : Int) : fpow p (fmul p a b) n = fmul p (fpow p a n) (fpow p b n) := by
  unfold fpow fmul; rw [pow_emod, Int.mul_pow, Int.mul_emod]
theorem fpow_base0 (p n : Int) (hn : 0 < n) : fpow p 0 n = 0 := by
  unfold fpow
  obtain ⟨k, hk⟩ : ∃ k, n.toNat = k + 1 := ⟨n.toNat - 1, by omega⟩
  rw [hk, Int.pow_succ, Int.mul_zero, Int.zero_emod]

/-- What the laws need of p, on integers. -/
structure GoodI (p : Int) : Prop where
  two : 2 < p
  four : p % 4 = 3
  fermat : ∀ a, 0 < a → a < p → fpow p a (p - 1) = 1

theorem goodI_of {p : Nat} (h : Good p) : GoodI p := by
  refine ⟨by have := h.two; omega, by have := h.four; omega, ?_⟩
  intro a h0 ha
  obtain ⟨n, rfl⟩ := Int.eq_ofNat_of_zero_le (show 0 ≤ a by omega)
  have := h.fermat n (by omega) (by omega)
  have hp := h.two
  unfold fpow
  rw [show ((p : Int) - 1).toNat = p - 1 from by omega, ← Int.natCast_pow, ← Int.natCast_emod, this]
  rfl

/-- The supported primes. -/
def OkP (p : Int) : Prop := p = 31 ∨ p = 127 ∨ p = 8191 ∨ p = 131071 ∨ p = 524287 ∨ p = 2147483647 ∨ p = 2305843009213693951

theorem OkP.good {p : Int} (h : OkP p) : GoodI p := by
  rcases h with rfl | rfl | rfl | rfl | rfl | rfl | rfl
  · exact goodI_of good5
  · exact goodI_of good7
  · exact goodI_of good13
  · exact goodI_of good17
  · exact goodI_of good19
  · exact goodI_of good31
  · exact goodI_of good61
theorem OkP.bd {p : Int} (h : OkP p) : 31 ≤ p ∧ p ≤ 2305843009213693951 := by
  rcases h with rfl | rfl | rfl | rfl | rfl | rfl | rfl <;> decide

theorem GoodI.inv {p a : Int} (h : GoodI p) (h0 : 0 < a) (ha : a < p) : fmul p a (fpow p a (p - 2)) = 1 := by
  have e := fpow_add p a 1 (p - 2) (by omega) (by have := h.two; omega)
  rw [fpow_one p a (by omega) ha, show 1 + (p - 2) = p - 1 from by omega, h.fermat a h0 ha] at e
  exact e.symm

theorem GoodI.fermat_p {p a : Int} (h : GoodI p) (h0 : 0 ≤ a) (ha : a < p) : fpow p a p = a := by
  have hp := h.two
  by_cases hz : a = 0
  · subst hz; exact fpow_base0 p p (by omega)
  · have e := fpow_add p a (p - 1) 1 (by omega) (by omega)
    rw [fpow_one p a h0 ha, show p - 1 + 1 = p from by omega, h.fermat a (by omega) ha, fmul_comm, fmul_one p a h0 ha] at e
    exact e

/-- No zero divisors. -/
theorem GoodI.nozero {p a b : Int} (h : GoodI p) (h0 : 0 < a) (ha : a < p) (h1 : 0 ≤ b) (hb : b < p) (he : fmul p a b = 0) : b = 0 := by
  have hi := h.inv h0 ha
  have e : fmul p (fmul p (fpow p a (p - 2)) a) b = 0 := by rw [fmul_assoc, he, fmul_zero]
  rw [fmul_comm p (fpow p a (p - 2)), hi, fmul_comm, fmul_one p b h1 hb] at e
  exact e

theorem GoodI.fmul_ne {p a b : Int} (h : GoodI p) (h0 : 0 < a) (ha : a < p) (h1 : 0 < b) (hb : b < p) : 0 < fmul p a b := by
  have hp := h.two
  have hbd := fmul_bd p a b (by omega)
  by_cases he : fmul p a b = 0
  · have := h.nozero h0 ha (by omega) hb he; omega
  · omega

/-- Two elements with one square are equal up to sign. -/
theorem GoodI.square {p x y : Int} (h : GoodI p) (hx0 : 0 ≤ x) (hx : x < p) (hy0 : 0 ≤ y) (hy : y < p) (he : fmul p x x = fmul p y y) : x = y ∨ x = fneg p y := by
  have hp := h.two
  have key : fmul p (fsub p x y) (fadd p x y) = 0 := by
    have e1 : (x - y) * (x + y) = x * x - y * y := by rw [Int.sub_mul, Int.mul_add, Int.mul_add, Int.mul_comm y x]; omega
    unfold fmul fsub fadd
    rw [← Int.mul_emod, e1, Int.sub_emod]
    unfold fmul at he
    rw [he, Int.sub_self, Int.zero_emod]
  have hs := fsub_bd p x y (by omega)
  have ha := fadd_bd p x y (by omega)
  by_cases hz : fsub p x y = 0
  · left
    unfold fsub at hz
    have hd := Int.dvd_of_emod_eq_zero hz
    by_cases hxy : x = y
    · exact hxy
    · exfalso
      rcases Int.lt_or_gt_of_ne hxy with hlt | hgt
      · have := Int.le_of_dvd (show 0 < y - x by omega) ((Int.dvd_neg).1 (by rw [Int.neg_sub]; exact hd)); omega
      · have := Int.le_of_dvd (show 0 < x - y by omega) hd; omega
  · right
    have hq := h.nozero (by omega) hs.2 ha.1 ha.2 key
    unfold fadd at hq
    unfold fneg
    have : (-y) % p = x % p := by
      have e : (x + y - y) % p = (0 - y) % p := by rw [Int.sub_emod (x + y), hq, Int.sub_emod 0 y, Int.zero_emod]
      rw [show x + y - y = x from by omega, show 0 - y = -y from by omega] at e
      exact e.symm
    rw [this, Int.emod_eq_of_lt hx0 hx]

theorem fneg_of {p y : Int} (hy0 : 0 < y) (hy : y < p) : fneg p y = p - y := by
  unfold fneg
  have e : (-y) % p = (-y + p * 1) % p := by rw [Int.add_mul_emod_self_left]
  rw [e, Int.mul_one, show -y + p = p - y from by omega]; exact Int.emod_eq_of_lt (by omega) (by omega)
theorem fneg_zero (p : Int) : fneg p 0 = 0 := by unfold fneg; simp

/-! ### Roots -/
def froot (p a : Int) : Int := fpow p a (p / 4 + 1)
def fsqOk (p a : Int) : Bool := fmul p (froot p a) (froot p a) == a
def fsqrt (p a : Int) : Int := if (p - 1) / 2 < froot p a then fneg p (froot p a) else froot p a
def chi (p a : Int) : Int := fpow p a ((p - 1) / 2)

theorem froot_bd (p a : Int) (hp : 0 < p) : 0 ≤ froot p a ∧ froot p a < p := fpow_bd _ _ _ hp

theorem GoodI.chi_sq {p a : Int} (h : GoodI p) (h0 : 0 < a) (ha : a < p) : chi p a = 1 ∨ chi p a = p - 1 := by
  have hp := h.two
  have h4 := h.four
  have e := fpow_add p a ((p - 1) / 2) ((p - 1) / 2) (by omega) (by omega)
  rw [show (p - 1) / 2 + (p - 1) / 2 = p - 1 from by omega, h.fermat a h0 ha] at e
  have hb := fpow_bd p a ((p - 1) / 2) (by omega)
  have h1 : fmul p 1 1 = 1 := fmul_one p 1 (by omega) (by omega)
  rcases h.square hb.1 hb.2 (show (0:Int) ≤ 1 by omega) (by omega) (by rw [← e, h1]) with hq | hq
  · exact .inl hq
  · right; show fpow p a ((p - 1) / 2) = _; rw [hq, fneg_of (by omega) (by omega)]

theorem GoodI.root_sq {p a : Int} (h : GoodI p) (h0 : 0 ≤ a) (ha : a < p) : fmul p (froot p a) (froot p a) = fmul p a (chi p a) := by
  have hp := h.two
  have h4 := h.four
  unfold froot chi
  rw [← fpow_add p a _ _ (by omega) (by omega), show p / 4 + 1 + (p / 4 + 1) = 1 + (p - 1) / 2 from by omega, fpow_add p a _ _ (by omega) (by omega), fpow_one p a h0 ha]

theorem GoodI.ok_iff {p a : Int} (h : GoodI p) (h0 : 0 < a) (ha : a < p) : fsqOk p a = true ↔ chi p a = 1 := by
  have hp := h.two
  unfold fsqOk
  rw [beq_iff_eq, h.root_sq (by omega) ha]
  constructor
  · intro he
    rcases h.chi_sq h0 ha with hc | hc
    · exact hc
    · exfalso
      rw [hc] at he
      have e : fadd p a (fmul p a (p - 1)) = 0 := by
        have := fmul_add p a 1 (p - 1)
        rw [fmul_one p a (by omega) ha] at this
        rw [← this]
        unfold fadd; rw [show (1 : Int) + (p - 1) = p from by omega, Int.emod_self, fmul_zero]
      rw [he] at e
      unfold fadd at e
      have hd := Int.dvd_of_emod_eq_zero e
      obtain ⟨c, hc⟩ := hd
      have h4 := h.four
      have hc0 : 0 < c := by
        rcases (show 0 < c ∨ c ≤ 0 by omega) with hh | hh
        · exact hh
        · have := Int.mul_nonneg (show 0 ≤ p by omega) (show 0 ≤ -c by omega); rw [Int.mul_neg] at this; omega
      have hc2 : c < 2 := by
        rcases (show c < 2 ∨ 2 ≤ c by omega) with hh | hh
        · exact hh
        · have := Int.mul_le_mul_of_nonneg_left hh (show 0 ≤ p by omega); omega
      obtain rfl : c = 1 := by omega
      omega
  · intro hc; rw [hc]; exact fmul_one p a (by omega) ha

theorem GoodI.neg_ok {p a : Int} (h : GoodI p) (h0 : 0 < a) (ha : a < p) : fsqOk p (fneg p a) = !fsqOk p a := by
  have hp := h.two
  have h4 := h.four
  have hn : 0 < fneg p a ∧ fneg p a < p := by rw [fneg_of h0 ha]; omega
  -- chi (-1) = -1
  have hm1 : chi p (p - 1) = p - 1 := by
    unfold chi
    have e1 : fmul p (p - 1) (p - 1) = 1 := by
      have := fneg_of (p := p) (y := 1) (by omega) (by omega)
      rw [← this]; unfold fmul fneg
      rw [← Int.mul_emod]; exact Int.emod_eq_of_lt (by omega) (by omega)
    rw [show (p - 1) / 2 = 2 * ((p - 3) / 4) + 1 from by omega, fpow_add p _ _ _ (by omega) (by omega), ← fpow_mul p _ 2 _ (by omega) (by omega)]
    have e2 : fpow p (p - 1) 2 = 1 := by
      have := fpow_add p (p - 1) 1 1 (by omega) (by omega)
      rw [fpow_one p _ (by omega) (by omega), e1] at this; exact this
    have e3 : fpow p 1 ((p - 3) / 4) = 1 := by unfold fpow; rw [Int.one_pow]; exact Int.emod_eq_of_lt (by omega) (by omega)
    rw [e2, e3, fpow_one p _ (by omega) (by omega), fmul_comm, fmul_one p _ (by omega) (by omega)]
  have hneg : fneg p a = fmul p a (p - 1) := by
    unfold fneg fmul
    rw [Int.mul_sub, Int.mul_one, show a * p - a = -a + p * a from by rw [Int.mul_comm]; omega, Int.add_mul_emod_self_left]
  have hchi : chi p (fneg p a) = fmul p (chi p a) (p - 1) := by
    rw [hneg]; unfold chi; rw [fpow_fmul]; unfold chi at hm1; rw [hm1]
  have hone : fmul p 1 (p - 1) = p - 1 := by rw [fmul_comm]; exact fmul_one p _ (by omega) (by omega)
  have hsq : fmul p (p - 1) (p - 1) = 1 := by
    have := fneg_of (p := p) (y := 1) (by omega) (by omega)
    rw [← this]; unfold fmul fneg
    rw [← Int.mul_emod]; exact Int.emod_eq_of_lt (by omega) (by omega)
  have i1 := h.ok_iff h0 ha
  have i2 := h.ok_iff hn.1 hn.2
  rcases h.chi_sq h0 ha with hc | hc
  · rw [hchi, hc, hone] at i2
    have t1 : fsqOk p a = true := i1.2 hc
    have t2 : fsqOk p (fneg p a) = false := by
      cases hb : fsqOk p (fneg p a) with
      | false => rfl
      | true => have := i2.1 hb; omega
    rw [t1, t2]; rfl
  · rw [hchi, hc, hsq] at i2
    have t2 : fsqOk p (fneg p a) = true := i2.2 rfl
    have t1 : fsqOk p a = false := by
      cases hb : fsqOk p a with
      | false => rfl
      | true => have := i1.1 hb; omega
    rw [t1, t2]; rfl

theorem GoodI.sqrt_sq {p a : Int} (h : GoodI p) (hok : fsqOk p a = true) : fmul p (fsqrt p a) (fsqrt p a) = a := by
  have hp := h.two
  unfold fsqOk at hok
  rw [beq_iff_eq] at hok
  unfold fsqrt
  split
  · have e : fmul p (fneg p (froot p a)) (fneg p (froot p a)) = fmul p (froot p a) (froot p a) := by
      unfold fmul fneg; rw [← Int.mul_emod, Int.neg_mul_neg]
    rw [e, hok]
  · exact hok

theorem GoodI.sqrt_le {p : Int} (h : GoodI p) (a : Int) : 0 ≤ fsqrt p a ∧ fsqrt p a ≤ (p - 1) / 2 := by
  have hp := h.two
  have h4 := h.four
  have hb := froot_bd p a (by omega)
  unfold fsqrt
  split
  · rename_i hlt; rw [fneg_of (by omega) hb.2]; omega
  · omega

theorem GoodI.sqrt_zero {p : Int} (h : GoodI p) : fsqOk p 0 = true ∧ fsqrt p 0 = 0 := by
  have hp := h.two
  have e : froot p 0 = 0 := fpow_base0 p _ (by omega)
  unfold fsqOk fsqrt
  rw [e, fmul_zero, if_neg (by omega)]
  exact ⟨rfl, rfl⟩

/-- The root of a square is the lesser of a and -a. -/
theorem GoodI.sqrt_of_square {p a : Int} (h : GoodI p) (h0 : 0 < a) (ha : a < p) : fsqOk p (fmul p a a) = true ∧ fsqrt p (fmul p a a) = min a (p - a) := by
  have hp := h.two
  have h4 := h.four
  have hpos := h.fmul_ne h0 ha h0 ha
  have hb := fmul_bd p a a (by omega)
  have hok : fsqOk p (fmul p a a) = true := by
    rw [h.ok_iff hpos hb.2]
    unfold chi
    rw [fpow_fmul, ← fpow_add p a _ _ (by omega) (by omega), show (p - 1) / 2 + (p - 1) / 2 = p - 1 from by omega, h.fermat a h0 ha]
  refine ⟨hok, ?_⟩
  have hs := h.sqrt_sq hok
  have hl := h.sqrt_le (fmul p a a)
  rcases h.square hl.1 (by omega) (by omega) ha hs with e | e
  · omega
  · rw [fneg_of h0 ha] at e; omega

theorem GoodI.ok_mul {p a b : Int} (h : GoodI p) (h0 : 0 < a) (ha : a < p) (h1 : 0 < b) (hb : b < p) : fsqOk p (fmul p a b) = (fsqOk p a == fsqOk p b) := by
  have hp := h.two
  have hpos := h.fmul_ne h0 ha h1 hb
  have hbd := fmul_bd p a b (by omega)
  have hc : chi p (fmul p a b) = fmul p (chi p a) (chi p b) := by unfold chi; exact fpow_fmul p a b _
  have h11 : fmul p 1 1 = 1 := fmul_one p 1 (by omega) (by omega)
  have h1m : fmul p 1 (p - 1) = p - 1 := by rw [fmul_comm]; exact fmul_one p _ (by omega) (by omega)
  have hm1 : fmul p (p - 1) 1 = p - 1 := fmul_one p _ (by omega) (by omega)
  have hmm : fmul p (p - 1) (p - 1) = 1 := by
    have := fneg_of (p := p) (y := 1) (by omega) (by omega)
    rw [← this]; unfold fmul fneg
    rw [← Int.mul_emod]; exact Int.emod_eq_of_lt (by omega) (by omega)
  have ia := h.ok_iff h0 ha
  have ib := h.ok_iff h1 hb
  have ic := h.ok_iff hpos hbd.2
  rw [hc] at ic
  have no : ∀ x, (fsqOk p x = true ↔ p - 1 = 1) → fsqOk p x = false := by
    intro x hx
    cases hq : fsqOk p x with
    | false => rfl
    | true => have := hx.1 hq; omega
  rcases h.chi_sq h0 ha with ca | ca <;> rcases h.chi_sq h1 hb with cb | cb <;> rw [ca, cb] at ic <;> rw [ca] at ia <;> rw [cb] at ib
  · rw [h11] at ic; rw [ic.2 rfl, ia.2 rfl, ib.2 rfl]; rfl
  · rw [h1m] at ic; rw [no _ ic, ia.2 rfl, no _ ib]; rfl
  · rw [hm1] at ic; rw [no _ ic, no _ ia, ib.2 rfl]; rfl
  · rw [hmm] at ic; rw [ic.2 rfl, no _ ia, no _ ib]; rfl

theorem GoodI.sqrt_mul {p a b : Int} (h : GoodI p) (h0 : 0 < a) (ha : a < p) (h1 : 0 < b) (hb : b < p) (oka : fsqOk p a = true) (okb : fsqOk p b = true) :
    fsqrt p (fmul p a b) = fmul p (fsqrt p a) (fsqrt p b) ∨ fsqrt p (fmul p a b) = fneg p (fmul p (fsqrt p a) (fsqrt p b)) := by
  have hp := h.two
  have h4 := h.four
  have okc : fsqOk p (fmul p a b) = true := by rw [h.ok_mul h0 ha h1 hb, oka, okb]; rfl
  have ea := h.sqrt_sq oka
  have eb := h.sqrt_sq okb
  have ec := h.sqrt_sq okc
  have lc := h.sqrt_le (fmul p a b)
  have hq := fmul_bd p (fsqrt p a) (fsqrt p b) (by omega)
  apply h.square lc.1 (by omega) hq.1 hq.2
  rw [ec, fmul_assoc, fmul_comm p (fsqrt p b), fmul_assoc, eb, ← fmul_assoc, ea]

end FieldMath

/- Plain facts about polynomials over the fields of the seven Mersenne primes, with no Go in sight: trimmed lists, sums, products, values, division with remainder, zeros. Conditions: coefficients are elements of the field where said. -/
namespace PolyMath
open FieldMath

/-! ### Congruences -/
theorem ma {p a b c d : Int} (h1 : a % p = b % p) (h2 : c % p = d % p) : (a + c) % p = (b + d) % p := by
  rw [Int.add_emod, h1, h2, ← Int.add_emod]
theorem ms {p a b c d : Int} (h1 : a % p = b % p) (h2 : c % p = d % p) : (a - c) % p = (b - d) % p := by
  rw [Int.sub_emod, h1, h2, ← Int.sub_emod]
theorem mm {p a b c d : Int} (h1 : a % p = b % p) (h2 : c % p = d % p) : (a * c) % p = (b * d) % p := by
  rw [Int.mul_emod, h1, h2, ← Int.mul_emod]
theorem mdd (p a : Int) : a % p % p = a % p := Int.emod_emod_of_dvd a (Int.dvd_refl p)
theorem small {p a : Int} (h0 : 0 ≤ a) (h : a < p) : a % p = a := Int.emod_eq_of_lt h0 h

/-- A product is divisible by p only if a factor is. -/
theorem noz {p a b : Int} (h : GoodI p) (e : a * b % p = 0) : a % p = 0 ∨ b % p = 0 := by
  have hp := h.two
  have ha := md a p (by omega)
  have hb := md b p (by omega)
  by_cases hz : a % p = 0
  · exact .inl hz
  · right
    have : fmul p (a % p) (b % p) = 0 := by unfold fmul; rw [← Int.mul_emod]; exact e
    exact h.nozero (by omega) ha.2 hb.1 hb.2 this

/-! ### Coefficient functions -/
/-- The product's coefficients. -/
def conv (f g : Nat → Int) : Nat → Int
  | 0 => f 0 * g 0
  | n + 1 => f 0 * g (n + 1) + conv (fun i => f (i + 1)) g n

theorem conv_zero (f g : Nat → Int) : conv f g 0 = f 0 * g 0 := rfl
theorem conv_succ (f g : Nat → Int) (n : Nat) : conv f g (n + 1) = f 0 * g (n + 1) + conv (fun i => f (i + 1)) g n := rfl

theorem conv_ext {f f' g g' : Nat → Int} (hf : ∀ n, f n = f' n) (hg : ∀ n, g n = g' n) (n : Nat) : conv f g n = conv f' g' n := by
  rw [show f = f' from funext hf, show g = g' from funext hg]

theorem conv_right (g : Nat → Int) (n : Nat) : ∀ f, conv f g (n + 1) = conv f (fun i => g (i + 1)) n + f (n + 1) * g 0 := by
  induction n with
  | zero => intro f; rw [conv_succ, conv_zero, conv_zero]
  | succ n ih => intro f; rw [conv_succ, ih, conv_succ f]; omega

theorem conv_comm (n : Nat) : ∀ f g, conv f g n = conv g f n := by
  induction n with
  | zero => intro f g; rw [conv_zero, conv_zero, Int.mul_comm]
  | succ n ih => intro f g; rw [conv_succ, conv_right, ih, Int.mul_comm]; omega

theorem conv_add_left (g : Nat → Int) (n : Nat) : ∀ f f', conv (fun i => f i + f' i) g n = conv f g n + conv f' g n := by
  induction n with
  | zero => intro f f'; simp only [conv_zero]; exact Int.add_mul _ _ _
  | succ n ih => intro f f'; simp only [conv_succ]; rw [ih, Int.add_mul]; omega

theorem conv_add_right (f g g' : Nat → Int) (n : Nat) : conv f (fun i => g i + g' i) n = conv f g n + conv f g' n := by
  rw [conv_comm, conv_add_left, conv_comm n g, conv_comm n g']

theorem conv_mul_left (k : Int) (g : Nat → Int) (n : Nat) : ∀ f, conv (fun i => k * f i) g n = k * conv f g n := by
  induction n with
  | zero => intro f; simp only [conv_zero]; exact Int.mul_assoc _ _ _
  | succ n ih => intro f; simp only [conv_succ]; rw [ih, Int.mul_add, Int.mul_assoc]

theorem conv_sub_left (f f' g : Nat → Int) (n : Nat) : conv (fun i => f i - f' i) g n = conv f g n - conv f' g n := by
  have e := conv_add_left g n f (fun i => -1 * f' i)
  rw [conv_mul_left] at e
  rw [show (fun i => f i - f' i) = fun i => f i + -1 * f' i from funext fun i => by omega, e]; omega

theorem conv_assoc (g h : Nat → Int) (n : Nat) : ∀ f, conv (conv f g) h n = conv f (conv g h) n := by
  induction n with
  | zero => intro f; simp only [conv_zero]; exact Int.mul_assoc _ _ _
  | succ n ih =>
    intro f
    rw [conv_succ, conv_succ f, ← ih, conv_succ g h]
    have e : (fun i => conv f g (i + 1)) = fun i => (fun j => f 0 * (fun k => g (k + 1)) j) i + conv (fun k => f (k + 1)) g i := by
      funext i; exact conv_succ f g i
    rw [e, conv_add_left, conv_mul_left, conv_zero, Int.mul_add, Int.mul_assoc]; omega

theorem conv_mod {p : Int} {g g' : Nat → Int} (hg : ∀ n, g n % p = g' n % p) (n : Nat) : ∀ {f f' : Nat → Int}, (∀ n, f n % p = f' n % p) → conv f g n % p = conv f' g' n % p := by
  induction n with
  | zero => intro f f' hf; exact mm (hf 0) (hg 0)
  | succ n ih => intro f f' hf; exact ma (mm (hf 0) (hg _)) (ih fun n => hf (n + 1))

/-- Nothing from N on. -/
def Fin (f : Nat → Int) (N : Nat) : Prop := ∀ n, N ≤ n → f n = 0
/-- Nothing from N on, modulo p. -/
def FinM (p : Int) (f : Nat → Int) (N : Nat) : Prop := ∀ n, N ≤ n → f n % p = 0

theorem Fin.mod {p : Int} {f : Nat → Int} {N : Nat} (h : Fin f N) : FinM p f N := fun n hn => by rw [h n hn, Int.zero_emod]

theorem conv_null (g : Nat → Int) (n : Nat) : conv (fun _ => 0) g n = 0 := by
  induction n with
  | zero => rw [conv_zero, Int.zero_mul]
  | succ n ih => rw [conv_succ, Int.zero_mul, ih]; rfl

theorem conv_fin {g : Nat → Int} {B : Nat} (hg : Fin g B) (A : Nat) : ∀ {f : Nat → Int}, Fin f A → Fin (conv f g) (A + B - 1) := by
  induction A with
  | zero =>
    intro f hf n _
    rw [show f = fun _ => 0 from funext fun i => hf i (by omega)]; exact conv_null g n
  | succ A ih =>
    intro f hf n hn
    cases n with
    | zero =>
      rw [conv_zero, hg 0 (by omega), Int.mul_zero]
    | succ n =>
      rw [conv_succ, hg (n + 1) (by omega), Int.mul_zero, ih (f := fun i => f (i + 1)) (fun i hi => hf (i + 1) (by omega)) n (by omega)]; rfl

/-- The greatest coefficient of a product. -/
theorem conv_top {g : Nat → Int} {B : Nat} (hg : Fin g (B + 1)) (A : Nat) : ∀ {f : Nat → Int}, Fin f (A + 1) → conv f g (A + B) = f A * g B := by
  induction A with
  | zero =>
    intro f hf
    rw [Nat.zero_add]
    cases B with
    | zero => rfl
    | succ B =>
      rw [conv_succ, show (fun i => f (i + 1)) = fun _ => 0 from funext fun i => hf (i + 1) (by omega), conv_null, Int.add_zero]
  | succ A ih =>
    intro f hf
    rw [show A + 1 + B = (A + B) + 1 from by omega, conv_succ, hg _ (by omega), Int.mul_zero, Int.zero_add]
    exact ih (f := fun i => f (i + 1)) fun i hi => hf (i + 1) (by omega)

/-- The sum that a loop over the left factor has made of coefficient n behind I rounds. -/
def psum (f g : Nat → Int) (n : Nat) : Nat → Int
  | 0 => 0
  | I + 1 => psum f g n I + if I ≤ n then f I * g (n - I) else 0

theorem psum_succ (f g : Nat → Int) (n I : Nat) : psum f g n (I + 1) = psum f g n I + if I ≤ n then f I * g (n - I) else 0 := rfl

theorem psum_shift (f g : Nat → Int) (n : Nat) : ∀ I, psum f g (n + 1) (I + 1) = f 0 * g (n + 1) + psum (fun i => f (i + 1)) g n I := by
  intro I
  induction I with
  | zero => simp [psum]
  | succ I ih =>
    rw [psum, ih]
    show _ = _ + (psum (fun i => f (i + 1)) g n I + _)
    rw [show n + 1 - (I + 1) = n - I from by omega]
    by_cases h : I ≤ n
    · rw [if_pos h, if_pos (by omega)]; exact Int.add_assoc _ _ _
    · rw [if_neg h, if_neg (by omega)]; omega

theorem psum_conv (g : Nat → Int) (n : Nat) : ∀ f, psum f g n (n + 1) = conv f g n := by
  induction n with
  | zero => intro f; simp [psum, conv]
  | succ n ih => intro f; rw [psum_shift, ih, conv_succ]

theorem psum_more (f g : Nat → Int) (n : Nat) : ∀ k, psum f g n (n + 1 + k) = conv f g n := by
  intro k
  induction k with
  | zero => exact psum_conv g n f
  | succ k ih => rw [← Nat.add_assoc, psum_succ, ih, if_neg (by omega), Int.add_zero]

theorem psum_fin {f : Nat → Int} {A : Nat} (hf : Fin f A) (g : Nat → Int) (n : Nat) : ∀ k, psum f g n (A + k) = psum f g n A := by
  intro k
  induction k with
  | zero => rfl
  | succ k ih =>
    rw [← Nat.add_assoc, psum_succ, ih]
    by_cases h : A + k ≤ n
    · rw [if_pos h, hf _ (by omega), Int.zero_mul, Int.add_zero]
    · rw [if_neg h, Int.add_zero]

theorem psum_all {f : Nat → Int} {A : Nat} (hf : Fin f A) (g : Nat → Int) (n : Nat) : psum f g n A = conv f g n := by
  rcases (show A ≤ n + 1 ∨ n + 1 ≤ A by omega) with h | h
  · rw [← psum_conv g n f, show n + 1 = A + (n + 1 - A) from by omega, psum_fin hf]
  · rw [show A = n + 1 + (A - (n + 1)) from by omega, psum_more]

/-! ### Values -/
/-- The value at x of the polynomial with the first N coefficients of f (Horner). -/
def evf (x : Int) : Nat → (Nat → Int) → Int
  | 0, _ => 0
  | N + 1, f => f 0 + x * evf x N (fun i => f (i + 1))

theorem evf_succ (x : Int) (N : Nat) (f : Nat → Int) : evf x (N + 1) f = f 0 + x * evf x N (fun i => f (i + 1)) := rfl

theorem evf_add (x : Int) (N : Nat) : ∀ f g, evf x N (fun i => f i + g i) = evf x N f + evf x N g := by
  induction N with
  | zero => intro f g; rfl
  | succ N ih => intro f g; simp only [evf_succ]; rw [ih, Int.mul_add]; omega

theorem evf_mul (x k : Int) (N : Nat) : ∀ f, evf x N (fun i => k * f i) = k * evf x N f := by
  induction N with
  | zero => intro f; exact (Int.mul_zero k).symm
  | succ N ih => intro f; simp only [evf_succ]; rw [ih, Int.mul_add, Int.mul_left_comm]

theorem evf_null (x : Int) (N : Nat) : evf x N (fun _ => 0) = 0 := by
  induction N with
  | zero => rfl
  | succ N ih => rw [evf_succ, ih, Int.mul_zero]; rfl

theorem evf_fin (x : Int) (A : Nat) (k : Nat) : ∀ {f : Nat → Int}, Fin f A → evf x (A + k) f = evf x A f := by
  induction A with
  | zero =>
    intro f hf
    rw [show f = fun _ => 0 from funext fun i => hf i (by omega), evf_null, evf_null]
  | succ A ih =>
    intro f hf
    rw [show A + 1 + k = (A + k) + 1 from by omega, evf_succ, evf_succ, ih (f := fun i => f (i + 1)) fun i hi => hf (i + 1) (by omega)]

theorem evf_to {x : Int} {A M : Nat} {f : Nat → Int} (hf : Fin f A) (h : A ≤ M) : evf x M f = evf x A f := by
  rw [show M = A + (M - A) from by omega]; exact evf_fin x A _ hf

theorem evf_mod {p : Int} (x : Int) (N : Nat) : ∀ {f g : Nat → Int}, (∀ n, f n % p = g n % p) → evf x N f % p = evf x N g % p := by
  induction N with
  | zero => intro f g _; rfl
  | succ N ih => intro f g h; exact ma (h 0) (mm rfl (ih fun n => h (n + 1)))

theorem evf_conv (x : Int) {g : Nat → Int} {B : Nat} (hg : Fin g B) (A : Nat) : ∀ {f : Nat → Int} {M : Nat}, Fin f A → A + B ≤ M → evf x M (conv f g) = evf x A f * evf x B g := by
  induction A with
  | zero =>
    intro f M hf _
    rw [show conv f g = fun _ => 0 from funext fun n => by rw [show f = fun _ => 0 from funext fun i => hf i (by omega)]; exact conv_null g n, evf_null]
    exact (Int.zero_mul _).symm
  | succ A ih =>
    intro f M hf hM
    obtain ⟨M, rfl⟩ : ∃ M', M = M' + 1 := ⟨M - 1, by omega⟩
    have e : conv f g = fun i => (fun j => f 0 * g j) i + (fun j => match j with | 0 => 0 | j + 1 => conv (fun i => f (i + 1)) g j) i := by
      funext i; cases i with
      | zero => show f 0 * g 0 = f 0 * g 0 + 0; omega
      | succ i => rfl
    rw [e, evf_add, evf_mul, evf_to hg (by omega), evf_succ x M]
    show _ + (0 + x * evf x M (conv (fun i => f (i + 1)) g)) = _
    rw [ih (f := fun i => f (i + 1)) (fun i hi => hf (i + 1) (by omega)) (by omega), evf_succ x A]
    rw [Int.add_mul, Int.mul_assoc, Int.zero_add]

/-- The sum of the first N terms, with powers. -/
def evp (x : Int) (f : Nat → Int) : Nat → Int
  | 0 => 0
  | N + 1 => evp x f N + f N * x ^ N

theorem evp_shift (x : Int) (f : Nat → Int) : ∀ N, evp x f (N + 1) = f 0 + x * evp x (fun i => f (i + 1)) N := by
  intro N
  induction N with
  | zero => simp [evp]
  | succ N ih =>
    rw [evp, ih]
    show _ = f 0 + x * (evp x (fun i => f (i + 1)) N + f (N + 1) * x ^ N)
    rw [Int.mul_add, Int.pow_succ, Int.mul_comm (x ^ N) x, Int.mul_left_comm]; omega

theorem evp_eq (x : Int) (N : Nat) : ∀ f, evp x f N = evf x N f := by
  induction N with
  | zero => intro f; rfl
  | succ N ih => intro f; rw [evp_shift, ih, evf_succ]

/-! ### Zeros -/
/-- The quotient of a division of the first N + 1 coefficients of f by x - c. -/
def qf (c : Int) : Nat → (Nat → Int) → Nat → Int
  | 0, _, _ => 0
  | N + 1, f, 0 => evf c (N + 1) (fun i => f (i + 1))
  | N + 1, f, n + 1 => qf c N (fun i => f (i + 1)) n

theorem qf_top (c : Int) (N : Nat) : ∀ f, qf c (N + 1) f N = f (N + 1) := by
  induction N with
  | zero => intro f; show f 1 + c * 0 = f 1; omega
  | succ N ih => intro f; exact ih _

theorem qf_spec (x c : Int) (N : Nat) : ∀ f, evf x (N + 1) f - evf c (N + 1) f = (x - c) * evf x N (qf c N f) := by
  induction N with
  | zero => intro f; show f 0 + x * 0 - (f 0 + c * 0) = (x - c) * 0; omega
  | succ N ih =>
    intro f
    rw [evf_succ x (N + 1), evf_succ c (N + 1), evf_succ x N (qf c (N + 1) f)]
    show _ = (x - c) * (evf c (N + 1) (fun i => f (i + 1)) + x * evf x N (qf c N (fun i => f (i + 1))))
    have e := ih (fun i => f (i + 1))
    rw [Int.mul_add, Int.mul_left_comm (x - c) x, ← e, Int.mul_sub, Int.sub_mul]; omega

/-- A polynomial of degree N has at most N zeros. -/
theorem zeros_le {p : Int} (h : GoodI p) (N : Nat) : ∀ (f : Nat → Int) (L : List Int), f N % p ≠ 0 → L.Nodup → (∀ x ∈ L, 0 ≤ x ∧ x < p) →
    (∀ x ∈ L, evf x (N + 1) f % p = 0) → L.length ≤ N := by
  induction N with
  | zero =>
    intro f L hf _ _ hz
    cases L with
    | nil => exact Nat.le_refl _
    | cons c L => exact absurd (by have := hz c (by simp); rwa [show evf c (0 + 1) f = f 0 from by show f 0 + c * 0 = _; omega] at this) hf
  | succ N ih =>
    intro f L hf hn hb hz
    cases L with
    | nil => exact Nat.zero_le _
    | cons c L =>
      rw [List.nodup_cons] at hn
      have := ih (qf c (N + 1) f) L (by rw [qf_top]; exact hf) hn.2 (fun x hx => hb x (by simp [hx])) (by
        intro x hx
        have e := qf_spec x c (N + 1) f
        have e2 : (x - c) * evf x (N + 1) (qf c (N + 1) f) % p = 0 := by
          rw [← e, Int.sub_emod, hz x (by simp [hx]), hz c (by simp)]; rfl
        rcases noz h e2 with h1 | h1
        · exfalso
          have hx1 := hb x (by simp [hx])
          have hc1 := hb c (by simp)
          have hne : x ≠ c := fun e => hn.1 (e ▸ hx)
          have hd := Int.dvd_of_emod_eq_zero h1
          rcases (show x < c ∨ c < x by omega) with hlt | hlt
          · have := Int.le_of_dvd (show 0 < c - x by omega) ((Int.dvd_neg).1 (by rw [Int.neg_sub]; exact hd)); omega
          · have := Int.le_of_dvd (show 0 < x - c by omega) hd; omega
        · exact h1)
      simp only [List.length_cons]; omega

/-! ### Lists of coefficients -/
def co (f : List Int) (i : Nat) : Int := f[i]?.getD 0
/-- The length of the trimmed representation. -/
def tn : List Int → Nat
  | [] => 0
  | a :: as => if tn as = 0 ∧ a = 0 then 0 else tn as + 1
def trim (f : List Int) : List Int := f.take (tn f)
/-- Every coefficient is an element of the field. -/
def El (p : Int) (f : List Int) : Prop := ∀ x ∈ f, 0 ≤ x ∧ x < p

theorem co_nil (i : Nat) : co [] i = 0 := rfl
theorem co_zero (a : Int) (as : List Int) : co (a :: as) 0 = a := rfl
theorem co_succ (a : Int) (as : List Int) (i : Nat) : co (a :: as) (i + 1) = co as i := rfl
theorem co_fin (f : List Int) : Fin (co f) f.length := fun n hn => by unfold co; rw [List.getElem?_eq_none hn]; rfl
theorem co_at {f : List Int} {i : Nat} {x : Int} (h : f[i]? = some x) : co f i = x := by unfold co; rw [h]; rfl
theorem co_get {f : List Int} {i : Nat} (h : i < f.length) : co f i = f[i] := by unfold co; rw [List.getElem?_eq_getElem h]; rfl
theorem El.co {p : Int} {f : List Int} (h : El p f) (hp : 0 < p) (i : Nat) : 0 ≤ co f i ∧ co f i < p := by
  by_cases hi : i < f.length
  · rw [co_get hi]; exact h _ (List.getElem_mem hi)
  · rw [co_fin f i (by omega)]; omega
theorem El.cm {p : Int} {f : List Int} (h : El p f) (hp : 0 < p) (i : Nat) : PolyMath.co f i % p = PolyMath.co f i := small (h.co hp i).1 (h.co hp i).2
theorem El.nil (p : Int) : El p [] := fun _ h => absurd h (by simp)
theorem El.one {p : Int} (hp : 1 < p) : El p [1] := by
  intro x hx
  simp only [List.mem_singleton] at hx; subst hx; omega

theorem tn_le (f : List Int) : tn f ≤ f.length := by
  induction f with
  | nil => exact Nat.le_refl _
  | cons a as ih => unfold tn; split <;> simp only [List.length_cons] <;> omega
theorem tn_fin (f : List Int) : Fin (co f) (tn f) := by
  induction f with
  | nil => intro n _; rfl
  | cons a as ih =>
    intro n hn
    unfold tn at hn
    split at hn
    · rename_i h
      cases n with
      | zero => exact h.2
      | succ n => exact ih n (by omega)
    · cases n with
      | zero => omega
      | succ n => exact ih n (by omega)
theorem tn_top (f : List Int) (h : 0 < tn f) : co f (tn f - 1) ≠ 0 := by
  induction f with
  | nil => exact absurd h (by decide)
  | cons a as ih =>
    unfold tn at h ⊢
    split at h
    · omega
    · rename_i hn
      rw [if_neg hn, Nat.add_sub_cancel]
      by_cases h0 : tn as = 0
      · rw [h0]; exact fun e => hn ⟨h0, e⟩
      · rw [show tn as = (tn as - 1) + 1 from by omega, co_succ]; exact ih (by omega)
theorem tn_eq {f : List Int} {n : Nat} (h1 : Fin (co f) n) (h2 : 0 < n → co f (n - 1) ≠ 0) : tn f = n := by
  rcases Nat.lt_trichotomy (tn f) n with h | h | h
  · exact absurd (tn_fin f (n - 1) (by omega)) (h2 (by omega))
  · exact h
  · exact absurd (h1 (tn f - 1) (by omega)) (tn_top f (by omega))
theorem tn_same {a b : List Int} (h : ∀ i, co a i = co b i) : tn a = tn b :=
  tn_eq (fun n hn => by rw [h]; exact tn_fin b n hn) (fun h0 => by rw [h]; exact tn_top b h0)
theorem trim_length (f : List Int) : (trim f).length = tn f := by unfold trim; rw [List.length_take]; have := tn_le f; omega
theorem co_trim (f : List Int) (i : Nat) : co (trim f) i = co f i := by
  by_cases h : i < tn f
  · unfold trim co; rw [List.getElem?_take, if_pos h]
  · rw [co_fin (trim f) i (by rw [trim_length]; omega), tn_fin f i (by omega)]
theorem list_ext {a b : List Int} (hl : a.length = b.length) (h : ∀ i, co a i = co b i) : a = b := by
  apply List.ext_getElem hl
  intro i h1 h2
  have := h i
  rwa [co_get h1, co_get h2] at this
theorem trim_ext {a b : List Int} (h : ∀ i, co a i = co b i) : trim a = trim b :=
  list_ext (by rw [trim_length, trim_length, tn_same h]) fun i => by rw [co_trim, co_trim, h]
theorem tn_trim (f : List Int) : tn (trim f) = tn f := tn_same (co_trim f)
theorem trim_trim (f : List Int) : trim (trim f) = trim f := trim_ext (co_trim f)
theorem trim_of {f : List Int} (h : f = [] ∨ co f (f.length - 1) ≠ 0) : trim f = f := by
  have e : tn f = f.length := tn_eq (co_fin f) (fun h0 => h.resolve_left fun e => by rw [e] at h0; exact absurd h0 (by simp))
  unfold trim; rw [e, List.take_length]
theorem El.trim {p : Int} {f : List Int} (h : El p f) : El p (trim f) := fun x hx => h x (List.mem_of_mem_take hx)
theorem trim_nil_iff (f : List Int) : trim f = [] ↔ tn f = 0 := by
  rw [← trim_length]; exact List.length_eq_zero_iff.symm
theorem trim_nil {f : List Int} (h : ∀ i, co f i = 0) : trim f = [] := trim_ext (b := []) fun i => by rw [h, co_nil]

/-- The trimmed list of the first N values of c modulo p. -/
def nf (p : Int) (c : Nat → Int) (N : Nat) : List Int := trim ((List.range N).map fun n => c n % p)

theorem co_map (c : Nat → Int) (N i : Nat) : co ((List.range N).map c) i = if i < N then c i else 0 := by
  unfold co
  rw [List.getElem?_map]
  by_cases h : i < N
  · rw [if_pos h, List.getElem?_range h]; rfl
  · rw [if_neg h, List.getElem?_eq_none (by rw [List.length_range]; omega)]; rfl
theorem co_nf {p : Int} {c : Nat → Int} {N : Nat} (h : FinM p c N) (i : Nat) : co (nf p c N) i = c i % p := by
  unfold nf; rw [co_trim, co_map]
  by_cases hi : i < N
  · rw [if_pos hi]
  · rw [if_neg hi, h i (by omega)]
theorem nf_el {p : Int} (hp : 0 < p) (c : Nat → Int) (N : Nat) : El p (nf p c N) := by
  apply El.trim
  intro x hx
  obtain ⟨n, _, rfl⟩ := List.mem_map.1 hx
  exact md _ _ hp
theorem nf_trim (p : Int) (c : Nat → Int) (N : Nat) : trim (nf p c N) = nf p c N := trim_trim _
theorem nf_ext {p : Int} {c d : Nat → Int} {N M : Nat} (hc : FinM p c N) (hd : FinM p d M) (h : ∀ n, c n % p = d n % p) : nf p c N = nf p d M := by
  rw [← nf_trim p c, ← nf_trim p d]
  exact trim_ext fun i => by rw [co_nf hc, co_nf hd, h]
theorem nf_is {p : Int} {c : Nat → Int} {N : Nat} {f : List Int} (hc : FinM p c N) (ht : trim f = f) (h : ∀ n, c n % p = co f n) : nf p c N = f := by
  rw [← nf_trim p c, ← ht]
  exact trim_ext fun i => by rw [co_nf hc, h]
/-- A list of the coefficients wanted, trimmed. -/
theorem nf_of {p : Int} {c : Nat → Int} {N : Nat} {f : List Int} (hc : FinM p c N) (h : ∀ n, co f n = c n % p) : trim f = nf p c N := by
  rw [← nf_trim p c]
  exact trim_ext fun i => by rw [co_nf hc, h]

/-! ### The operations -/
def padd (p : Int) (a b : List Int) : List Int := nf p (fun n => co a n + co b n) (max a.length b.length)
def psub (p : Int) (a b : List Int) : List Int := nf p (fun n => co a n - co b n) (max a.length b.length)
def pscl (p k : Int) (a : List Int) : List Int := nf p (fun n => k * co a n) a.length
def pmul (p : Int) (a b : List Int) : List Int := nf p (conv (co a) (co b)) (a.length + b.length - 1)
def pev (p : Int) (a : List Int) (x : Int) : Int := evf x a.length (co a) % p

theorem padd_fin (a b : List Int) : Fin (fun n => co a n + co b n) (max a.length b.length) := fun n hn => by
  show co a n + co b n = 0; rw [co_fin a n (by omega), co_fin b n (by omega)]; rfl
theorem psub_fin (a b : List Int) : Fin (fun n => co a n - co b n) (max a.length b.length) := fun n hn => by
  show co a n - co b n = 0; rw [co_fin a n (by omega), co_fin b n (by omega)]; rfl
theorem pscl_fin (k : Int) (a : List Int) : Fin (fun n => k * co a n) a.length := fun n hn => by
  show k * co a n = 0; rw [co_fin a n (by omega), Int.mul_zero]
theorem pmul_fin (a b : List Int) : Fin (conv (co a) (co b)) (a.length + b.length - 1) := conv_fin (co_fin b) _ (co_fin a)

theorem co_padd (p : Int) (a b : List Int) (n : Nat) : co (padd p a b) n = (co a n + co b n) % p := co_nf (padd_fin a b).mod n
theorem co_psub (p : Int) (a b : List Int) (n : Nat) : co (psub p a b) n = (co a n - co b n) % p := co_nf (psub_fin a b).mod n
theorem co_pscl (p k : Int) (a : List Int) (n : Nat) : co (pscl p k a) n = k * co a n % p := co_nf (pscl_fin k a).mod n
theorem co_pmul (p : Int) (a b : List Int) (n : Nat) : co (pmul p a b) n = conv (co a) (co b) n % p := co_nf (pmul_fin a b).mod n

theorem padd_trim (p : Int) (a b : List Int) : trim (padd p a b) = padd p a b := nf_trim _ _ _
theorem psub_trim (p : Int) (a b : List Int) : trim (psub p a b) = psub p a b := nf_trim _ _ _
theorem pscl_trim (p k : Int) (a : List Int) : trim (pscl p k a) = pscl p k a := nf_trim _ _ _
theorem pmul_trim (p : Int) (a b : List Int) : trim (pmul p a b) = pmul p a b := nf_trim _ _ _
theorem padd_el {p : Int} (hp : 0 < p) (a b : List Int) : El p (padd p a b) := nf_el hp _ _
theorem psub_el {p : Int} (hp : 0 < p) (a b : List Int) : El p (psub p a b) := nf_el hp _ _
theorem pscl_el {p : Int} (hp : 0 < p) (k : Int) (a : List Int) : El p (pscl p k a) := nf_el hp _ _
theorem pmul_el {p : Int} (hp : 0 < p) (a b : List Int) : El p (pmul p a b) := nf_el hp _ _
theorem nf_len (p : Int) (c : Nat → Int) (N : Nat) : (nf p c N).length ≤ N := by
  unfold nf; rw [trim_length]; have := tn_le ((List.range N).map fun n => c n % p); rw [List.length_map, List.length_range] at this; exact this
theorem padd_len (p : Int) (a b : List Int) : (padd p a b).length ≤ max a.length b.length := nf_len _ _ _
theorem psub_len (p : Int) (a b : List Int) : (psub p a b).length ≤ max a.length b.length := nf_len _ _ _
theorem pscl_len (p k : Int) (a : List Int) : (pscl p k a).length ≤ a.length := nf_len _ _ _
theorem pmul_len (p : Int) (a b : List Int) : (pmul p a b).length ≤ a.length + b.length - 1 := nf_len _ _ _
theorem pev_bd {p : Int} (hp : 0 < p) (a : List Int) (x : Int) : 0 ≤ pev p a x ∧ pev p a x < p := md _ _ hp

/-- Two trimmed lists with the same coefficients. -/
theorem same_of {a b : List Int} (ha : trim a = a) (hb : trim b = b) (h : ∀ n, co a n = co b n) : a = b := by rw [← ha, ← hb]; exact trim_ext h

/-- The reference's difference: adding p - 1 times the other. -/
theorem psub_ref (p : Int) (a b : List Int) : padd p a (pscl p (p - 1) b) = psub p a b :=
  same_of (padd_trim _ _ _) (psub_trim _ _ _) fun n => by
    rw [co_padd, co_psub, co_pscl, Int.add_emod_emod, Int.sub_mul, Int.one_mul, show co a n + (p * co b n - co b n) = co a n - co b n + p * co b n from by omega, Int.add_mul_emod_self_left]

/-! ### The ring -/
theorem padd_assoc (p : Int) (a b c : List Int) : padd p (padd p a b) c = padd p a (padd p b c) :=
  same_of (padd_trim _ _ _) (padd_trim _ _ _) fun n => by
    rw [co_padd, co_padd, co_padd, co_padd, Int.emod_add_emod, Int.add_emod_emod, Int.add_assoc]
theorem padd_comm (p : Int) (a b : List Int) : padd p a b = padd p b a :=
  same_of (padd_trim _ _ _) (padd_trim _ _ _) fun n => by rw [co_padd, co_padd, Int.add_comm]
theorem pmul_comm (p : Int) (a b : List Int) : pmul p a b = pmul p b a :=
  same_of (pmul_trim _ _ _) (pmul_trim _ _ _) fun n => by rw [co_pmul, co_pmul, conv_comm]
theorem pmul_assoc (p : Int) (a b c : List Int) : pmul p (pmul p a b) c = pmul p a (pmul p b c) :=
  same_of (pmul_trim _ _ _) (pmul_trim _ _ _) fun n => by
    rw [co_pmul, co_pmul, conv_mod (p := p) (g' := co c) (fun _ => rfl) n (f' := conv (co a) (co b)) (fun m => by rw [co_pmul, mdd]),
      conv_mod (p := p) (g := co (pmul p b c)) (g' := conv (co b) (co c)) (fun m => by rw [co_pmul, mdd]) n (f' := co a) (fun _ => rfl), conv_assoc]
theorem pmul_padd (p : Int) (a b c : List Int) : pmul p a (padd p b c) = padd p (pmul p a b) (pmul p a c) :=
  same_of (pmul_trim _ _ _) (padd_trim _ _ _) fun n => by
    rw [co_pmul, co_padd, co_pmul, co_pmul, conv_mod (p := p) (g := co (padd p b c)) (g' := fun i => co b i + co c i) (fun m => by rw [co_padd, mdd]) n (f' := co a) (fun _ => rfl),
      conv_add_right, Int.add_emod]
theorem psub_padd {p : Int} (hp : 0 < p) {a : List Int} (ha : El p a) (b : List Int) : padd p (psub p a b) b = trim a :=
  same_of (padd_trim _ _ _) (trim_trim _) fun n => by
    rw [co_padd, co_psub, co_trim, Int.emod_add_emod, show co a n - co b n + co b n = co a n from by omega, ha.cm hp]
theorem psub_self (p : Int) (a : List Int) : psub p a a = [] :=
  same_of (psub_trim _ _ _) rfl fun n => by rw [co_psub, Int.sub_self, Int.zero_emod, co_nil]

/-- The degree of a product. -/
theorem tn_pmul {p : Int} (h : GoodI p) {a b : List Int} (ha : El p a) (hb : El p b) (h1 : 0 < tn a) (h2 : 0 < tn b) : tn (pmul p a b) = tn a + tn b - 1 := by
  have hp := h.two
  have fa := tn_fin a
  have fb := tn_fin b
  apply tn_eq
  · intro n hn; rw [co_pmul, conv_fin fb _ fa n hn, Int.zero_emod]
  · intro _
    rw [co_pmul, show tn a + tn b - 1 - 1 = (tn a - 1) + (tn b - 1) from by omega,
      conv_top (B := tn b - 1) (fun n hn => fb n (by omega)) (tn a - 1) (fun n hn => fa n (by omega))]
    intro e
    rcases noz h e with e | e
    · rw [ha.cm (by omega)] at e; exact tn_top a h1 e
    · rw [hb.cm (by omega)] at e; exact tn_top b h2 e

theorem pmul_nil {p : Int} {a b : List Int} (h : tn a = 0 ∨ tn b = 0) : pmul p a b = [] := by
  rw [← pmul_trim]
  apply trim_nil
  intro n
  rw [co_pmul]
  rcases h with h | h
  · rw [show co a = fun _ => 0 from funext fun i => tn_fin a i (by omega), conv_null, Int.zero_emod]
  · rw [conv_comm, show co b = fun _ => 0 from funext fun i => tn_fin b i (by omega), conv_null, Int.zero_emod]

/-! ### Values -/
theorem pev_padd (p : Int) (a b : List Int) (x : Int) : pev p (padd p a b) x = fadd p (pev p a x) (pev p b x) := by
  unfold pev fadd
  have h1 : (padd p a b).length ≤ max a.length b.length := padd_len p a b
  rw [← evf_to (x := x) (co_fin (padd p a b)) h1, evf_mod (p := p) x _ (g := fun i => co a i + co b i) (fun n => by rw [co_padd, mdd]), evf_add,
    evf_to (co_fin a) (by omega), evf_to (co_fin b) (by omega), Int.add_emod]
theorem pev_pmul (p : Int) (a b : List Int) (x : Int) : pev p (pmul p a b) x = fmul p (pev p a x) (pev p b x) := by
  unfold pev fmul
  have h1 : (pmul p a b).length ≤ a.length + b.length := by have := pmul_len p a b; omega
  rw [← evf_to (x := x) (co_fin (pmul p a b)) h1, evf_mod (p := p) x _ (g := conv (co a) (co b)) (fun n => by rw [co_pmul, mdd]),
    evf_conv x (co_fin b) _ (co_fin a) (Nat.le_refl _), Int.mul_emod]
theorem pev_ext (p : Int) {a b : List Int} (h : ∀ i, co a i = co b i) (x : Int) : pev p a x = pev p b x := by
  unfold pev
  rw [← evf_to (x := x) (co_fin a) (Nat.le_max_left a.length b.length), ← evf_to (x := x) (co_fin b) (Nat.le_max_right a.length b.length), show co a = co b from funext h]
theorem pev_trim (p : Int) (a : List Int) (x : Int) : pev p (trim a) x = pev p a x := pev_ext p (co_trim a) x

/-! ### Division -/
/-- a = q b + r, and r is shorter than b. -/
structure DM (p : Int) (a b q r : List Int) : Prop where
  qt : trim q = q
  rt : trim r = r
  qe : El p q
  re : El p r
  lt : r.length < tn b
  eq : ∀ n, (conv (co q) (co b) n + co r n) % p = co a n % p

theorem DM.unique {p : Int} (h : GoodI p) {a b q r q' r' : List Int} (hb : El p b) (h1 : DM p a b q r) (h2 : DM p a b q' r') : q = q' ∧ r = r' := by
  have hp := h.two
  have hb0 : 0 < tn b := by have := h1.lt; omega
  have key : ∀ n, conv (fun i => co q i - co q' i) (co b) n % p = (co r' n - co r n) % p := by
    intro n
    have e := ms (h1.eq n) (h2.eq n)
    rw [Int.sub_self, Int.zero_emod] at e
    rw [conv_sub_left]
    have e2 := ma (e.trans (Int.zero_emod p).symm) (show (co r' n - co r n) % p = (co r' n - co r n) % p from rfl)
    rw [Int.zero_add] at e2
    rw [← e2]; congr 1; omega
  -- from N on the quotients agree
  have down : ∀ k N, q.length + q'.length ≤ N + k → ∀ n, N ≤ n → (co q n - co q' n) % p = 0 := by
    intro k
    induction k with
    | zero => intro N hN n hn; rw [co_fin q n (by omega), co_fin q' n (by omega)]; exact Int.zero_emod p
    | succ k ih =>
      intro N hN n hn
      by_cases hlt : N + 1 ≤ n
      · exact ih (N + 1) (by omega) n hlt
      · obtain rfl : n = N := by omega
        have up := ih (n + 1) (by omega)
        have e := key (n + (tn b - 1))
        have t : conv (fun i => co q i - co q' i) (co b) (n + (tn b - 1)) % p = (co q n - co q' n) * co b (tn b - 1) % p := by
          rw [conv_mod (p := p) (g' := co b) (fun _ => rfl) _ (f' := fun i => if i ≤ n then co q i - co q' i else 0) (fun m => by
            show _ = (if m ≤ n then co q m - co q' m else 0) % p
            by_cases hm : m ≤ n
            · rw [if_pos hm]
            · rw [if_neg hm, up m (by omega), Int.zero_emod])]
          rw [conv_top (B := tn b - 1) (fun m hm => tn_fin b m (by omega)) n (fun m hm => by show (if m ≤ n then _ else _) = 0; rw [if_neg (by omega)])]
          show (if n ≤ n then co q n - co q' n else 0) * _ % p = _
          rw [if_pos (Nat.le_refl _)]
        rw [t, co_fin r' _ (by have := h2.lt; omega), co_fin r _ (by have := h1.lt; omega), Int.sub_self, Int.zero_emod] at e
        rcases noz h e with e | e
        · exact e
        · rw [hb.cm (by omega)] at e; exact absurd e (tn_top b hb0)
  have eqm : ∀ {x y : Int}, 0 ≤ x ∧ x < p → 0 ≤ y ∧ y < p → (x - y) % p = 0 → x = y := by
    intro x y hx hy e
    have hd := Int.dvd_of_emod_eq_zero e
    rcases (show x < y ∨ x = y ∨ y < x by omega) with hlt | he | hlt
    · have := Int.le_of_dvd (show 0 < y - x by omega) ((Int.dvd_neg).1 (by rw [Int.neg_sub]; exact hd)); omega
    · exact he
    · have := Int.le_of_dvd (show 0 < x - y by omega) hd; omega
  have zero := fun n => down (q.length + q'.length) 0 (by omega) n (Nat.zero_le _)
  refine ⟨same_of h1.qt h2.qt fun n => eqm (h1.qe.co (by omega) n) (h2.qe.co (by omega) n) (zero n), same_of h1.rt h2.rt fun n => ?_⟩
  have e := key n
  rw [conv_mod (p := p) (g' := co b) (fun _ => rfl) n (f' := fun _ => 0) (fun m => by rw [zero m, Int.zero_emod]), conv_null, Int.zero_emod] at e
  exact (eqm (h2.re.co (by omega) n) (h1.re.co (by omega) n) e.symm).symm

theorem DM.back {p : Int} (hp : 0 < p) {a b q r : List Int} (ha : El p a) (h : DM p a b q r) : padd p (pmul p q b) r = trim a :=
  same_of (padd_trim _ _ _) (trim_trim _) fun n => by rw [co_padd, co_pmul, co_trim, Int.emod_add_emod, h.eq, ha.cm hp]

theorem DM.make {p : Int} {q b r : List Int} (hq : El p q) (hr : El p r) (hl : tn r < tn b) : DM p (padd p (pmul p q b) r) b (trim q) (trim r) where
  qt := trim_trim _
  rt := trim_trim _
  qe := hq.trim
  re := hr.trim
  lt := by rw [trim_length]; exact hl
  eq := fun n => by rw [co_padd, co_pmul, co_trim, Int.emod_add_emod, mdd, conv_ext (co_trim q) (fun _ => rfl)]

/-- The remainder of a division by x - c is the value at c. -/
theorem DM.value {p : Int} (hp : 1 < p) {a q r : List Int} {c : Int} (h : DM p a [(p - c) % p, 1] q r) : r.length ≤ 1 ∧ co r 0 = pev p a c := by
  have ht : tn [(p - c) % p, 1] = 2 := by simp [tn]
  have hl : r.length ≤ 1 := by have := h.lt; omega
  refine ⟨hl, ?_⟩
  have hr := h.re.co (by omega) 0
  unfold pev
  have e : evf c (max (q.length + 2) a.length) (fun n => conv (co q) (co [(p - c) % p, 1]) n + co r n) % p = evf c (max (q.length + 2) a.length) (co a) % p :=
    evf_mod (p := p) c _ h.eq
  rw [evf_add, evf_conv c (co_fin [(p - c) % p, 1]) _ (co_fin q) (show q.length + 2 ≤ _ by omega), evf_to (co_fin a) (by omega), evf_to (co_fin r) (by omega)] at e
  rw [← e]
  have e1 : evf c [(p - c) % p, 1].length (co [(p - c) % p, 1]) % p = 0 := by
    show ((p - c) % p + c * (1 + c * 0)) % p = 0
    rw [Int.mul_zero, Int.add_zero, Int.mul_one, Int.emod_add_emod, Int.sub_add_cancel, Int.emod_self]
  have e2 : evf c r.length (co r) = co r 0 := by
    rw [← evf_to (co_fin r) hl]; show co r 0 + c * 0 = _; omega
  rw [e2, ma (mm (show evf c q.length (co q) % p = _ from rfl) (e1.trans (Int.zero_emod p).symm)) rfl, Int.mul_zero, Int.zero_add, small hr.1 hr.2]

/-- One step of a division: taking the multiple of b that cancels the leading coefficient. -/
theorem div_step {p : Int} {a b r q t : List Int} (h : ∀ n, (conv (co q) (co b) n + co r n) % p = co a n % p) :
    ∀ n, (conv (co (padd p q t)) (co b) n + co (psub p r (pmul p t b)) n) % p = co a n % p := by
  intro n
  rw [co_psub, co_pmul, ← h n]
  have e1 := conv_mod (p := p) (g' := co b) (fun _ => rfl) n (f := co (padd p q t)) (f' := fun i => co q i + co t i) (fun m => by rw [co_padd, mdd])
  rw [conv_add_left] at e1
  rw [Int.add_emod_emod]
  have e2 := ma e1 (ms (show co r n % p = _ from rfl) (mdd p (conv (co t) (co b) n)))
  rw [e2]; congr 1; omega

/-! ### Products of factors x - c -/
def prodX (p : Int) : List Int → List Int → List Int
  | m, [] => m
  | m, c :: cs => prodX p (pmul p m [(p - c) % p, 1]) cs

theorem pev_lin {p : Int} (c x : Int) : pev p [(p - c) % p, 1] x = (x - c) % p := by
  show ((p - c) % p + x * (1 + x * 0)) % p = _
  rw [Int.mul_zero, Int.add_zero, Int.mul_one, Int.emod_add_emod, show p - c + x = x - c + p * 1 from by omega, Int.add_mul_emod_self_left]

theorem el_lin {p : Int} (hp : 1 < p) (c : Int) : El p [(p - c) % p, 1] := by
  intro x hx
  simp only [List.mem_cons, List.not_mem_nil, or_false] at hx
  rcases hx with rfl | rfl
  · exact md _ _ (by omega)
  · omega

theorem prodX_tn {p : Int} (h : GoodI p) : ∀ (cs m : List Int), El p m → 0 < tn m → tn (prodX p m cs) = tn m + cs.length := by
  have hp := h.two
  intro cs
  induction cs with
  | nil => intro m _ _; rfl
  | cons c cs ih =>
    intro m hm h0
    have e := tn_pmul h hm (el_lin (p := p) (by omega) c) h0 (by simp [tn])
    rw [show tn [(p - c) % p, 1] = 2 from by simp [tn]] at e
    show tn (prodX p (pmul p m [(p - c) % p, 1]) cs) = _
    rw [ih _ (pmul_el (by omega) _ _) (by omega), e, List.length_cons]; omega

theorem prodX_zero {p : Int} (h : GoodI p) : ∀ (cs m : List Int) (x : Int), 0 ≤ x ∧ x < p → El p cs → (pev p (prodX p m cs) x = 0 ↔ pev p m x = 0 ∨ x ∈ cs) := by
  have hp := h.two
  intro cs
  induction cs with
  | nil => intro m x _ _; simp [prodX]
  | cons c cs ih =>
    intro m x hx hc
    show pev p (prodX p (pmul p m [(p - c) % p, 1]) cs) x = 0 ↔ _
    rw [ih _ x hx (fun y hy => hc y (by simp [hy])), pev_pmul, pev_lin, List.mem_cons]
    have hcb := hc c (by simp)
    have hm := pev_bd (p := p) (by omega) m x
    constructor
    · rintro (e | e)
      · unfold fmul at e
        rcases noz h e with e | e
        · left; rwa [small hm.1 hm.2] at e
        · right; left
          rw [mdd] at e
          have hd := Int.dvd_of_emod_eq_zero e
          rcases (show x < c ∨ x = c ∨ c < x by omega) with hlt | he | hlt
          · have := Int.le_of_dvd (show 0 < c - x by omega) ((Int.dvd_neg).1 (by rw [Int.neg_sub]; exact hd)); omega
          · exact he
          · have := Int.le_of_dvd (show 0 < x - c by omega) hd; omega
      · exact .inr (.inr e)
    · rintro (e | e | e)
      · left; rw [e]; unfold fmul; rw [Int.zero_mul, Int.zero_emod]
      · left; rw [e, Int.sub_self, Int.zero_emod]; exact fmul_zero _ _
      · exact .inr e

/-- A nonzero polynomial has at most as many zeros in a list of different elements as its degree. -/
theorem zeros_list {p : Int} (h : GoodI p) {a : List Int} (ha : El p a) (h0 : 0 < tn a) {L : List Int} (hn : L.Nodup) (hb : ∀ x ∈ L, 0 ≤ x ∧ x < p) (hz : ∀ x ∈ L, pev p a x = 0) : L.length ≤ tn a - 1 := by
  have hp := h.two
  apply zeros_le h (tn a - 1) (co a) L (by rw [ha.cm (by omega)]; exact tn_top a h0) hn hb
  intro x hx
  have := hz x hx
  unfold pev at this
  rw [show tn a - 1 + 1 = tn a from by omega, ← evf_to (tn_fin a) (tn_le a)]
  exact this

end PolyMath

/- Plain facts for loops over coefficients, with no Go in sight: the partial sums of a product and of a value, one step of a division, counting zeros. No conditions but those said. -/
namespace PolyMath
open FieldMath

theorem fadd_mod (p x a b : Int) : fadd p (x % p) (fmul p a b) = (x + a * b) % p := by unfold fadd fmul; rw [← Int.add_emod]
theorem fsub_mod (p x a b : Int) : fsub p (x % p) (fmul p a b) = (x - a * b) % p := by unfold fsub fmul; rw [← Int.sub_emod]

/-! ### Lists made by a loop -/
theorem map_next (c : Nat → Int) (k : Nat) : (List.range (k + 1)).map c = (List.range k).map c ++ [c k] := by
  rw [List.range_succ, List.map_append]; rfl
theorem map_get (c : Nat → Int) {N k : Nat} (h : k < N) : ((List.range N).map c)[k]? = some (c k) := by
  rw [List.getElem?_map, List.getElem?_range h]; rfl
theorem map_ext {c d : Nat → Int} {N : Nat} (h : ∀ n, n < N → c n = d n) : (List.range N).map c = (List.range N).map d :=
  List.map_congr_left fun n hn => h n (List.mem_range.1 hn)
theorem map_set {c d : Nat → Int} (N j : Nat) {v : Int} (h1 : d j = v) (h2 : ∀ n, n ≠ j → d n = c n) : ((List.range N).map c).set j v = (List.range N).map d := by
  apply List.ext_getElem?
  intro n
  by_cases hn : n < N
  · rw [List.getElem?_set, map_get d hn]
    by_cases e : j = n
    · subst e; rw [if_pos rfl, if_pos (by simpa using hn), h1]
    · rw [if_neg e, map_get c hn, h2 n (fun h => e h.symm)]
  · rw [List.getElem?_eq_none (by simp; omega), List.getElem?_eq_none (by simp; omega)]
theorem map_zero (p : Int) (N : Nat) : (List.range N).map (fun _ => (0 : Int) % p) = List.replicate N 0 := by
  rw [Int.zero_emod, List.map_const', List.length_range]
theorem list_map (xs : List Int) : (List.range xs.length).map (co xs) = xs := by
  apply List.ext_getElem (by simp)
  intro n h1 h2
  rw [List.getElem_map, List.getElem_range, co_get h2]

/-! ### A product, entry by entry -/
/-- The sum made of coefficient n behind I rows and K entries of the next. -/
def mulAt (f g : Nat → Int) (I K n : Nat) : Int := psum f g n I + if I ≤ n ∧ n < I + K then f I * g (n - I) else 0
theorem mulAt_zero (f g : Nat → Int) (I n : Nat) : mulAt f g I 0 n = psum f g n I := by unfold mulAt; rw [if_neg (by omega), Int.add_zero]
theorem mulAt_here (f g : Nat → Int) (I K : Nat) : mulAt f g I (K + 1) (I + K) = mulAt f g I K (I + K) + f I * g K := by
  unfold mulAt; rw [if_pos (by omega), if_neg (by omega), Int.add_zero, Nat.add_sub_cancel_left]
theorem mulAt_else (f g : Nat → Int) (I K n : Nat) (h : n ≠ I + K) : mulAt f g I (K + 1) n = mulAt f g I K n := by
  unfold mulAt
  by_cases h1 : I ≤ n ∧ n < I + K
  · rw [if_pos h1, if_pos (by omega)]
  · rw [if_neg h1, if_neg (by omega)]
theorem mulAt_full {g : Nat → Int} {B : Nat} (hg : Fin g B) (f : Nat → Int) (I n : Nat) : mulAt f g I B n = psum f g n (I + 1) := by
  unfold mulAt
  rw [psum_succ]
  by_cases h1 : I ≤ n
  · rw [if_pos h1]
    by_cases h2 : n < I + B
    · rw [if_pos ⟨h1, h2⟩]
    · rw [if_neg (by omega), hg (n - I) (by omega), Int.mul_zero]
  · rw [if_neg h1, if_neg (by omega)]
theorem psum_zero (f g : Nat → Int) (n : Nat) : psum f g n 0 = 0 := rfl

/-- The list of a product's entries in the midst of the loops. -/
def mulL (p : Int) (a b : List Int) (N I K : Nat) : List Int := (List.range N).map fun n => mulAt (co a) (co b) I K n % p
theorem mulL_len (p : Int) (a b : List Int) (N I K : Nat) : (mulL p a b N I K).length = N := by unfold mulL; simp
theorem mulL_start (p : Int) (a b : List Int) (N : Nat) : mulL p a b N 0 0 = List.replicate N 0 := by
  rw [← map_zero p]; exact map_ext fun n _ => by rw [mulAt_zero]; rfl
theorem mulL_get (p : Int) (a b : List Int) (N I K n : Nat) (h : n < N) : (mulL p a b N I K)[n]? = some (mulAt (co a) (co b) I K n % p) := map_get (fun n => mulAt (co a) (co b) I K n % p) h
theorem mulL_set (p : Int) (a b : List Int) (N I K : Nat) : (mulL p a b N I K).set (I + K) (fadd p (mulAt (co a) (co b) I K (I + K) % p) (fmul p (co a I) (co b K))) = mulL p a b N I (K + 1) :=
  map_set N (I + K) (by rw [mulAt_here, fadd_mod]) fun n hn => by rw [mulAt_else _ _ _ _ _ hn]
theorem mulL_row (p : Int) (a b : List Int) (N I : Nat) : mulL p a b N I b.length = mulL p a b N (I + 1) 0 :=
  map_ext fun n _ => by rw [mulAt_full (co_fin b), mulAt_zero]
theorem mulL_done (p : Int) (a b : List Int) : trim (mulL p a b (a.length + b.length - 1) a.length 0) = pmul p a b := by
  unfold mulL pmul nf
  congr 1
  exact map_ext fun n _ => by rw [mulAt_zero, psum_all (co_fin a)]

/-! ### Values -/
theorem evp_next (p x : Int) (f : Nat → Int) (k : Nat) : fadd p (evp x f k % p) (fmul p (f k) (x ^ k % p)) = evp x f (k + 1) % p := by
  unfold fadd fmul
  rw [show evp x f (k + 1) = evp x f k + f k * x ^ k from rfl, ← Int.add_emod, Int.add_emod, Int.mul_emod, mdd, ← Int.mul_emod, ← Int.add_emod]
theorem pow_next (p x : Int) (k : Nat) : fmul p (x ^ k % p) x = x ^ (k + 1) % p := by
  unfold fmul; rw [Int.pow_succ, Int.mul_emod, mdd, ← Int.mul_emod]
theorem pev_evp (p x : Int) (a : List Int) : evp x (co a) a.length % p = pev p a x := by unfold pev; rw [evp_eq]
/-- One step of Horner's rule, from the top. -/
theorem horner (p x : Int) (f : Nat → Int) (k m : Nat) : fadd p (fmul p (evf x k (fun i => f (i + (m + 1))) % p) x) (f m) = evf x (k + 1) (fun i => f (i + m)) % p := by
  unfold fadd fmul
  rw [evf_succ, Int.mul_emod, mdd, ← Int.mul_emod, Int.emod_add_emod, Int.add_comm, Int.mul_comm]
  show (f m + _) % p = (f (0 + m) + x * evf x k (fun i => f (i + 1 + m))) % p
  rw [Nat.zero_add, show (fun i => f (i + 1 + m)) = fun i => f (i + (m + 1)) from funext fun i => by rw [Nat.add_assoc, Nat.add_comm 1 m]]

/-! ### Division -/
theorem conv_mono (c : Int) (g : Nat → Int) (d : Nat) : ∀ n, conv (fun i => if i = d then c else 0) g n = if d ≤ n then c * g (n - d) else 0 := by
  induction d with
  | zero =>
    intro n
    rw [if_pos (Nat.zero_le _)]
    cases n with
    | zero => rfl
    | succ n =>
      rw [conv_succ, show (fun i => if i + 1 = 0 then c else 0) = fun _ => (0 : Int) from funext fun i => if_neg (by omega), conv_null, Int.add_zero]; rfl
  | succ d ih =>
    intro n
    cases n with
    | zero => rw [conv_zero, if_neg (by omega), if_neg (by omega), Int.zero_mul]
    | succ n =>
      rw [conv_succ, if_neg (by omega), Int.zero_mul, Int.zero_add, show (fun i => if i + 1 = d + 1 then c else 0) = fun i => if i = d then c else 0 from funext fun i => by simp, ih, show n + 1 - (d + 1) = n - d from by omega]
      by_cases h : d ≤ n
      · rw [if_pos h, if_pos (by omega)]
      · rw [if_neg h, if_neg (by omega)]

/-- The list of the monomial c x^d. -/
theorem co_mono (c : Int) (d n : Nat) : co (List.replicate d 0 ++ [c]) n = if n = d then c else 0 := by
  unfold co
  rcases Nat.lt_trichotomy n d with h | h | h
  · rw [if_neg (by omega), List.getElem?_append_left (by simpa using h), List.getElem?_replicate, if_pos h]; rfl
  · subst h; rw [if_pos rfl, List.getElem?_append_right (by simp)]; simp
  · rw [if_neg (by omega), List.getElem?_eq_none (by simp; omega)]; rfl
theorem el_mono {p c : Int} (hc : 0 ≤ c ∧ c < p) (d : Nat) : El p (List.replicate d 0 ++ [c]) := by
  intro x hx
  rw [List.mem_append] at hx
  rcases hx with hx | hx
  · have := (List.mem_replicate.1 hx).2; omega
  · have := List.mem_singleton.1 hx; omega
theorem set_mono (c : Int) (d : Nat) : (List.replicate (d + 1) (0 : Int)).set d c = List.replicate d 0 ++ [c] := by
  rw [List.replicate_succ', List.set_append_right _ _ (by simp)]; simp

theorem tn_fin_le {f : List Int} {n : Nat} (h : Fin (co f) n) : tn f ≤ n := by
  rcases (show tn f ≤ n ∨ n < tn f by omega) with h1 | h1
  · exact h1
  · exact absurd (h (tn f - 1) (by omega)) (tn_top f (by omega))

/-- What is left behind a step of a division is shorter. -/
theorem div_less {p inv : Int} {r b : List Int} (h0 : 0 < b.length) (hl : b.length ≤ r.length)
    (hi : fmul p (co b (b.length - 1)) inv = 1) :
    (psub p r (pmul p (List.replicate (r.length - b.length) 0 ++ [fmul p (co r (r.length - 1)) inv]) b)).length < r.length := by
  rw [← psub_trim, trim_length]
  have : tn (psub p r (pmul p (List.replicate (r.length - b.length) 0 ++ [fmul p (co r (r.length - 1)) inv]) b)) ≤ r.length - 1 := by
    apply tn_fin_le
    intro n hn
    rw [co_psub, co_pmul, conv_ext (co_mono _ _) (fun _ => rfl), conv_mono]
    by_cases e : n = r.length - 1
    · subst e
      rw [if_pos (by omega), show r.length - 1 - (r.length - b.length) = b.length - 1 from by omega]
      have e1 : fmul p (co r (r.length - 1)) inv * co b (b.length - 1) % p = co r (r.length - 1) % p := by
        have e2 : fmul p (fmul p (co r (r.length - 1)) inv) (co b (b.length - 1)) = fmul p (co r (r.length - 1)) 1 := by rw [fmul_assoc, fmul_comm p inv, hi]
        unfold fmul at e2 ⊢
        rw [e2, Int.mul_one]
      rw [e1, Int.sub_emod, mdd, Int.sub_self, Int.zero_emod]
    · rw [co_fin r n (by omega)]
      by_cases h2 : r.length - b.length ≤ n
      · rw [if_pos h2, co_fin b _ (by omega), Int.mul_zero]; simp
      · rw [if_neg h2]; simp
  omega

/-- One step of a division, said of coefficient functions. -/
theorem step_f {p : Int} {q q' r r' b a t : Nat → Int} (h : ∀ n, (conv q b n + r n) % p = a n % p) (hq : ∀ n, q' n % p = (q n + t n) % p) (hr : ∀ n, r' n % p = (r n - conv t b n) % p) :
    ∀ n, (conv q' b n + r' n) % p = a n % p := by
  intro n
  have e1 := conv_mod (p := p) (g' := b) (fun _ => rfl) n (f := q') (f' := fun i => q i + t i) hq
  rw [conv_add_left] at e1
  rw [← h n, ma e1 (hr n)]; congr 1; omega

/-- The remainder while a row of b is being taken away, c b_k at place d + k for the first k of b. -/
def remAt (r b : Nat → Int) (c : Int) (d k n : Nat) : Int := r n - if d ≤ n ∧ n < d + k then c * b (n - d) else 0
theorem remAt_zero (r b : Nat → Int) (c : Int) (d n : Nat) : remAt r b c d 0 n = r n := by unfold remAt; rw [if_neg (by omega), Int.sub_zero]
theorem remAt_here (r b : Nat → Int) (c : Int) (d k : Nat) : remAt r b c d (k + 1) (d + k) = remAt r b c d k (d + k) - c * b k := by
  unfold remAt; rw [if_pos (by omega), if_neg (by omega), Int.sub_zero, Nat.add_sub_cancel_left]
theorem remAt_else (r b : Nat → Int) (c : Int) (d k n : Nat) (h : n ≠ d + k) : remAt r b c d (k + 1) n = remAt r b c d k n := by
  unfold remAt
  by_cases h1 : d ≤ n ∧ n < d + k
  · rw [if_pos h1, if_pos (by omega)]
  · rw [if_neg h1, if_neg (by omega)]
theorem remAt_full {b : Nat → Int} {B : Nat} (hb : Fin b B) (r : Nat → Int) (c : Int) (d n : Nat) : remAt r b c d B n = r n - conv (fun i => if i = d then c else 0) b n := by
  unfold remAt
  rw [conv_mono]
  by_cases h1 : d ≤ n
  · rw [if_pos h1]
    by_cases h2 : n < d + B
    · rw [if_pos ⟨h1, h2⟩]
    · rw [if_neg (by omega), hb (n - d) (by omega), Int.mul_zero]
  · rw [if_neg h1, if_neg (by omega)]

/-! ### Counting zeros -/
def pts (p x : Int) (N : Nat) : List Int := (List.range N).map fun n : Nat => (x + (n : Int)) % p
theorem pts_bd {p x : Int} (hp : 0 < p) (N : Nat) : ∀ y ∈ pts p x N, 0 ≤ y ∧ y < p := by
  intro y hy
  obtain ⟨n, _, rfl⟩ := List.mem_map.1 hy
  exact md _ _ hp
theorem pts_next (p x : Int) (N : Nat) : pts p x (N + 1) = pts p x N ++ [(x + (N : Int)) % p] := map_next _ _
theorem pts_nodup {p x : Int} : ∀ N : Nat, (N : Int) ≤ p → (pts p x N).Nodup := by
  intro N
  induction N with
  | zero => intro _; exact List.nodup_nil
  | succ N ih =>
    intro h
    rw [pts_next, List.nodup_append]
    refine ⟨ih (by omega), by simp, ?_⟩
    intro a ha b hb e
    rw [List.mem_singleton] at hb
    subst hb e
    obtain ⟨n, hn, e⟩ := List.mem_map.1 ha
    have hn := List.mem_range.1 hn
    have e2 : ((x + (N : Int)) - (x + (n : Int))) % p = 0 := by rw [Int.sub_emod, ← e, Int.sub_self, Int.zero_emod]
    have := Int.le_of_dvd (show 0 < (x + (N : Int)) - (x + (n : Int)) by omega) (Int.dvd_of_emod_eq_zero e2)
    omega
/-- How many of the first N points are zeros. -/
def nz (p : Int) (a : List Int) (x : Int) (N : Nat) : Nat := ((pts p x N).filter fun y => pev p a y == 0).length
theorem nz_zero (p : Int) (a : List Int) (x : Int) : nz p a x 0 = 0 := rfl
theorem nz_next (p : Int) (a : List Int) (x : Int) (N : Nat) : nz p a x (N + 1) = nz p a x N + if pev p a ((x + (N : Int)) % p) = 0 then 1 else 0 := by
  unfold nz
  rw [pts_next, List.filter_append, List.length_append]
  by_cases h : pev p a ((x + (N : Int)) % p) = 0
  · rw [if_pos h]; simp [h]
  · rw [if_neg h]; simp [h]
theorem nz_le {p : Int} (h : GoodI p) {a : List Int} (ha : El p a) (h0 : 0 < tn a) (x : Int) (N : Nat) (hN : (N : Int) ≤ p) : nz p a x N ≤ tn a - 1 := by
  have hp := h.two
  refine zeros_list h ha h0 ((pts_nodup N hN).sublist (List.filter_sublist)) (fun y hy => pts_bd (by omega) N y (List.mem_filter.1 hy).1) ?_
  intro y hy
  exact of_decide_eq_true (by simpa using (List.mem_filter.1 hy).2)
theorem prodX_snoc (p : Int) : ∀ (cs m : List Int) (c : Int), prodX p m (cs ++ [c]) = pmul p (prodX p m cs) [(p - c) % p, 1]
  | [], _, _ => rfl
  | d :: cs, m, c => prodX_snoc p cs (pmul p m [(p - d) % p, 1]) c
theorem prodX_el {p : Int} (hp : 0 < p) : ∀ (cs m : List Int), El p m → El p (prodX p m cs)
  | [], _, h => h
  | _ :: cs, _, _ => prodX_el hp cs _ (pmul_el hp _ _)
theorem prodX_len (p : Int) : ∀ (cs m : List Int), (prodX p m cs).length ≤ m.length + cs.length
  | [], _ => Nat.le_refl _
  | c :: cs, m => by
    have h1 := prodX_len p cs (pmul p m [(p - c) % p, 1])
    have h2 := pmul_len p m [(p - c) % p, 1]
    simp only [List.length_cons, List.length_nil] at h2 ⊢
    show (prodX p (pmul p m [(p - c) % p, 1]) cs).length ≤ _
    omega
end PolyMath

/- Plain facts about interpolation over the fields of the seven Mersenne primes, with no Go in sight: a polynomial of bounded degree is fixed by its values, the Lagrange basis, weights, powers. Conditions: abscissas are different elements of the field where said. -/
namespace PolyMath
open FieldMath

/-! ### A polynomial is fixed by its values -/
/-- f takes the value ys[i] at xs[i] for each i, and has at most as many coefficients as there are points. -/
structure Itp (p : Int) (xs ys f : List Int) : Prop where
  ft : trim f = f
  fe : El p f
  fl : f.length ≤ xs.length
  at_ : ∀ i, i < xs.length → pev p f (co xs i) = co ys i

theorem pev_psub (p : Int) (a b : List Int) (x : Int) : pev p (psub p a b) x = fsub p (pev p a x) (pev p b x) := by
  unfold pev fsub
  have h1 : (psub p a b).length ≤ max a.length b.length := psub_len p a b
  have e : ∀ N (f g : Nat → Int), evf x N (fun i => f i - g i) = evf x N f - evf x N g := by
    intro N f g
    have h := evf_add x N f (fun i => -1 * g i)
    rw [evf_mul] at h
    rw [show (fun i => f i - g i) = fun i => f i + -1 * g i from funext fun i => by omega, h]; omega
  rw [← evf_to (x := x) (co_fin (psub p a b)) h1, evf_mod (p := p) x _ (g := fun i => co a i - co b i) (fun n => by rw [co_psub, mdd]), e,
    evf_to (co_fin a) (by omega), evf_to (co_fin b) (by omega), Int.sub_emod]
theorem pev_pscl (p k : Int) (a : List Int) (x : Int) : pev p (pscl p k a) x = fmul p k (pev p a x) := by
  unfold pev fmul
  rw [← evf_to (x := x) (co_fin (pscl p k a)) (pscl_len p k a), evf_mod (p := p) x _ (g := fun i => k * co a i) (fun n => by rw [co_pscl, mdd]), evf_mul, Int.mul_emod, Int.mul_emod k (evf x a.length (co a) % p), mdd]
theorem pev_nil (p x : Int) : pev p [] x = 0 := Int.zero_emod p
theorem pev_one {p : Int} (hp : 1 < p) (x : Int) : pev p [1] x = 1 := by
  show (1 + x * 0) % p = 1
  rw [Int.mul_zero, Int.add_zero]; exact small (by omega) hp

theorem mem_co {xs : List Int} {x : Int} (h : x ∈ xs) : ∃ i, i < xs.length ∧ co xs i = x := by
  obtain ⟨i, hi, e⟩ := List.mem_iff_getElem.1 h
  exact ⟨i, hi, by rw [co_get hi]; exact e⟩
theorem co_mem {xs : List Int} {i : Nat} (h : i < xs.length) : co xs i ∈ xs := by rw [co_get h]; exact List.getElem_mem h
theorem nodup_inj {xs : List Int} (hn : xs.Nodup) {i j : Nat} (hi : i < xs.length) (hj : j < xs.length) (e : xs[i] = xs[j]) : i = j := by
  have h := List.pairwise_iff_getElem.1 hn
  rcases Nat.lt_trichotomy i j with h1 | h1 | h1
  · exact absurd e (h i j hi hj h1)
  · exact h1
  · exact absurd e.symm (h j i hj hi h1)
theorem co_inj {xs : List Int} (hn : xs.Nodup) {i j : Nat} (hi : i < xs.length) (hj : j < xs.length) (e : co xs i = co xs j) : i = j := by
  rw [co_get hi, co_get hj] at e
  exact nodup_inj hn hi hj e

/-- Two polynomials with at most n coefficients that agree at n points are equal. -/
theorem agree {p : Int} (h : GoodI p) {xs f g : List Int} (hn : xs.Nodup) (hx : El p xs) (hf : El p f) (hg : El p g) (ft : trim f = f) (gt : trim g = g) (lf : f.length ≤ xs.length) (lg : g.length ≤ xs.length)
    (he : ∀ x ∈ xs, pev p f x = pev p g x) : f = g := by
  have hp := h.two
  have hz : tn (psub p f g) = 0 := by
    rcases Nat.eq_zero_or_pos (tn (psub p f g)) with h0 | h0
    · exact h0
    · exfalso
      have h1 := zeros_list h (psub_el (by omega) f g) h0 hn hx (fun x hxx => by
        rw [pev_psub, he x hxx]; unfold fsub; rw [Int.sub_self, Int.zero_emod])
      have h2 := tn_le (psub p f g)
      have h3 := psub_len p f g
      omega
  apply same_of ft gt
  intro n
  have e := tn_fin (psub p f g) n (by omega)
  rw [co_psub] at e
  have a1 := hf.co (show 0 < p by omega) n
  have a2 := hg.co (show 0 < p by omega) n
  have hd := Int.dvd_of_emod_eq_zero e
  rcases (show co f n < co g n ∨ co f n = co g n ∨ co g n < co f n by omega) with hlt | he2 | hlt
  · have := Int.le_of_dvd (show 0 < co g n - co f n by omega) ((Int.dvd_neg).1 (by rw [Int.neg_sub]; exact hd)); omega
  · exact he2
  · have := Int.le_of_dvd (show 0 < co f n - co g n by omega) hd; omega
theorem Itp.unique {p : Int} (h : GoodI p) {xs ys f g : List Int} (hn : xs.Nodup) (hx : El p xs) (h1 : Itp p xs ys f) (h2 : Itp p xs ys g) : f = g :=
  agree h hn hx h1.fe h2.fe h1.ft h2.ft h1.fl h2.fl fun x hxx => by
    obtain ⟨i, hi, e⟩ := mem_co hxx
    rw [← e, h1.at_ i hi, h2.at_ i hi]
/-- A polynomial is the interpolation of its own values. -/
theorem Itp.own {p : Int} {xs f : List Int} (hf : El p f) (hl : f.length ≤ xs.length) : Itp p xs (xs.map (pev p f)) (trim f) where
  ft := trim_trim _
  fe := hf.trim
  fl := by rw [trim_length]; have := tn_le f; omega
  at_ := fun i hi => by
    rw [pev_trim]
    have : i < (xs.map (pev p f)).length := by rw [List.length_map]; exact hi
    rw [co_get this, List.getElem_map, co_get hi]
/-- Interpolation is linear in the values. -/
theorem Itp.add {p : Int} (hp : 0 < p) {xs ys zs us f g : List Int} (h1 : Itp p xs ys f) (h2 : Itp p xs zs g) (hu : ∀ i, i < xs.length → co us i = fadd p (co ys i) (co zs i)) : Itp p xs us (padd p f g) where
  ft := padd_trim _ _ _
  fe := padd_el hp _ _
  fl := by have := padd_len p f g; have := h1.fl; have := h2.fl; omega
  at_ := fun i hi => by rw [pev_padd, h1.at_ i hi, h2.at_ i hi, hu i hi]

theorem co_snoc_lt {xs : List Int} {x : Int} {i : Nat} (h : i < xs.length) : co (xs ++ [x]) i = co xs i := by unfold co; rw [List.getElem?_append_left h]
theorem co_snoc {xs : List Int} {x : Int} : co (xs ++ [x]) xs.length = x := by unfold co; rw [List.getElem?_append_right (Nat.le_refl _)]; simp
/-- A further point on the polynomial changes nothing. -/
theorem Itp.more {p : Int} {xs ys f : List Int} {x y : Int} (hl : ys.length = xs.length) (h : Itp p xs ys f) (e : pev p f x = y) : Itp p (xs ++ [x]) (ys ++ [y]) f where
  ft := h.ft
  fe := h.fe
  fl := by rw [List.length_append]; have := h.fl; omega
  at_ := fun i hi => by
    rw [List.length_append, List.length_singleton] at hi
    by_cases h1 : i < xs.length
    · rw [co_snoc_lt h1, co_snoc_lt (by omega), h.at_ i h1]
    · obtain rfl : i = xs.length := by omega
      rw [co_snoc]
      conv => rhs; rw [← hl]
      rw [co_snoc, e]
/-- A further point off the polynomial raises the degree to the number of the former points. -/
theorem Itp.off {p : Int} (hg : GoodI p) {xs ys f g : List Int} {x y : Int} (hl : ys.length = xs.length) (hn : xs.Nodup) (hx : El p xs) (h : Itp p xs ys f) (e : pev p f x ≠ y) (h2 : Itp p (xs ++ [x]) (ys ++ [y]) g) : tn g = xs.length + 1 := by
  have hgl := h2.fl
  rw [List.length_append, List.length_singleton] at hgl
  have ht : tn g = g.length := by rw [← trim_length, h2.ft]
  rcases (show g.length ≤ xs.length ∨ g.length = xs.length + 1 by omega) with h3 | h3
  · exfalso
    have h4 : Itp p xs ys g := ⟨h2.ft, h2.fe, h3, fun i hi => by
      have := h2.at_ i (by rw [List.length_append]; omega)
      rwa [co_snoc_lt hi, co_snoc_lt (by omega)] at this⟩
    have h5 := h.unique hg hn hx h4
    have h6 := h2.at_ xs.length (by rw [List.length_append, List.length_singleton]; omega)
    rw [co_snoc] at h6
    conv at h6 => rhs; rw [← hl]
    rw [co_snoc] at h6
    rw [h5] at e
    exact e h6
  · omega

/-! ### The Lagrange basis -/
def finv (p a : Int) : Int := fpow p a (p - 2)
/-- The factor that is 1 at x and 0 at k. -/
def bfac (p x k : Int) : List Int := [fmul p (fneg p k) (finv p (fsub p x k)), finv p (fsub p x k)]
def basis (p x : Int) : List Int → List Int → List Int
  | m, [] => m
  | m, k :: ks => basis p x (pmul p m (bfac p x k)) ks
/-- The basis polynomial of place i. -/
def base (p : Int) (xs : List Int) (i : Nat) : List Int := basis p (co xs i) [1] (xs.eraseIdx i)

theorem bfac_el {p : Int} (hp : 0 < p) (x k : Int) : El p (bfac p x k) := by
  intro z hz
  simp only [bfac, List.mem_cons, List.not_mem_nil, or_false] at hz
  rcases hz with rfl | rfl
  · exact fmul_bd p _ _ hp
  · exact fpow_bd p _ _ hp
theorem pev_bfac (p x k z : Int) : pev p (bfac p x k) z = fmul p (z - k) (finv p (fsub p x k)) := by
  show (fmul p (fneg p k) (finv p (fsub p x k)) + z * (finv p (fsub p x k) + z * 0)) % p = _
  unfold fmul fneg
  rw [Int.mul_zero, Int.add_zero, Int.emod_add_emod]
  generalize finv p (fsub p x k) = v
  have e1 : (-k % p * v + z * v) % p = (-k * v + z * v) % p := ma (mm (mdd p (-k)) rfl) rfl
  rw [e1, ← Int.add_mul]; congr 2; omega
theorem basis_snoc (p x : Int) : ∀ (ks m : List Int) (k : Int), basis p x m (ks ++ [k]) = pmul p (basis p x m ks) (bfac p x k)
  | [], _, _ => rfl
  | d :: ks, m, k => basis_snoc p x ks (pmul p m (bfac p x d)) k
theorem basis_el {p : Int} (hp : 0 < p) (x : Int) : ∀ (ks m : List Int), El p m → El p (basis p x m ks)
  | [], _, h => h
  | _ :: ks, _, _ => basis_el hp x ks _ (pmul_el hp _ _)
theorem basis_trim (p x : Int) : ∀ (ks m : List Int), trim m = m → trim (basis p x m ks) = basis p x m ks
  | [], _, h => h
  | _ :: ks, _, _ => basis_trim p x ks _ (pmul_trim _ _ _)
theorem basis_len (p x : Int) : ∀ (ks m : List Int), (basis p x m ks).length ≤ m.length + ks.length
  | [], _ => Nat.le_refl _
  | k :: ks, m => by
    have h1 := basis_len p x ks (pmul p m (bfac p x k))
    have h2 := pmul_len p m (bfac p x k)
    rw [show (bfac p x k).length = 2 from rfl] at h2
    show (basis p x (pmul p m (bfac p x k)) ks).length ≤ _
    rw [List.length_cons]; omega
/-- The value of a product of factors. -/
def fprod (p x z : Int) : Int → List Int → Int
  | v, [] => v
  | v, k :: ks => fprod p x z (fmul p v (fmul p (z - k) (finv p (fsub p x k)))) ks
theorem fprod_snoc (p x z : Int) : ∀ (ks : List Int) (v k : Int), fprod p x z v (ks ++ [k]) = fmul p (fprod p x z v ks) (fmul p (z - k) (finv p (fsub p x k)))
  | [], _, _ => rfl
  | _ :: ks, _, k => fprod_snoc p x z ks _ k
theorem pev_basis (p x z : Int) : ∀ (ks m : List Int), pev p (basis p x m ks) z = fprod p x z (pev p m z) ks
  | [], _ => rfl
  | k :: ks, m => by
    show pev p (basis p x (pmul p m (bfac p x k)) ks) z = fprod p x z (fmul p (pev p m z) (fmul p (z - k) (finv p (fsub p x k)))) ks
    rw [pev_basis p x z ks, pev_pmul, pev_bfac]
theorem fprod_zero {p x z : Int} : ∀ ks : List Int, fprod p x z 0 ks = 0
  | [] => rfl
  | k :: ks => by
    show fprod p x z (fmul p 0 _) ks = 0
    rw [show fmul p 0 (fmul p (z - k) (finv p (fsub p x k))) = 0 from by unfold fmul; rw [Int.zero_mul, Int.zero_emod]]
    exact fprod_zero ks
theorem fprod_hit {p x z : Int} : ∀ (ks : List Int) (v : Int), z ∈ ks → fprod p x z v ks = 0
  | k :: ks, v, h => by
    by_cases e : z = k
    · subst e
      show fprod p x z (fmul p v (fmul p (z - z) _)) ks = 0
      rw [show fmul p v (fmul p (z - z) (finv p (fsub p x z))) = 0 from by unfold fmul; rw [Int.sub_self, Int.zero_mul, Int.zero_emod, Int.mul_zero, Int.zero_emod]]
      exact fprod_zero ks
    · exact fprod_hit ks _ (by rcases List.mem_cons.1 h with h1 | h1; exact absurd h1 e; exact h1)
theorem fprod_self {p x : Int} (h : GoodI p) (hx : 0 ≤ x ∧ x < p) : ∀ (ks : List Int) (v : Int), 0 ≤ v ∧ v < p → El p ks → x ∉ ks → fprod p x x v ks = v
  | [], _, _, _, _ => rfl
  | k :: ks, v, hv, he, hk => by
    have hp := h.two
    have hkb := he k (by simp)
    have hne : x ≠ k := fun e => hk (by rw [e]; simp)
    have hs := fsub_bd p x k (by omega)
    have hs0 : fsub p x k ≠ 0 := fun e => by
      unfold fsub at e
      have hd := Int.dvd_of_emod_eq_zero e
      rcases (show x < k ∨ k < x by omega) with hlt | hlt
      · have := Int.le_of_dvd (show 0 < k - x by omega) ((Int.dvd_neg).1 (by rw [Int.neg_sub]; exact hd)); omega
      · have := Int.le_of_dvd (show 0 < x - k by omega) hd; omega
    have hi := h.inv (a := fsub p x k) (by omega) hs.2
    have e1 : fmul p (x - k) (finv p (fsub p x k)) = 1 := by
      rw [← hi]
      show fmul p (x - k) (fpow p (fsub p x k) (p - 2)) = _
      unfold fmul
      exact mm (by unfold fsub; rw [mdd]) rfl
    show fprod p x x (fmul p v (fmul p (x - k) (finv p (fsub p x k)))) ks = v
    rw [e1, fmul_one p v hv.1 hv.2]
    exact fprod_self h hx ks v hv (fun y hy => he y (by simp [hy])) (fun h => hk (by simp [h]))

theorem erase_not {xs : List Int} (hn : xs.Nodup) {i : Nat} (hi : i < xs.length) : co xs i ∉ xs.eraseIdx i := by
  rw [co_get hi]
  intro h
  obtain ⟨j, hj, hji, e⟩ := List.mem_eraseIdx_iff_getElem.1 h
  exact hji (nodup_inj hn hj hi e)
theorem erase_in {xs : List Int} {i j : Nat} (hj : j < xs.length) (hij : j ≠ i) : co xs j ∈ xs.eraseIdx i := by
  rw [co_get hj]
  exact List.mem_eraseIdx_iff_getElem.2 ⟨j, hj, hij, rfl⟩
theorem el_erase {p : Int} {xs : List Int} (h : El p xs) (i : Nat) : El p (xs.eraseIdx i) := fun x hx => h x (List.mem_of_mem_eraseIdx hx)

theorem base_el {p : Int} (hp : 1 < p) (xs : List Int) (i : Nat) : El p (base p xs i) := basis_el (by omega) _ _ _ (El.one hp)
theorem base_trim (p : Int) (xs : List Int) (i : Nat) : trim (base p xs i) = base p xs i := basis_trim _ _ _ _ rfl
theorem base_len (p : Int) (xs : List Int) {i : Nat} (hi : i < xs.length) : (base p xs i).length ≤ xs.length := by
  have h1 := basis_len p (co xs i) (xs.eraseIdx i) [1]
  rw [List.length_eraseIdx_of_lt hi] at h1
  unfold base
  simp only [List.length_singleton] at h1
  omega
theorem base_self {p : Int} (h : GoodI p) {xs : List Int} (hn : xs.Nodup) (hx : El p xs) {i : Nat} (hi : i < xs.length) : pev p (base p xs i) (co xs i) = 1 := by
  have hp := h.two
  unfold base
  rw [pev_basis, pev_one (by omega), fprod_self h (hx _ (co_mem hi)) _ 1 (by omega) (el_erase hx i) (erase_not hn hi)]
theorem base_other {p : Int} {xs : List Int} {i j : Nat} (hj : j < xs.length) (hij : j ≠ i) : pev p (base p xs i) (co xs j) = 0 := by
  unfold base
  rw [pev_basis, fprod_hit _ _ (erase_in hj hij)]

/-! ### Sums -/
def fsum (p : Int) (f : Nat → Int) : Nat → Int
  | 0 => 0
  | n + 1 => fadd p (fsum p f n) (f n)
theorem fsum_bd {p : Int} (hp : 0 < p) (f : Nat → Int) : ∀ n, 0 ≤ fsum p f n ∧ fsum p f n < p
  | 0 => ⟨Int.le_refl _, hp⟩
  | _ + 1 => fadd_bd p _ _ hp
theorem fsum_ext {p : Int} {f g : Nat → Int} : ∀ n, (∀ i, i < n → f i = g i) → fsum p f n = fsum p g n
  | 0, _ => rfl
  | n + 1, h => by
    show fadd p (fsum p f n) (f n) = fadd p (fsum p g n) (g n)
    rw [fsum_ext n (fun i hi => h i (by omega)), h n (by omega)]
theorem fsum_one {p : Int} (hp : 0 < p) {f : Nat → Int} {j : Nat} (hj : 0 ≤ f j ∧ f j < p) (h0 : ∀ i, i ≠ j → f i = 0) : ∀ n, fsum p f n = if j < n then f j else 0
  | 0 => rfl
  | n + 1 => by
    show fadd p (fsum p f n) (f n) = _
    rw [fsum_one hp hj h0 n]
    by_cases e : n = j
    · subst e
      rw [if_neg (by omega), if_pos (by omega)]
      unfold fadd; rw [Int.zero_add]; exact small hj.1 hj.2
    · rw [h0 n e]
      by_cases h : j < n
      · rw [if_pos h, if_pos (by omega)]; unfold fadd; rw [Int.add_zero]; exact small hj.1 hj.2
      · rw [if_neg h, if_neg (by omega)]; unfold fadd; rw [Int.add_zero, Int.zero_emod]

/-- The sum of the first k basis polynomials, each times its value. -/
def lag (p : Int) (xs ys : List Int) : Nat → List Int
  | 0 => []
  | k + 1 => padd p (lag p xs ys k) (pscl p (co ys k) (base p xs k))
theorem lag_el {p : Int} (hp : 0 < p) (xs ys : List Int) : ∀ k, El p (lag p xs ys k)
  | 0 => El.nil p
  | _ + 1 => padd_el hp _ _
theorem lag_trim (p : Int) (xs ys : List Int) : ∀ k, trim (lag p xs ys k) = lag p xs ys k
  | 0 => rfl
  | _ + 1 => padd_trim _ _ _
theorem lag_len (p : Int) (xs ys : List Int) : ∀ k, k ≤ xs.length → (lag p xs ys k).length ≤ xs.length
  | 0, _ => Nat.zero_le _
  | k + 1, h => by
    have h1 := lag_len p xs ys k (by omega)
    have h2 := padd_len p (lag p xs ys k) (pscl p (co ys k) (base p xs k))
    have h3 := pscl_len p (co ys k) (base p xs k)
    have h4 := base_len p xs (i := k) (by omega)
    show (padd p (lag p xs ys k) (pscl p (co ys k) (base p xs k))).length ≤ _
    omega
theorem pev_lag (p : Int) (xs ys : List Int) (z : Int) : ∀ k, pev p (lag p xs ys k) z = fsum p (fun i => fmul p (co ys i) (pev p (base p xs i) z)) k
  | 0 => pev_nil p z
  | k + 1 => by
    show pev p (padd p (lag p xs ys k) (pscl p (co ys k) (base p xs k))) z = fadd p (fsum p _ k) _
    rw [pev_padd, pev_pscl, pev_lag p xs ys z k]
theorem lag_itp {p : Int} (h : GoodI p) {xs ys : List Int} (hn : xs.Nodup) (hx : El p xs) (hy : El p ys) : Itp p xs ys (lag p xs ys xs.length) where
  ft := lag_trim _ _ _ _
  fe := lag_el (by have := h.two; omega) _ _ _
  fl := lag_len _ _ _ _ (Nat.le_refl _)
  at_ := fun j hj => by
    have hp := h.two
    rw [pev_lag]
    have hb := hy.co (show 0 < p by omega) j
    rw [fsum_ext (g := fun i => if i = j then co ys j else 0) xs.length (fun i hi => by
      by_cases e : i = j
      · subst e; rw [if_pos rfl, base_self h hn hx hi, fmul_one p _ hb.1 hb.2]
      · rw [if_neg e, base_other hj (fun h => e h.symm), fmul_zero])]
    rw [fsum_one (j := j) (by omega) (by rw [if_pos rfl]; exact hb) (fun i hi => if_neg hi), if_pos hj, if_pos rfl]

/-! ### Weights -/
/-- The weights at z. -/
def wts (p : Int) (xs : List Int) (z : Int) : List Int := (List.range xs.length).map fun i => pev p (base p xs i) z
theorem wts_len (p : Int) (xs : List Int) (z : Int) : (wts p xs z).length = xs.length := by unfold wts; simp
theorem co_wts (p : Int) (xs : List Int) (z : Int) {i : Nat} (hi : i < xs.length) : co (wts p xs z) i = pev p (base p xs i) z := by unfold wts; rw [co_map, if_pos hi]
theorem wts_el {p : Int} (hp : 0 < p) (xs : List Int) (z : Int) : El p (wts p xs z) := by
  intro x hx
  obtain ⟨i, _, rfl⟩ := List.mem_map.1 hx
  exact pev_bd hp _ _
/-- The weighted sum of the values of a polynomial is its value. -/
theorem wts_value {p : Int} (h : GoodI p) {xs f : List Int} (hn : xs.Nodup) (hx : El p xs) (hf : El p f) (hl : f.length ≤ xs.length) (z : Int) : fsum p (fun i => fmul p (co (wts p xs z) i) (pev p f (co xs i))) xs.length = pev p f z := by
  have hp := h.two
  have hy : El p (xs.map (pev p f)) := by
    intro y hy
    obtain ⟨x, _, rfl⟩ := List.mem_map.1 hy
    exact pev_bd (by omega) _ _
  have h1 := (lag_itp h hn hx hy).unique h hn hx (Itp.own hf hl)
  rw [← pev_trim p f z, ← h1, pev_lag]
  apply fsum_ext
  intro i hi
  have h2 : i < (xs.map (pev p f)).length := by rw [List.length_map]; exact hi
  rw [co_wts p xs z hi, fmul_comm, co_get h2, List.getElem_map, co_get hi]
theorem wts_one {p : Int} (h : GoodI p) {xs : List Int} (hn : xs.Nodup) (hx : El p xs) (h0 : 0 < xs.length) (z : Int) : fsum p (co (wts p xs z)) xs.length = 1 := by
  have hp := h.two
  have h1 := wts_value h hn hx (El.one (p := p) (by omega)) (by rw [List.length_singleton]; omega) z
  rw [pev_one (by omega)] at h1
  rw [← h1]
  apply fsum_ext
  intro i hi
  have hb := pev_bd (p := p) (by omega) (base p xs i) z
  rw [co_wts p xs z hi, pev_one (by omega), fmul_one p _ hb.1 hb.2]
/-- The weights are fixed by what they do. -/
theorem wts_unique {p : Int} (h : GoodI p) {xs ws : List Int} {z : Int} (hn : xs.Nodup) (hx : El p xs) (hw : El p ws) (hl : ws.length = xs.length)
    (he : ∀ f, El p f → f.length ≤ xs.length → fsum p (fun i => fmul p (co ws i) (pev p f (co xs i))) xs.length = pev p f z) : ws = wts p xs z := by
  have hp := h.two
  apply list_ext (by rw [hl, wts_len])
  intro j
  by_cases hj : j < xs.length
  · have h1 := he (base p xs j) (base_el (by omega) _ _) (base_len p xs hj)
    have hb := hw.co (show 0 < p by omega) j
    rw [fsum_ext (g := fun i => if i = j then co ws j else 0) xs.length (fun i hi => by
      by_cases e : i = j
      · subst e; rw [if_pos rfl, base_self h hn hx hi, fmul_one p _ hb.1 hb.2]
      · rw [if_neg e, base_other hi e, fmul_zero]),
      fsum_one (j := j) (by omega) (by rw [if_pos rfl]; exact hb) (fun i hi => if_neg hi), if_pos hj, if_pos rfl] at h1
    rw [co_wts p xs z hj, h1]
  · rw [co_fin ws j (by omega), co_fin (wts p xs z) j (by rw [wts_len]; omega)]

/-! ### Loops of the reference -/
/-- The factors that have come behind k rounds. -/
def oth (xs : List Int) (i k : Nat) : List Int := (xs.take k).eraseIdx i
theorem oth_zero (xs : List Int) (i : Nat) : oth xs i 0 = [] := rfl
theorem oth_all (xs : List Int) (i : Nat) : oth xs i xs.length = xs.eraseIdx i := by unfold oth; rw [List.take_length]
theorem oth_here {xs : List Int} {i : Nat} (hi : i < xs.length) : oth xs i (i + 1) = oth xs i i := by
  unfold oth
  have hl : (xs.take i).length = i := by rw [List.length_take]; omega
  rw [List.take_add_one, List.getElem?_eq_getElem hi, List.eraseIdx_append_of_length_le (by omega), hl, Nat.sub_self, List.eraseIdx_of_length_le (l := xs.take i) (by omega)]
  simp
theorem oth_next {xs : List Int} {i k : Nat} {x : Int} (hx : xs[k]? = some x) (hk : k ≠ i) : oth xs i (k + 1) = oth xs i k ++ [x] := by
  unfold oth
  have hlt := (List.getElem?_eq_some_iff.1 hx).1
  have hl : (xs.take k).length = k := by rw [List.length_take]; omega
  rw [List.take_add_one, hx]
  rcases (show k < i ∨ i < k by omega) with h | h
  · rw [List.eraseIdx_of_length_le (by simp; omega), List.eraseIdx_of_length_le (by omega)]; rfl
  · rw [List.eraseIdx_append_of_lt_length (by omega)]; rfl
/-- Whether all are different, by comparing each with those ahead of it. -/
theorem nodup_take {xs : List Int} {k : Nat} {x : Int} (hx : xs[k]? = some x) : (xs.take (k + 1)).Nodup ↔ (xs.take k).Nodup ∧ x ∉ xs.take k := by
  rw [List.take_add_one, hx]
  show (xs.take k ++ [x]).Nodup ↔ _
  rw [List.nodup_append]
  constructor
  · rintro ⟨h1, _, h3⟩
    exact ⟨h1, fun h => h3 x h x (by simp) rfl⟩
  · rintro ⟨h1, h2⟩
    refine ⟨h1, by simp, fun a ha b hb e => ?_⟩
    rw [List.mem_singleton] at hb
    exact h2 (by rw [← hb, ← e]; exact ha)

/-! ### Powers -/
def pows (p x : Int) (n : Nat) : List Int := (List.range n).map fun k : Nat => x ^ k % p
theorem pows_len (p x : Int) (n : Nat) : (pows p x n).length = n := by unfold pows; simp
theorem pows_sum (p x : Int) (f : List Int) : ∀ n, n ≤ f.length → fsum p (fun k => fmul p (co (pows p x f.length) k) (co f k)) n = evp x (co f) n % p
  | 0, _ => (Int.zero_emod p).symm
  | n + 1, h => by
    show fadd p (fsum p _ n) (fmul p (co (pows p x f.length) n) (co f n)) = _
    rw [pows_sum p x f n (by omega), show co (pows p x f.length) n = x ^ n % p from by unfold pows; rw [co_map, if_pos (by omega)], fmul_comm]
    exact evp_next p x (co f) n
theorem pows_value (p x : Int) (f : List Int) : fsum p (fun k => fmul p (co (pows p x f.length) k) (co f k)) f.length = pev p f x := by
  rw [pows_sum p x f f.length (Nat.le_refl _), pev_evp]
end PolyMath

/- No Go: products of differences; the basis polynomials as quotients of the product of all factors; points as pairs. No conditions. -/
namespace PolyMath
open FieldMath

/-- The factor x - c. -/
def lin (p c : Int) : List Int := [fneg p c, 1]
theorem pev_linN (p c z : Int) : pev p (lin p c) z = fsub p z c := by
  show (fneg p c + z * (1 + z * 0)) % p = _
  unfold fneg fsub
  rw [Int.mul_zero, Int.add_zero, Int.mul_one, Int.emod_add_emod]; congr 1; omega
theorem lin_el {p : Int} (hp : 1 < p) (c : Int) : El p (lin p c) := by
  intro z hz
  simp only [lin, List.mem_cons, List.not_mem_nil, or_false] at hz
  rcases hz with rfl | rfl
  · exact fneg_bd p _ (by omega)
  · omega
theorem lin_tn (p c : Int) : tn (lin p c) = 1 + 1 := by simp [lin, tn]
theorem lin_len (p c : Int) : (lin p c).length = 2 := rfl

/-- A product with factors x - c. -/
def van (p : Int) : List Int → List Int → List Int
  | m, [] => m
  | m, c :: cs => van p (pmul p m (lin p c)) cs
theorem van_snoc (p : Int) : ∀ (cs m : List Int) (c : Int), van p m (cs ++ [c]) = pmul p (van p m cs) (lin p c)
  | [], _, _ => rfl
  | d :: cs, m, c => van_snoc p cs (pmul p m (lin p d)) c
theorem van_el {p : Int} (hp : 0 < p) : ∀ (cs m : List Int), El p m → El p (van p m cs)
  | [], _, h => h
  | _ :: cs, _, _ => van_el hp cs _ (pmul_el hp _ _)
theorem van_trim (p : Int) : ∀ (cs m : List Int), trim m = m → trim (van p m cs) = van p m cs
  | [], _, h => h
  | _ :: cs, _, _ => van_trim p cs _ (pmul_trim _ _ _)
theorem van_len (p : Int) : ∀ (cs m : List Int), (van p m cs).length ≤ m.length + cs.length
  | [], _ => Nat.le_refl _
  | c :: cs, m => by
    have h1 := van_len p cs (pmul p m (lin p c))
    have h2 := pmul_len p m (lin p c)
    rw [lin_len] at h2
    show (van p (pmul p m (lin p c)) cs).length ≤ _
    rw [List.length_cons]; omega
theorem van_left (p : Int) (a : List Int) : ∀ (cs m : List Int), van p (pmul p a m) cs = pmul p a (van p m cs)
  | [], _ => rfl
  | c :: cs, m => by
    show van p (pmul p (pmul p a m) (lin p c)) cs = _
    rw [pmul_assoc, van_left p a cs]; rfl
theorem van_erase (p : Int) : ∀ (cs m : List Int) (i : Nat), i < cs.length → van p m cs = pmul p (van p m (cs.eraseIdx i)) (lin p (co cs i))
  | c :: cs, m, 0, _ => by
    show van p (pmul p m (lin p c)) cs = pmul p (van p m cs) (lin p c)
    rw [pmul_comm p m, van_left, pmul_comm]
  | c :: cs, m, i + 1, h => by
    show van p (pmul p m (lin p c)) cs = pmul p (van p (pmul p m (lin p c)) (cs.eraseIdx i)) (lin p (co cs i))
    exact van_erase p cs _ i (by simpa using h)

/-- A product of differences z - k. -/
def gpr (p z : Int) : Int → List Int → Int
  | v, [] => v
  | v, k :: ks => gpr p z (fmul p v (fsub p z k)) ks
theorem gpr_snoc (p z : Int) : ∀ (ks : List Int) (v k : Int), gpr p z v (ks ++ [k]) = fmul p (gpr p z v ks) (fsub p z k)
  | [], _, _ => rfl
  | _ :: ks, _, k => gpr_snoc p z ks _ k
theorem gpr_bd {p : Int} (hp : 0 < p) (z : Int) : ∀ (ks : List Int) (v : Int), 0 ≤ v ∧ v < p → 0 ≤ gpr p z v ks ∧ gpr p z v ks < p
  | [], _, h => h
  | _ :: ks, _, _ => gpr_bd hp z ks _ (fmul_bd p _ _ hp)
theorem pev_van (p z : Int) : ∀ (ks m : List Int), pev p (van p m ks) z = gpr p z (pev p m z) ks
  | [], _ => rfl
  | k :: ks, m => by
    show pev p (van p (pmul p m (lin p k)) ks) z = gpr p z (fmul p (pev p m z) (fsub p z k)) ks
    rw [pev_van p z ks, pev_pmul, pev_linN]
theorem gpr_null (p z : Int) : ∀ ks : List Int, gpr p z 0 ks = 0
  | [] => rfl
  | k :: ks => by
    show gpr p z (fmul p 0 _) ks = 0
    rw [show fmul p 0 (fsub p z k) = 0 from by unfold fmul; rw [Int.zero_mul, Int.zero_emod]]
    exact gpr_null p z ks
theorem gpr_hit (p z : Int) : ∀ (ks : List Int) (v : Int), z ∈ ks → gpr p z v ks = 0
  | k :: ks, v, h => by
    by_cases e : z = k
    · subst e
      show gpr p z (fmul p v (fsub p z z)) ks = 0
      rw [show fsub p z z = 0 from by unfold fsub; rw [Int.sub_self, Int.zero_emod], fmul_zero]
      exact gpr_null p z ks
    · exact gpr_hit p z ks _ (by rcases List.mem_cons.1 h with h | h; exact absurd h e; exact h)
theorem fsub_pos {p z k : Int} (hz : 0 ≤ z ∧ z < p) (hk : 0 ≤ k ∧ k < p) (e : z ≠ k) : 0 < fsub p z k := by
  have h0 := fsub_bd p z k (by omega)
  rcases Int.lt_or_eq_of_le h0.1 with h | h
  · exact h
  · exfalso
    unfold fsub at h
    have h1 : (z - k) % p = 0 := h.symm
    obtain ⟨t, ht⟩ := Int.dvd_of_emod_eq_zero h1
    have h2 : t = 0 := by
      rcases (show t ≤ -1 ∨ t = 0 ∨ 1 ≤ t by omega) with h3 | h3 | h3
      · have := Int.mul_le_mul_of_nonneg_left h3 (show 0 ≤ p by omega); omega
      · exact h3
      · have := Int.mul_le_mul_of_nonneg_left h3 (show 0 ≤ p by omega); omega
    subst h2; omega
theorem gpr_pos {p z : Int} (h : GoodI p) (hz : 0 ≤ z ∧ z < p) : ∀ (ks : List Int) (v : Int), 0 < v ∧ v < p → El p ks → z ∉ ks → 0 < gpr p z v ks
  | [], _, hv, _, _ => hv.1
  | k :: ks, v, hv, he, hk => by
    have hp := h.two
    have hs := fsub_bd p z k (by omega)
    have h0 := fsub_pos hz (he k (by simp)) (fun e => hk (by rw [e]; simp))
    exact gpr_pos h hz ks _ ⟨h.fmul_ne hv.1 hv.2 h0 hs.2, (fmul_bd p _ _ (by omega)).2⟩ (fun x hx => he x (by simp [hx])) (fun hx => hk (by simp [hx]))

/-- The constant of place i. -/
def scl (p : Int) (xs : List Int) (i : Nat) : Int := finv p (gpr p (co xs i) 1 (xs.eraseIdx i))
def scls (p : Int) (xs : List Int) : List Int := (List.range xs.length).map (scl p xs)
theorem scl_bd {p : Int} (hp : 0 < p) (xs : List Int) (i : Nat) : 0 ≤ scl p xs i ∧ scl p xs i < p := fpow_bd p _ _ hp
theorem scls_len (p : Int) (xs : List Int) : (scls p xs).length = xs.length := by unfold scls; simp
theorem scls_get (p : Int) {xs : List Int} {i : Nat} (h : i < xs.length) : (scls p xs)[i]? = some (scl p xs i) := by unfold scls; simp [h]

theorem base_van {p : Int} (h : GoodI p) {xs : List Int} (hn : xs.Nodup) (hx : El p xs) {i : Nat} (hi : i < xs.length) : base p xs i = pscl p (scl p xs i) (van p [1] (xs.eraseIdx i)) := by
  have hp := h.two
  have h1 : Itp p xs ((List.range xs.length).map fun j => if j = i then 1 else 0) (base p xs i) := ⟨base_trim _ _ _, base_el (by omega) _ _, base_len p xs hi, fun j hj => by
    rw [co_map, if_pos hj]
    by_cases e : j = i
    · subst e; rw [if_pos rfl, base_self h hn hx hi]
    · rw [if_neg e, base_other hj e]⟩
  refine h1.unique h hn hx ⟨pscl_trim _ _ _, pscl_el (by omega) _ _, ?_, fun j hj => ?_⟩
  · have h2 := pscl_len p (scl p xs i) (van p [1] (xs.eraseIdx i))
    have h3 := van_len p (xs.eraseIdx i) [1]
    rw [List.length_eraseIdx_of_lt hi, List.length_singleton] at h3
    omega
  · rw [pev_pscl, pev_van, pev_one (by omega), co_map, if_pos hj]
    by_cases e : j = i
    · subst e
      rw [if_pos rfl, fmul_comm]
      exact h.inv (gpr_pos h (hx _ (co_mem hi)) _ _ (by omega) (el_erase hx _) (erase_not hn hi)) (gpr_bd (by omega) _ _ _ (by omega)).2
    · rw [if_neg e, gpr_hit p _ _ _ (erase_in hj e), fmul_zero]
theorem pscl_pscl (p y s : Int) (a : List Int) : pscl p (fmul p y s) a = pscl p y (pscl p s a) :=
  same_of (pscl_trim _ _ _) (pscl_trim _ _ _) fun n => by
    rw [co_pscl, co_pscl, co_pscl]; unfold fmul
    rw [mm (mdd p (y * s)) rfl, mm (a := y) rfl (mdd p (s * co a n)), Int.mul_assoc]
/-- What the quotient is. -/
theorem van_quot {p : Int} (h : GoodI p) {xs : List Int} {i : Nat} (hi : i < xs.length) {q r : List Int} (hd : DM p (van p [1] xs) (lin p (co xs i)) q r) : q = van p [1] (xs.eraseIdx i) := by
  have hp := h.two
  have hv := van_el (p := p) (by omega) (xs.eraseIdx i) [1] (El.one (by omega))
  have h1 := DM.make (q := van p [1] (xs.eraseIdx i)) (b := lin p (co xs i)) (r := []) hv (El.nil p) (by rw [lin_tn]; exact Nat.zero_lt_succ _)
  have e : padd p (pmul p (van p [1] (xs.eraseIdx i)) (lin p (co xs i))) [] = van p [1] xs := by
    rw [← van_erase p xs [1] i hi]
    refine same_of (padd_trim _ _ _) (van_trim _ _ _ rfl) fun n => ?_
    rw [co_padd, co_nil, Int.add_zero, (van_el (p := p) (by omega) xs [1] (El.one (by omega))).cm (by omega)]
  rw [e, van_trim _ _ _ rfl] at h1
  exact (hd.unique h (lin_el (by omega) _) h1).1
/-- A summand of the sum over the points. -/
theorem term_eq {p : Int} (h : GoodI p) {xs : List Int} (hn : xs.Nodup) (hx : El p xs) {i : Nat} (hi : i < xs.length) {q r : List Int} (hd : DM p (van p [1] xs) (lin p (co xs i)) q r) (y : Int) : pscl p (fmul p y (scl p xs i)) q = pscl p y (base p xs i) := by
  rw [van_quot h hi hd, pscl_pscl, base_van h hn hx hi]
theorem wt_eq {p : Int} (h : GoodI p) {xs : List Int} (hn : xs.Nodup) (hx : El p xs) {i : Nat} (hi : i < xs.length) (z : Int) : fmul p (scl p xs i) (gpr p z 1 (xs.eraseIdx i)) = pev p (base p xs i) z := by
  have hp := h.two
  rw [base_van h hn hx hi, pev_pscl, pev_van, pev_one (by omega)]
theorem nodup_of {xs : List Int} (h : ∀ i, i < xs.length → co xs i ∉ xs.eraseIdx i) : xs.Nodup := by
  refine List.pairwise_iff_getElem.2 fun i j hi hj hij e => ?_
  refine h i hi ?_
  rw [co_get hi, e]
  exact List.mem_eraseIdx_iff_getElem.2 ⟨j, hj, by omega, rfl⟩

/-- The entries made so far. -/
def fillL (f : Nat → Int) (N k : Nat) : List Int := (List.range N).map fun n => if n < k then f n else 0
theorem fillL_len (f : Nat → Int) (N k : Nat) : (fillL f N k).length = N := by unfold fillL; simp
theorem fillL_start (f : Nat → Int) (N : Nat) : fillL f N 0 = List.replicate N 0 := by
  rw [← map_zero 1]; exact map_ext fun n _ => by rw [if_neg (by omega), Int.zero_emod]
theorem fillL_get (f : Nat → Int) (N k n : Nat) (h : n < N) : (fillL f N k)[n]? = some (if n < k then f n else 0) := map_get (fun n => if n < k then f n else 0) h
theorem fillL_set (f : Nat → Int) (N k : Nat) : (fillL f N k).set k (f k) = fillL f N (k + 1) :=
  map_set N k (by rw [if_pos (by omega)]) fun n hn => by
    by_cases h : n < k
    · rw [if_pos h, if_pos (by omega)]
    · rw [if_neg h, if_neg (by omega)]
theorem fillL_done (f : Nat → Int) (N : Nat) : fillL f N N = (List.range N).map f := map_ext fun n hn => by rw [if_pos hn]
/-- Entries that are replaced one by one. -/
def mixL (f g : Nat → Int) (N k : Nat) : List Int := (List.range N).map fun n => if n < k then f n else g n
theorem mixL_len (f g : Nat → Int) (N k : Nat) : (mixL f g N k).length = N := by unfold mixL; simp
theorem mixL_start (f g : Nat → Int) (N : Nat) : mixL f g N 0 = (List.range N).map g := map_ext fun n _ => by rw [if_neg (by omega)]
theorem mixL_get (f g : Nat → Int) (N k n : Nat) (h : n < N) : (mixL f g N k)[n]? = some (if n < k then f n else g n) := map_get (fun n => if n < k then f n else g n) h
theorem mixL_set (f g : Nat → Int) (N k : Nat) : (mixL f g N k).set k (f k) = mixL f g N (k + 1) :=
  map_set N k (by rw [if_pos (by omega)]) fun n hn => by
    by_cases h : n < k
    · rw [if_pos h, if_pos (by omega)]
    · rw [if_neg h, if_neg (by omega)]
theorem mixL_done (f g : Nat → Int) (N : Nat) : mixL f g N N = (List.range N).map f := map_ext fun n hn => by rw [if_pos hn]
theorem range_co (xs : List Int) : (List.range xs.length).map (co xs) = xs := list_ext (by simp) fun i => by
  rw [co_map]
  by_cases h : i < xs.length
  · rw [if_pos h]
  · rw [if_neg h, co_fin xs i (by omega)]

/-! ### Points -/
def px (ps : List (Int × Int)) : List Int := ps.map Prod.fst
def py (ps : List (Int × Int)) : List Int := ps.map Prod.snd
theorem px_len (ps : List (Int × Int)) : (px ps).length = ps.length := by unfold px; simp
theorem py_len (ps : List (Int × Int)) : (py ps).length = ps.length := by unfold py; simp
theorem px_at {ps : List (Int × Int)} {i : Nat} {x y : Int} (h : ps[i]? = some (x, y)) : co (px ps) i = x := co_at (by unfold px; rw [List.getElem?_map, h]; rfl)
theorem py_at {ps : List (Int × Int)} {i : Nat} {x y : Int} (h : ps[i]? = some (x, y)) : co (py ps) i = y := co_at (by unfold py; rw [List.getElem?_map, h]; rfl)
theorem px_get {ps : List (Int × Int)} {i : Nat} {x y : Int} (h : ps[i]? = some (x, y)) : (px ps)[i]? = some x := by unfold px; rw [List.getElem?_map, h]; rfl
theorem px_zip {xs : List Int} {f : Int → Int} : px (xs.map fun x => (x, f x)) = xs := by unfold px; rw [List.map_map]; exact List.map_id' xs
theorem py_zip {xs : List Int} {f : Int → Int} : py (xs.map fun x => (x, f x)) = xs.map f := by unfold py; rw [List.map_map]; rfl
theorem px_snoc (ps : List (Int × Int)) (x y : Int) : px (ps ++ [(x, y)]) = px ps ++ [x] := by unfold px; simp
theorem py_snoc (ps : List (Int × Int)) (x y : Int) : py (ps ++ [(x, y)]) = py ps ++ [y] := by unfold py; simp
/-- The polynomial through the points. -/
def thru (p : Int) (ps : List (Int × Int)) : List Int := lag p (px ps) (py ps) ps.length
theorem thru_itp {p : Int} (h : GoodI p) {ps : List (Int × Int)} (hn : (px ps).Nodup) (hx : El p (px ps)) (hy : El p (py ps)) : Itp p (px ps) (py ps) (thru p ps) := by
  unfold thru; rw [← px_len]; exact lag_itp h hn hx hy
end PolyMath

/- Plain facts about determinants of integer matrices, with no Go in sight: expansion along the first column, and how it turns under operations on rows. A matrix is a function of two indices. No conditions but those said. -/
namespace MatMath
open PolyMath

/-! ### Sums -/
def sg : Nat → (Nat → Int) → Int
  | 0, _ => 0
  | n + 1, f => sg n f + f n
theorem sg_succ (n : Nat) (f : Nat → Int) : sg (n + 1) f = sg n f + f n := rfl
theorem sg_congr {f g : Nat → Int} : ∀ n, (∀ i, i < n → f i = g i) → sg n f = sg n g
  | 0, _ => rfl
  | n + 1, h => by rw [sg_succ, sg_succ, sg_congr n (fun i hi => h i (by omega)), h n (by omega)]
theorem sg_zero {f : Nat → Int} : ∀ n, (∀ i, i < n → f i = 0) → sg n f = 0
  | 0, _ => rfl
  | n + 1, h => by rw [sg_succ, sg_zero n (fun i hi => h i (by omega)), h n (by omega)]; rfl
theorem sg_add (f g : Nat → Int) : ∀ n, sg n (fun i => f i + g i) = sg n f + sg n g
  | 0 => rfl
  | n + 1 => by rw [sg_succ, sg_succ, sg_succ, sg_add f g n]; omega
theorem sg_mul (k : Int) (f : Nat → Int) : ∀ n, sg n (fun i => k * f i) = k * sg n f
  | 0 => (Int.mul_zero k).symm
  | n + 1 => by rw [sg_succ, sg_succ, sg_mul k f n, Int.mul_add]
theorem sg_mod {p : Int} {f g : Nat → Int} : ∀ n, (∀ i, i < n → f i % p = g i % p) → sg n f % p = sg n g % p
  | 0, _ => rfl
  | n + 1, h => by rw [sg_succ, sg_succ]; exact ma (sg_mod n fun i hi => h i (by omega)) (h n (by omega))
theorem sg_one {f : Nat → Int} {j : Nat} : ∀ n, j < n → (∀ i, i < n → i ≠ j → f i = 0) → sg n f = f j
  | n + 1, hj, h => by
    rw [sg_succ]
    by_cases e : n = j
    · subst e
      rw [sg_zero n (fun i hi => h i (by omega) (by omega)), Int.zero_add]
    · rw [sg_one n (by omega) (fun i hi => h i (by omega)), h n (by omega) e, Int.add_zero]
theorem sg_two {f : Nat → Int} {j : Nat} : ∀ n, j + 1 < n → (∀ i, i < n → i ≠ j → i ≠ j + 1 → f i = 0) → sg n f = f j + f (j + 1)
  | n + 1, hj, h => by
    rw [sg_succ]
    by_cases e : n = j + 1
    · subst e
      rw [sg_one (j := j) (j + 1) (by omega) (fun i hi hne => h i (by omega) hne (by omega))]
    · rw [sg_two n (by omega) (fun i hi => h i (by omega)), h n (by omega) (by omega) e, Int.add_zero]
theorem sg_comm (f : Nat → Nat → Int) (m : Nat) : ∀ n, sg n (fun i => sg m (fun j => f i j)) = sg m (fun j => sg n (fun i => f i j))
  | 0 => (sg_zero m fun _ _ => rfl).symm
  | n + 1 => by rw [sg_succ, sg_comm f m n, ← sg_add]; rfl

/-! ### The determinant -/
/-- The index that skips i. -/
def del (i r : Nat) : Nat := if r < i then r else r + 1
theorem del_ne (i r : Nat) : del i r ≠ i := by unfold del; split <;> omega
theorem del_lt {i r n : Nat} (h : r < n) : del i r < n + 1 := by unfold del; split <;> omega
/-- The matrix without row i and without its first column. -/
def mnr (A : Nat → Nat → Int) (i : Nat) : Nat → Nat → Int := fun r c => A (del i r) (c + 1)
def sgn : Nat → Int
  | 0 => 1
  | n + 1 => -sgn n
def det : Nat → (Nat → Nat → Int) → Int
  | 0, _ => 1
  | n + 1, A => sg (n + 1) fun i => sgn i * A i 0 * det n (mnr A i)
theorem det_succ (n : Nat) (A : Nat → Nat → Int) : det (n + 1) A = sg (n + 1) fun i => sgn i * A i 0 * det n (mnr A i) := rfl
theorem det_congr : ∀ (n : Nat) {A B : Nat → Nat → Int}, (∀ r c, r < n → c < n → A r c = B r c) → det n A = det n B
  | 0, _, _, _ => rfl
  | n + 1, A, B, h => by
    rw [det_succ, det_succ]
    refine sg_congr (n + 1) fun i hi => ?_
    rw [h i 0 hi (by omega), det_congr n (A := mnr A i) (B := mnr B i) fun r c hr hc => h _ _ (del_lt hr) (by omega)]
theorem det_mod {p : Int} : ∀ (n : Nat) {A B : Nat → Nat → Int}, (∀ r c, r < n → c < n → A r c % p = B r c % p) → det n A % p = det n B % p
  | 0, _, _, _ => rfl
  | n + 1, A, B, h => by
    rw [det_succ, det_succ]
    refine sg_mod (n + 1) fun i hi => ?_
    exact mm (mm rfl (h i 0 hi (by omega))) (det_mod n (A := mnr A i) (B := mnr B i) fun r c hr hc => h _ _ (del_lt hr) (by omega))

/-- The matrix with row r put in. -/
def upd (A : Nat → Nat → Int) (r : Nat) (u : Nat → Int) : Nat → Nat → Int := fun i c => if i = r then u c else A i c
theorem upd_self (A : Nat → Nat → Int) (r : Nat) : upd A r (A r) = A := by
  funext i c; unfold upd; by_cases h : i = r
  · rw [if_pos h, h]
  · rw [if_neg h]
theorem upd_upd (A : Nat → Nat → Int) (r : Nat) (u v : Nat → Int) : upd (upd A r u) r v = upd A r v := by
  funext i c; unfold upd; by_cases h : i = r
  · rw [if_pos h, if_pos h]
  · rw [if_neg h, if_neg h, if_neg h]
theorem upd_comm (A : Nat → Nat → Int) {r s : Nat} (h : r ≠ s) (u v : Nat → Int) : upd (upd A r u) s v = upd (upd A s v) r u := by
  funext i c; unfold upd
  by_cases h1 : i = r <;> by_cases h2 : i = s
  · omega
  · rw [if_neg h2, if_pos h1, if_pos h1]
  · rw [if_pos h2, if_neg h1, if_pos h2]
  · rw [if_neg h2, if_neg h1, if_neg h1, if_neg h2]
/-- Where row r stands when row i is left out. -/
def pre (i r : Nat) : Nat := if i < r then r - 1 else r
theorem del_pre {i r x : Nat} (h : i ≠ r) : del i x = r ↔ x = pre i r := by
  unfold del pre
  split <;> split <;> constructor <;> intro _ <;> omega
theorem mnr_same (A : Nat → Nat → Int) (r : Nat) (u : Nat → Int) : mnr (upd A r u) r = mnr A r := by
  funext x c; unfold mnr upd; rw [if_neg (del_ne r x)]
theorem mnr_upd (A : Nat → Nat → Int) {i r : Nat} (h : i ≠ r) (u : Nat → Int) : mnr (upd A r u) i = upd (mnr A i) (pre i r) (fun c => u (c + 1)) := by
  funext x c; unfold mnr upd
  by_cases e : del i x = r
  · rw [if_pos e, if_pos ((del_pre h).1 e)]
  · rw [if_neg e, if_neg (fun h2 => e ((del_pre h).2 h2))]
theorem pre_lt {i r n : Nat} (h : i ≠ r) (hi : i < n + 1) (hr : r < n + 1) : pre i r < n := by unfold pre; split <;> omega

theorem det_add : ∀ (n : Nat) (A : Nat → Nat → Int) (r : Nat) (u v : Nat → Int), r < n → det n (upd A r fun c => u c + v c) = det n (upd A r u) + det n (upd A r v)
  | n + 1, A, r, u, v, hr => by
    rw [det_succ, det_succ, det_succ, ← sg_add]
    refine sg_congr (n + 1) fun i hi => ?_
    by_cases e : i = r
    · subst e
      rw [mnr_same, mnr_same, mnr_same]
      show sgn i * (if i = i then u 0 + v 0 else A i 0) * _ = sgn i * (if i = i then u 0 else A i 0) * _ + sgn i * (if i = i then v 0 else A i 0) * _
      rw [if_pos rfl, if_pos rfl, if_pos rfl, Int.mul_add, Int.add_mul]
    · rw [mnr_upd A e, mnr_upd A e, mnr_upd A e, det_add n (mnr A i) (pre i r) (fun c => u (c + 1)) (fun c => v (c + 1)) (pre_lt e hi hr)]
      show sgn i * (if i = r then u 0 + v 0 else A i 0) * _ = sgn i * (if i = r then u 0 else A i 0) * _ + sgn i * (if i = r then v 0 else A i 0) * _
      rw [if_neg e, if_neg e, if_neg e, Int.mul_add]
theorem det_smul : ∀ (n : Nat) (A : Nat → Nat → Int) (r : Nat) (k : Int) (u : Nat → Int), r < n → det n (upd A r fun c => k * u c) = k * det n (upd A r u)
  | n + 1, A, r, k, u, hr => by
    rw [det_succ, det_succ, ← sg_mul]
    refine sg_congr (n + 1) fun i hi => ?_
    by_cases e : i = r
    · subst e
      rw [mnr_same, mnr_same]
      show sgn i * (if i = i then k * u 0 else A i 0) * _ = k * (sgn i * (if i = i then u 0 else A i 0) * _)
      rw [if_pos rfl, if_pos rfl]
      generalize det n (mnr A i) = D
      rw [← Int.mul_assoc, ← Int.mul_assoc, ← Int.mul_assoc, Int.mul_comm (sgn i) k]
    · rw [mnr_upd A e, mnr_upd A e, det_smul n (mnr A i) (pre i r) k (fun c => u (c + 1)) (pre_lt e hi hr)]
      show sgn i * (if i = r then k * u 0 else A i 0) * _ = k * (sgn i * (if i = r then u 0 else A i 0) * _)
      rw [if_neg e, if_neg e, Int.mul_left_comm]

/-- Two equal rows beside one another. -/
theorem det_adj : ∀ (n : Nat) (A : Nat → Nat → Int) (r : Nat), r + 1 < n → (∀ c, A r c = A (r + 1) c) → det n A = 0
  | n + 1, A, r, hr, h => by
    rw [det_succ, sg_two (j := r) (n + 1) hr]
    · have e : mnr A r = mnr A (r + 1) := by
        funext x c; unfold mnr del
        rcases Nat.lt_trichotomy x r with h1 | h1 | h1
        · rw [if_pos h1, if_pos (by omega)]
        · subst h1; rw [if_neg (by omega), if_pos (by omega)]; exact (h _).symm
        · rw [if_neg (by omega), if_neg (by omega)]
      rw [e, h 0, show sgn (r + 1) = -sgn r from rfl, Int.neg_mul, Int.neg_mul]
      omega
    · intro i hi h1 h2
      have h3 : det n (mnr A i) = 0 := by
        rcases (show i < r ∨ r + 1 < i by omega) with h4 | h4
        · refine det_adj n (mnr A i) (r - 1) (by omega) fun c => ?_
          unfold mnr del
          rw [if_neg (by omega), if_neg (by omega), show r - 1 + 1 = r from by omega]; exact h _
        · refine det_adj n (mnr A i) r (by omega) fun c => ?_
          unfold mnr del
          rw [if_pos (by omega), if_pos (by omega)]; exact h _
      rw [h3, Int.mul_zero]

/-- From 'two equal rows give nought' to 'a swap turns the sign'. -/
theorem swap_of {n r s : Nat} (hr : r < n) (hs : s < n) (hne : r ≠ s) (A : Nat → Nat → Int) (h0 : ∀ u, det n (upd (upd A r u) s u) = 0) (u v : Nat → Int) : det n (upd (upd A r v) s u) = -det n (upd (upd A r u) s v) := by
  have e1 := h0 (fun c => u c + v c)
  rw [det_add n _ s u v hs, upd_comm A hne, upd_comm A hne, det_add n _ r u v hr, det_add n _ r u v hr, ← upd_comm A hne, ← upd_comm A hne, ← upd_comm A hne, ← upd_comm A hne, h0 u, h0 v] at e1
  omega
theorem det_swap_adj {n r : Nat} (hr : r + 1 < n) (A : Nat → Nat → Int) (u v : Nat → Int) : det n (upd (upd A r v) (r + 1) u) = -det n (upd (upd A r u) (r + 1) v) :=
  swap_of (by omega) hr (by omega) A (fun u => det_adj n _ r hr fun c => by unfold upd; rw [if_neg (by omega), if_pos rfl, if_pos rfl]) u v
/-- Two equal rows. -/
theorem det_same {n : Nat} : ∀ (g : Nat) (A : Nat → Nat → Int) (r : Nat), r + g + 1 < n → (∀ c, A r c = A (r + g + 1) c) → det n A = 0
  | 0, A, r, hr, h => det_adj n A r hr h
  | g + 1, A, r, hr, h => by
    have e := det_swap_adj (n := n) (r := r + g + 1) (by omega) A (A (r + g + 1)) (A (r + g + 2))
    rw [upd_self A (r + g + 1), show r + g + 1 + 1 = r + g + 2 from rfl, upd_self A (r + g + 2)] at e
    have h1 : det n (upd (upd A (r + g + 1) (A (r + g + 2))) (r + g + 2) (A (r + g + 1))) = 0 := by
      refine det_same g _ r (by omega) fun c => ?_
      unfold upd
      rw [if_neg (by omega), if_neg (by omega), if_neg (by omega), if_pos rfl]
      exact h c
    omega
theorem det_equal {n r s : Nat} (hr : r < n) (hs : s < n) (hne : r ≠ s) (A : Nat → Nat → Int) (h : ∀ c, A r c = A s c) : det n A = 0 := by
  rcases (show r < s ∨ s < r by omega) with h1 | h1
  · exact det_same (s - r - 1) A r (by omega) (by rw [show r + (s - r - 1) + 1 = s from by omega]; exact h)
  · exact det_same (r - s - 1) A s (by omega) (by rw [show s + (r - s - 1) + 1 = r from by omega]; exact fun c => (h c).symm)

/-- A swap of two rows turns the sign. -/
theorem det_swap {n r s : Nat} (hr : r < n) (hs : s < n) (hne : r ≠ s) (A : Nat → Nat → Int) : det n (upd (upd A r (A s)) s (A r)) = -det n A := by
  have e := swap_of hr hs hne A (fun u => det_equal hr hs hne _ fun c => by unfold upd; rw [if_neg hne, if_pos rfl, if_pos rfl]) (A r) (A s)
  rwa [upd_self A r, upd_self A s] at e
/-- A multiple of another row added. -/
theorem det_row {n r s : Nat} (hr : r < n) (hs : s < n) (hne : r ≠ s) (A : Nat → Nat → Int) (k : Int) : det n (upd A s fun c => A s c + k * A r c) = det n A := by
  rw [det_add n A s (A s) (fun c => k * A r c) hs, det_smul n A s k (A r) hs, upd_self A s,
    det_equal (n := n) (r := r) (s := s) hr hs hne (upd A s (A r)) (fun c => by unfold upd; rw [if_neg hne, if_pos rfl]), Int.mul_zero, Int.add_zero]
/-- A row times a number. -/
theorem det_scale {n r : Nat} (hr : r < n) (A : Nat → Nat → Int) (k : Int) : det n (upd A r fun c => k * A r c) = k * det n A := by
  rw [det_smul n A r k (A r) hr, upd_self A r]
theorem det_none {n r : Nat} (hr : r < n) (A : Nat → Nat → Int) (h : ∀ c, A r c = 0) : det n A = 0 := by
  have e := det_smul n A r 0 (A r) hr
  rw [Int.zero_mul] at e
  rw [← e]
  refine det_congr n fun i c _ _ => ?_
  unfold upd
  by_cases h1 : i = r
  · rw [if_pos h1, h1, h c]; exact (Int.zero_mul _).symm
  · rw [if_neg h1]

/-! ### Triangles -/
def prd : Nat → (Nat → Int) → Int
  | 0, _ => 1
  | n + 1, f => prd n f * f n
theorem prd_shift (f : Nat → Int) : ∀ n, prd (n + 1) f = f 0 * prd n (fun i => f (i + 1))
  | 0 => by show 1 * f 0 = f 0 * 1; omega
  | n + 1 => by
    show prd (n + 1) f * f (n + 1) = f 0 * (prd n (fun i => f (i + 1)) * f (n + 1))
    rw [prd_shift f n, Int.mul_assoc]
theorem det_tri : ∀ (n : Nat) {A : Nat → Nat → Int}, (∀ r c, r < n → c < r → A r c = 0) → det n A = prd n fun i => A i i
  | 0, _, _ => rfl
  | n + 1, A, h => by
    rw [det_succ, sg_one (j := 0) (n + 1) (by omega) (fun i hi h0 => by rw [h i 0 hi (by omega), Int.mul_zero, Int.zero_mul]), prd_shift]
    show 1 * A 0 0 * _ = _
    rw [Int.one_mul, det_tri n (A := mnr A 0) (fun r c hr hc => by unfold mnr del; rw [if_neg (by omega)]; exact h _ _ (by omega) (by omega))]
    rfl
/-- The unit matrix. -/
def one (r c : Nat) : Int := if r = c then 1 else 0
theorem prd_one : ∀ n, prd n (fun _ => 1) = 1
  | 0 => rfl
  | n + 1 => by show prd n (fun _ => 1) * 1 = 1; rw [prd_one n]; rfl
theorem det_one (n : Nat) : det n one = 1 := by
  rw [det_tri n (A := one) (fun r c _ hc => if_neg (by omega)), show (fun i => one i i) = fun _ => 1 from funext fun i => if_pos rfl, prd_one]

/-! ### Products -/
/-- The product of two matrices, with m terms in each sum. -/
def mat (m : Nat) (A B : Nat → Nat → Int) : Nat → Nat → Int := fun r c => sg m fun j => A r j * B j c
theorem mat_assoc (m l : Nat) (A B C : Nat → Nat → Int) (r c : Nat) : mat l (mat m A B) C r c = mat m A (mat l B C) r c := by
  unfold mat
  have e1 : (fun j => sg m (fun k => A r k * B k j) * C j c) = fun j => sg m (fun k => A r k * B k j * C j c) := by
    funext j
    rw [Int.mul_comm, ← sg_mul]
    exact sg_congr m fun k _ => Int.mul_comm _ _
  have e2 : (fun k => A r k * sg l (fun j => B k j * C j c)) = fun k => sg l (fun j => A r k * B k j * C j c) := by
    funext k
    rw [← sg_mul]
    exact sg_congr l fun j _ => (Int.mul_assoc _ _ _).symm
  rw [e1, e2, sg_comm]
theorem mat_one_left (n : Nat) (B : Nat → Nat → Int) {r : Nat} (hr : r < n) (c : Nat) : mat n one B r c = B r c := by
  unfold mat
  rw [sg_one (j := r) n hr (fun i _ h => by unfold one; rw [if_neg (fun e => h e.symm), Int.zero_mul])]
  unfold one; rw [if_pos rfl, Int.one_mul]
theorem mat_one_right (n : Nat) (A : Nat → Nat → Int) (r : Nat) {c : Nat} (hc : c < n) : mat n A one r c = A r c := by
  unfold mat
  rw [sg_one (j := c) n hc (fun i _ h => by unfold one; rw [if_neg h, Int.mul_zero])]
  unfold one; rw [if_pos rfl, Int.mul_one]
/-- A product, row by row. -/
theorem mat_upd (m : Nat) (A B : Nat → Nat → Int) (r : Nat) (u : Nat → Int) : mat m (upd A r u) B = upd (mat m A B) r (fun c => sg m fun j => u j * B j c) := by
  funext i c; unfold mat upd
  by_cases h : i = r
  · rw [if_pos h]; exact sg_congr m fun j _ => by rw [if_pos h]
  · rw [if_neg h]; exact sg_congr m fun j _ => by rw [if_neg h]
end MatMath

/- Plain facts about row operations and rank over the fields of the seven Mersenne primes, with no Go in sight: what operations on rows keep, reduced forms, the pivots of a matrix, the rank of products and of the transpose, the determinant of a product. Conditions: a supported prime where said. -/
namespace MatMath
open PolyMath FieldMath

theorem inv_ex {p a : Int} (h : GoodI p) (ha : a % p ≠ 0) : ∃ k, k * a % p = 1 := by
  have hp := h.two
  have hb := md a p (by omega)
  have hi := h.inv (a := a % p) (by omega) hb.2
  refine ⟨fpow p (a % p) (p - 2), ?_⟩
  unfold fmul at hi
  rw [← hi, Int.mul_comm]
  exact mm (mdd p a).symm rfl

/-- B comes of A by operations on rows (m of them, modulo p); the determinant is multiplied by d. -/
inductive RE (p : Int) (m : Nat) : Int → (Nat → Nat → Int) → (Nat → Nat → Int) → Prop
  | same {A B : Nat → Nat → Int} (h : ∀ r c, r < m → A r c % p = B r c % p) : RE p m 1 A B
  | swap {A : Nat → Nat → Int} {r s : Nat} (hr : r < m) (hs : s < m) (hne : r ≠ s) : RE p m (-1) A (upd (upd A r (A s)) s (A r))
  | scale {A : Nat → Nat → Int} {r : Nat} {k k' : Int} (hr : r < m) (hk : k' * k % p = 1) : RE p m k A (upd A r fun c => k * A r c)
  | add {A : Nat → Nat → Int} {r s : Nat} {k : Int} (hr : r < m) (hs : s < m) (hne : r ≠ s) : RE p m 1 A (upd A s fun c => A s c + k * A r c)
  | trans {d e : Int} {A B C : Nat → Nat → Int} (h1 : RE p m d A B) (h2 : RE p m e B C) : RE p m (e * d) A C

theorem RE.refl (p : Int) (m : Nat) (A : Nat → Nat → Int) : RE p m 1 A A := .same fun _ _ _ => rfl
theorem RE.det {p : Int} {m : Nat} {d : Int} {A B : Nat → Nat → Int} (h : RE p m d A B) : MatMath.det m B % p = d * MatMath.det m A % p := by
  induction h with
  | same h => rw [Int.one_mul]; exact (det_mod m fun r c hr _ => h r c hr).symm
  | swap hr hs hne => rw [det_swap hr hs hne, Int.neg_mul, Int.one_mul]
  | scale hr _ => rw [det_scale hr]
  | add hr hs hne => rw [det_row hr hs hne, Int.one_mul]
  | trans _ _ i1 i2 => rw [i2, Int.mul_assoc]; exact mm rfl i1
theorem RE.unit {p : Int} (hp : 1 < p) {m : Nat} {d : Int} {A B : Nat → Nat → Int} (h : RE p m d A B) : ∃ d', d' * d % p = 1 := by
  induction h with
  | same _ => exact ⟨1, small (by omega) hp⟩
  | swap _ _ _ => exact ⟨-1, by rw [show (-1 : Int) * -1 = 1 from rfl]; exact small (by omega) hp⟩
  | scale _ hk => exact ⟨_, hk⟩
  | add _ _ _ => exact ⟨1, small (by omega) hp⟩
  | @trans d e A B C _ _ i1 i2 =>
    obtain ⟨x, hx⟩ := i1
    obtain ⟨y, hy⟩ := i2
    refine ⟨x * y, ?_⟩
    have e1 : x * y * (e * d) = (y * e) * (x * d) := by
      rw [Int.mul_assoc x y, ← Int.mul_assoc y e d, Int.mul_left_comm]
    rw [e1, mm (hy.trans (small (a := 1) (by omega) hp).symm) (hx.trans (small (a := 1) (by omega) hp).symm), Int.one_mul]
    exact small (by omega) hp
theorem row_mat (l : Nat) (A C : Nat → Nat → Int) (r : Nat) : (fun c => sg l fun j => A r j * C j c) = mat l A C r := rfl
theorem RE.mul {p : Int} {m : Nat} (l : Nat) (C : Nat → Nat → Int) {d : Int} {A B : Nat → Nat → Int} (h : RE p m d A B) : RE p m d (mat l A C) (mat l B C) := by
  induction h with
  | same h => exact .same fun r c hr => sg_mod l fun j _ => mm (h r j hr) rfl
  | @swap A r s hr hs hne =>
    rw [mat_upd, mat_upd, row_mat, row_mat]
    exact .swap hr hs hne
  | @scale A r k k' hr hk =>
    rw [mat_upd]
    have e : (fun c => sg l fun j => k * A r j * C j c) = fun c => k * mat l A C r c := funext fun c => by
      unfold mat; rw [← sg_mul]; exact sg_congr l fun j _ => Int.mul_assoc _ _ _
    rw [e]
    exact .scale hr hk
  | @add A r s k hr hs hne =>
    rw [mat_upd]
    have e : (fun c => sg l fun j => (A s j + k * A r j) * C j c) = fun c => mat l A C s c + k * mat l A C r c := funext fun c => by
      unfold mat; rw [← sg_mul, ← sg_add]; exact sg_congr l fun j _ => by rw [Int.add_mul, Int.mul_assoc]
    rw [e]
    exact .add hr hs hne
  | trans _ _ i1 i2 => exact .trans i1 i2

/-- Every entry is nought. -/
def Nil (p : Int) (m : Nat) (A : Nat → Nat → Int) : Prop := ∀ r c, r < m → A r c % p = 0
theorem RE.nil {p : Int} {m : Nat} {d : Int} {A B : Nat → Nat → Int} (h : RE p m d A B) : Nil p m A ↔ Nil p m B := by
  induction h with
  | same h => exact ⟨fun z r c hr => (h r c hr).symm.trans (z r c hr), fun z r c hr => (h r c hr).trans (z r c hr)⟩
  | @swap A r s hr hs hne =>
    constructor
    · intro z i c hi
      unfold upd
      by_cases h1 : i = s
      · rw [if_pos h1]; exact z r c hr
      · rw [if_neg h1]
        by_cases h2 : i = r
        · rw [if_pos h2]; exact z s c hs
        · rw [if_neg h2]; exact z i c hi
    · intro z i c hi
      by_cases h1 : i = s
      · have := z r c hr
        unfold upd at this
        rw [if_neg hne, if_pos rfl] at this
        rw [h1]; exact this
      · by_cases h2 : i = r
        · have := z s c hs
          unfold upd at this
          rw [if_pos rfl] at this
          rw [h2]; exact this
        · have := z i c hi
          unfold upd at this
          rw [if_neg h1, if_neg h2] at this
          exact this
  | @scale A r k k' hr hk =>
    constructor
    · intro z i c hi
      unfold upd
      by_cases h1 : i = r
      · rw [if_pos h1, Int.mul_emod, z r c hr, Int.mul_zero, Int.zero_emod]
      · rw [if_neg h1]; exact z i c hi
    · intro z i c hi
      by_cases h1 : i = r
      · have h2 := z r c hr
        unfold upd at h2
        rw [if_pos rfl] at h2
        have h3 : k' * (k * A r c) % p = 0 := by rw [Int.mul_emod, h2, Int.mul_zero, Int.zero_emod]
        rw [← Int.mul_assoc, Int.mul_emod, hk, Int.one_mul, mdd] at h3
        rw [h1]; exact h3
      · have h2 := z i c hi
        unfold upd at h2
        rw [if_neg h1] at h2
        exact h2
  | @add A r s k hr hs hne =>
    constructor
    · intro z i c hi
      unfold upd
      by_cases h1 : i = s
      · rw [if_pos h1, Int.add_emod, z s c hs, Int.mul_emod, z r c hr, Int.mul_zero, Int.zero_emod, Int.add_zero, Int.zero_emod]
      · rw [if_neg h1]; exact z i c hi
    · intro z i c hi
      have hr0 := z r c hr
      unfold upd at hr0
      rw [if_neg hne] at hr0
      by_cases h1 : i = s
      · have h2 := z s c hs
        unfold upd at h2
        rw [if_pos rfl, Int.add_emod, Int.mul_emod k, hr0, Int.mul_zero, Int.zero_emod, Int.add_zero, mdd] at h2
        rw [h1]; exact h2
      · have h2 := z i c hi
        unfold upd at h2
        rw [if_neg h1] at h2
        exact h2
  | trans _ _ i1 i2 => exact i1.trans i2

/-- x is taken to nought by A (m rows, n columns). -/
def Nul (p : Int) (m n : Nat) (A : Nat → Nat → Int) (x : Nat → Int) : Prop := ∀ r, r < m → sg n (fun j => A r j * x j) % p = 0
theorem RE.nul {p : Int} {m : Nat} {d : Int} {A B : Nat → Nat → Int} (h : RE p m d A B) (n : Nat) (x : Nat → Int) : Nul p m n A x ↔ Nul p m n B x := by
  have e := (h.mul n (fun j _ => x j)).nil
  constructor
  · intro z r hr
    exact e.1 (fun r _ hr => z r hr) r 0 hr
  · intro z r hr
    exact e.2 (fun r _ hr => z r hr) r 0 hr

/-! ### Reduced forms -/
/-- B is reduced in its first n columns, with s pivots, the i-th of them in row i and column pv i. -/
structure Ech (p : Int) (m n : Nat) (B : Nat → Nat → Int) (s : Nat) (pv : Nat → Nat) : Prop where
  len : s ≤ m
  lt : ∀ i, i < s → pv i < n
  inc : ∀ i j, i < j → j < s → pv i < pv j
  unit : ∀ i r, i < s → r < m → B r (pv i) % p = (if r = i then 1 else 0) % p
  low : ∀ i r c, i < s → i ≤ r → r < m → c < pv i → B r c % p = 0
  rest : ∀ r c, s ≤ r → r < m → c < n → B r c % p = 0

/-- Column k is made of those ahead of it. -/
def Dep (p : Int) (m n : Nat) (A : Nat → Nat → Int) (k : Nat) : Prop := ∃ x : Nat → Int, x k = 1 ∧ (∀ j, k < j → x j = 0) ∧ Nul p m n A x

theorem Ech.inj {p : Int} {m n s : Nat} {B : Nat → Nat → Int} {pv : Nat → Nat} (h : Ech p m n B s pv) {i j : Nat} (hi : i < s) (hj : j < s) (e : pv i = pv j) : i = j := by
  rcases Nat.lt_trichotomy i j with h1 | h1 | h1
  · have := h.inc i j h1 hj; omega
  · exact h1
  · have := h.inc j i h1 hi; omega
theorem sg_upto {f : Nat → Int} {p : Int} {k : Nat} : ∀ n, k < n → (∀ j, j < n → j < k → f j % p = 0) → (∀ j, j < n → k < j → f j % p = 0) → sg n f % p = f k % p := by
  intro n hk h1 h2
  rw [sg_mod n (g := fun j => if j = k then f k else 0) (fun j hj => by
    rcases Nat.lt_trichotomy j k with h | h | h
    · rw [if_neg (by omega), h1 j hj h, Int.zero_emod]
    · rw [if_pos h, h]
    · rw [if_neg (by omega), h2 j hj h, Int.zero_emod]), sg_one (j := k) n hk (fun i _ h => if_neg h), if_pos rfl]
theorem Ech.not_dep {p : Int} (hp : 1 < p) {m n s : Nat} {B : Nat → Nat → Int} {pv : Nat → Nat} (h : Ech p m n B s pv) {i : Nat} (hi : i < s) : ¬ Dep p m n B (pv i) := by
  rintro ⟨x, h1, h2, h3⟩
  have hl := h.len
  have e := h3 i (by omega)
  rw [sg_upto (k := pv i) n (h.lt i hi) (fun j _ hj => by rw [Int.mul_emod, h.low i i j hi (Nat.le_refl _) (by omega) hj, Int.zero_mul, Int.zero_emod]) (fun j _ hj => by rw [h2 j hj, Int.mul_zero, Int.zero_emod]), h1, Int.mul_one, h.unit i i hi (by omega), if_pos rfl, small (by omega) hp] at e
  omega
/-- The relation that shows a column without a pivot as made of pivots' columns ahead of it. -/
def rel (B : Nat → Nat → Int) (s : Nat) (pv : Nat → Nat) (k : Nat) : Nat → Int := fun j => (if j = k then 1 else 0) - sg s (fun i => if pv i = j ∧ pv i < k then B i k else 0)
theorem rel_sum {p : Int} {m n s : Nat} {B : Nat → Nat → Int} {pv : Nat → Nat} (h : Ech p m n B s pv) {k : Nat} (hk : k < n) (r : Nat) :
    sg n (fun j => B r j * rel B s pv k j) % p = (B r k - sg s (fun i => if pv i < k then B r (pv i) * B i k else 0)) % p := by
  have e1 : sg n (fun j => B r j * rel B s pv k j) = sg n (fun j => (if j = k then B r k else 0) + -1 * sg s (fun i => if pv i = j ∧ pv i < k then B r (pv i) * B i k else 0)) := by
    refine sg_congr n fun j _ => ?_
    unfold rel
    rw [Int.mul_sub]
    have e2 : B r j * (if j = k then 1 else 0) = if j = k then B r k else 0 := by
      by_cases e : j = k
      · rw [if_pos e, if_pos e, e, Int.mul_one]
      · rw [if_neg e, if_neg e, Int.mul_zero]
    have e3 : B r j * sg s (fun i => if pv i = j ∧ pv i < k then B i k else 0) = sg s (fun i => if pv i = j ∧ pv i < k then B r (pv i) * B i k else 0) := by
      rw [← sg_mul]
      refine sg_congr s fun i _ => ?_
      by_cases e : pv i = j ∧ pv i < k
      · rw [if_pos e, if_pos e, e.1]
      · rw [if_neg e, if_neg e, Int.mul_zero]
    rw [e2, e3]; omega
  rw [e1, sg_add, sg_mul, sg_one (j := k) n hk (fun i _ h => if_neg h), if_pos rfl, sg_comm]
  have e4 : sg s (fun i => sg n (fun j => if pv i = j ∧ pv i < k then B r (pv i) * B i k else 0)) = sg s (fun i => if pv i < k then B r (pv i) * B i k else 0) := by
    refine sg_congr s fun i hi => ?_
    rw [sg_one (j := pv i) n (h.lt i hi) (fun j _ hj => if_neg (fun e => hj e.1.symm))]
    by_cases e : pv i < k
    · rw [if_pos ⟨rfl, e⟩, if_pos e]
    · rw [if_neg (fun h => e h.2), if_neg e]
  rw [e4]; congr 1; omega
theorem Ech.rel_nul {p : Int} {m n s : Nat} {B : Nat → Nat → Int} {pv : Nat → Nat} (h : Ech p m n B s pv) {k : Nat} (hk : k < n) (hno : ∀ i, i < s → pv i ≠ k) : Nul p m n B (rel B s pv k) := by
  intro r hr
  rw [rel_sum h hk r]
  have hl := h.len
  have key : sg s (fun i => if pv i < k then B r (pv i) * B i k else 0) % p = B r k % p := by
    by_cases hrs : r < s
    · by_cases hlt : pv r < k
      · rw [sg_upto (k := r) s hrs (fun i hi hir => by
          by_cases e : pv i < k
          · rw [if_pos e, Int.mul_emod, h.unit i r hi hr, if_neg (by omega), Int.zero_emod, Int.zero_mul, Int.zero_emod]
          · rw [if_neg e, Int.zero_emod]) (fun i hi hir => by
          by_cases e : pv i < k
          · rw [if_pos e, Int.mul_emod, h.unit i r hi hr, if_neg (by omega), Int.zero_emod, Int.zero_mul, Int.zero_emod]
          · rw [if_neg e, Int.zero_emod]), if_pos hlt, Int.mul_emod, h.unit r r hrs hr, if_pos rfl, ← Int.mul_emod, Int.one_mul]
      · have hz : B r k % p = 0 := h.low r r k hrs (Nat.le_refl _) hr (by have := hno r hrs; omega)
        rw [hz, sg_mod s (g := fun _ => 0) (fun i hi => by
          by_cases e : pv i < k
          · rw [if_pos e, Int.mul_emod, h.unit i r hi hr, if_neg (fun h => hlt (by rw [h]; exact e)), Int.zero_emod, Int.zero_mul, Int.zero_emod]
          · rw [if_neg e]), sg_zero s (fun _ _ => rfl), Int.zero_emod]
    · have hz : B r k % p = 0 := h.rest r k (by omega) hr hk
      rw [hz, sg_mod s (g := fun _ => 0) (fun i hi => by
        by_cases e : pv i < k
        · rw [if_pos e, Int.mul_emod, h.unit i r hi hr, if_neg (by omega), Int.zero_emod, Int.zero_mul, Int.zero_emod]
        · rw [if_neg e]), sg_zero s (fun _ _ => rfl), Int.zero_emod]
  rw [Int.sub_emod, key, ← Int.sub_emod, Int.sub_self, Int.zero_emod]
theorem Ech.dep {p : Int} {m n s : Nat} {B : Nat → Nat → Int} {pv : Nat → Nat} (h : Ech p m n B s pv) {k : Nat} (hk : k < n) (hno : ∀ i, i < s → pv i ≠ k) : Dep p m n B k := by
  refine ⟨rel B s pv k, ?_, fun j hj => ?_, h.rel_nul hk hno⟩
  · unfold rel
    rw [if_pos rfl, sg_zero s (fun i _ => if_neg (fun e => by omega))]; rfl
  · unfold rel
    rw [if_neg (by omega), sg_zero s (fun i _ => if_neg (fun e => by omega))]; rfl
/-- The pivots' columns are those that are not made of the ones ahead: they do not hang on the way of the reckoning. -/
theorem Ech.pivot_iff {p : Int} (hp : 1 < p) {m n s : Nat} {d : Int} {A B : Nat → Nat → Int} {pv : Nat → Nat} (hr : RE p m d A B) (h : Ech p m n B s pv) {k : Nat} (hk : k < n) : (∃ i, i < s ∧ pv i = k) ↔ ¬ Dep p m n A k := by
  have hdep : Dep p m n A k ↔ Dep p m n B k :=
    ⟨fun ⟨x, h1, h2, h3⟩ => ⟨x, h1, h2, (hr.nul n x).1 h3⟩, fun ⟨x, h1, h2, h3⟩ => ⟨x, h1, h2, (hr.nul n x).2 h3⟩⟩
  constructor
  · rintro ⟨i, hi, rfl⟩ hd
    exact h.not_dep hp hi (hdep.1 hd)
  · intro hd
    refine Classical.byContradiction fun hno => hd (hdep.2 (h.dep hk fun i hi e => hno ⟨i, hi, e⟩))

/-! ### Every matrix has a reduced form -/
theorem Ech.none (p : Int) (m : Nat) (B : Nat → Nat → Int) : Ech p m 0 B 0 (fun _ => 0) :=
  ⟨Nat.zero_le _, (fun _ h => by omega), (fun _ _ _ h => by omega), (fun _ _ h => by omega), (fun _ _ _ h => by omega), fun _ _ _ _ h => by omega⟩
/-- A column without a pivot. -/
theorem Ech.skip {p : Int} {m k s : Nat} {B : Nat → Nat → Int} {pv : Nat → Nat} (h : Ech p m k B s pv) (h0 : ∀ r, s ≤ r → r < m → B r k % p = 0) : Ech p m (k + 1) B s pv :=
  ⟨h.len, fun i hi => by have := h.lt i hi; omega, h.inc, h.unit, h.low, fun r c h1 h2 h3 => by
    by_cases e : c = k
    · rw [e]; exact h0 r h1 h2
    · exact h.rest r c h1 h2 (by omega)⟩
/-- Two rows exchanged. -/
def swp (B : Nat → Nat → Int) (r s : Nat) : Nat → Nat → Int := upd (upd B r (B s)) s (B r)
theorem swp_at (B : Nat → Nat → Int) {r s : Nat} (i c : Nat) : swp B r s i c = B (if i = s then r else if i = r then s else i) c := by
  unfold swp upd
  by_cases h1 : i = s
  · rw [if_pos h1, if_pos h1]
  · rw [if_neg h1, if_neg h1]
    by_cases h2 : i = r
    · rw [if_pos h2, if_pos h2]
    · rw [if_neg h2, if_neg h2]
theorem Ech.swap {p : Int} {m k s : Nat} {B : Nat → Nat → Int} {pv : Nat → Nat} (h : Ech p m k B s pv) {r0 : Nat} (h1 : s < r0) (h2 : r0 < m) : Ech p m k (swp B s r0) s pv := by
  have hne : s ≠ r0 := by omega
  have hidx : ∀ i, i < m → (if i = r0 then s else if i = s then r0 else i) < m := fun i hi => by split <;> (try split) <;> omega
  refine ⟨h.len, h.lt, h.inc, fun i r hi hr => ?_, fun i r c hi hir hr hc => ?_, fun r c hsr hr hc => ?_⟩
  · rw [swp_at B, h.unit i _ hi (hidx r hr)]
    congr 1
    by_cases e1 : r = r0
    · rw [if_pos e1, if_neg (by omega), if_neg (by omega)]
    · rw [if_neg e1]
      by_cases e2 : r = s
      · rw [if_pos e2, if_neg (by omega), if_neg (by omega)]
      · rw [if_neg e2]
  · rw [swp_at B]
    refine h.low i _ c hi ?_ (hidx r hr) hc
    split <;> (try split) <;> omega
  · rw [swp_at B]
    refine h.rest _ c ?_ (hidx r hr) hc
    split <;> (try split) <;> omega
/-- Row q divided by its entry in column k (v: the inverse), and taken away from the rows ahead of j. -/
def elm (B : Nat → Nat → Int) (q k : Nat) (v : Int) (j : Nat) : Nat → Nat → Int := fun r c => if r = q then v * B q c else if r < j then B r c - B r k * (v * B q c) else B r c
theorem elm_zero (B : Nat → Nat → Int) (q k : Nat) (v : Int) : elm B q k v 0 = upd B q fun c => v * B q c := by
  funext r c; unfold elm upd
  by_cases h : r = q
  · rw [if_pos h, if_pos h]
  · rw [if_neg h, if_neg h, if_neg (by omega)]
theorem elm_here (B : Nat → Nat → Int) (q k : Nat) (v : Int) : elm B q k v (q + 1) = elm B q k v q := by
  funext r c; unfold elm
  by_cases h : r = q
  · rw [if_pos h, if_pos h]
  · rw [if_neg h, if_neg h]
    by_cases h2 : r < q
    · rw [if_pos h2, if_pos (by omega)]
    · rw [if_neg h2, if_neg (by omega)]
theorem elm_next (B : Nat → Nat → Int) {q j : Nat} (k : Nat) (v : Int) (h : j ≠ q) : elm B q k v (j + 1) = upd (elm B q k v j) j fun c => elm B q k v j j c + -(B j k) * elm B q k v j q c := by
  funext r c; unfold elm upd; dsimp only
  by_cases h1 : r = j
  · subst h1
    rw [if_neg h, if_pos (by omega), if_pos rfl, if_neg h, if_neg (by omega), if_pos rfl, Int.neg_mul]; omega
  · rw [if_neg h1]
    by_cases h2 : r = q
    · rw [if_pos h2, if_pos h2]
    · rw [if_neg h2, if_neg h2]
      by_cases h3 : r < j
      · rw [if_pos h3, if_pos (by omega)]
      · rw [if_neg h3, if_neg (by omega)]
theorem elm_re {p : Int} {m : Nat} (B : Nat → Nat → Int) {q k : Nat} {v v' : Int} (hq : q < m) (hv : v' * v % p = 1) : ∀ j, j ≤ m → RE p m v B (elm B q k v j)
  | 0, _ => by rw [elm_zero]; exact .scale hq hv
  | j + 1, hj => by
    have ih := elm_re B (k := k) hq hv j (by omega)
    by_cases e : j = q
    · subst e; rw [elm_here]; exact ih
    · rw [elm_next B k v e]
      have := RE.trans ih (.add (k := -(B j k)) hq (show j < m by omega) (fun h => e h.symm))
      rwa [Int.one_mul] at this
/-- A column with a pivot: row s has it, and is taken away from all others. -/
theorem Ech.pivot {p : Int} {m k s : Nat} {B : Nat → Nat → Int} {pv : Nat → Nat} {v : Int} (h : Ech p m k B s pv) (hs : s < m) (hv : v * B s k % p = 1 % p) : Ech p m (k + 1) (elm B s k v m) (s + 1) (fun i => if i = s then k else pv i) := by
  have row : ∀ c, elm B s k v m s c = v * B s c := fun c => if_pos rfl
  have other : ∀ r c, r < m → r ≠ s → elm B s k v m r c = B r c - B r k * (v * B s c) := fun r c h1 h2 => by unfold elm; rw [if_neg h2, if_pos h1]
  -- where row s has nought
  have keep : ∀ r c, r < m → B s c % p = 0 → elm B s k v m r c % p = (if r = s then 0 else B r c) % p := fun r c hr h0 => by
    by_cases e : r = s
    · rw [if_pos e, e, row, Int.mul_emod, h0, Int.mul_zero]
    · rw [if_neg e, other r c hr e, ms rfl (show B r k * (v * B s c) % p = 0 % p from by rw [Int.mul_emod, Int.mul_emod v, h0, Int.mul_zero, Int.zero_emod, Int.mul_zero, Int.zero_emod]), Int.sub_zero]
  have colk : ∀ r, r < m → elm B s k v m r k % p = (if r = s then 1 else 0) % p := fun r hr => by
    by_cases e : r = s
    · rw [if_pos e, e, row]; exact hv
    · rw [if_neg e, other r k hr e, ms rfl (mm rfl hv), Int.mul_one, Int.sub_self]
  have zs : ∀ c, c < k → B s c % p = 0 := fun c hc => h.rest s c (Nat.le_refl _) hs hc
  refine ⟨hs, fun i hi => ?_, fun i j hij hj => ?_, fun i r hi hr => ?_, fun i r c hi hir hr hc => ?_, fun r c h1 hr hc => ?_⟩
  · show (if i = s then k else pv i) < k + 1
    by_cases e : i = s
    · rw [if_pos e]; omega
    · rw [if_neg e]; have := h.lt i (by omega); omega
  · show (if i = s then k else pv i) < (if j = s then k else pv j)
    rw [if_neg (show ¬ i = s by omega)]
    by_cases e : j = s
    · rw [if_pos e]; exact h.lt i (by omega)
    · rw [if_neg e]; exact h.inc i j hij (by omega)
  · show elm B s k v m r (if i = s then k else pv i) % p = _
    by_cases e : i = s
    · rw [if_pos e, colk r hr, e]
    · have hi2 : i < s := by omega
      rw [if_neg e, keep r _ hr (zs _ (h.lt i hi2))]
      by_cases e2 : r = s
      · rw [if_pos e2, if_neg (by omega)]
      · rw [if_neg e2, h.unit i r hi2 hr]
  · have hc' : c < (if i = s then k else pv i) := hc
    by_cases e : i = s
    · rw [if_pos e] at hc'
      rw [keep r c hr (zs c hc')]
      by_cases e2 : r = s
      · rw [if_pos e2, Int.zero_emod]
      · rw [if_neg e2]; exact h.rest r c (by omega) hr hc'
    · have hi2 : i < s := by omega
      rw [if_neg e] at hc'
      have hck : c < k := by have := h.lt i hi2; omega
      rw [keep r c hr (zs c hck)]
      by_cases e2 : r = s
      · rw [if_pos e2, Int.zero_emod]
      · rw [if_neg e2]; exact h.low i r c hi2 hir hr hc'
  · by_cases e : c = k
    · rw [e, colk r hr, if_neg (by omega), Int.zero_emod]
    · rw [keep r c hr (zs c (by omega)), if_neg (by omega)]
      exact h.rest r c (by omega) hr (by omega)
theorem ech_ex {p : Int} (hg : GoodI p) (m : Nat) (A : Nat → Nat → Int) : ∀ n, ∃ d B s pv, RE p m d A B ∧ Ech p m n B s pv
  | 0 => ⟨1, A, 0, _, RE.refl p m A, Ech.none p m A⟩
  | n + 1 => by
    obtain ⟨d, B, s, pv, hr, he⟩ := ech_ex hg m A n
    by_cases h0 : ∀ r, s ≤ r → r < m → B r n % p = 0
    · exact ⟨d, B, s, pv, hr, he.skip h0⟩
    · have h1 : ∃ r0, s ≤ r0 ∧ r0 < m ∧ B r0 n % p ≠ 0 := Classical.byContradiction fun hno => h0 fun r h2 h3 => Classical.byContradiction fun h4 => hno ⟨r, h2, h3, h4⟩
      obtain ⟨r0, h2, h3, h4⟩ := h1
      have hp := hg.two
      by_cases e : s = r0
      · subst e
        obtain ⟨v, hv⟩ := inv_ex hg h4
        exact ⟨_, _, _, _, hr.trans (elm_re B (q := s) (k := n) h3 (v := v) (v' := B s n) (by rw [Int.mul_comm]; exact hv) m (Nat.le_refl _)), he.pivot h3 (hv.trans (small (a := 1) (by omega) (by omega)).symm)⟩
      · have e1 : swp B s r0 s n = B r0 n := by rw [swp_at B, if_neg e, if_pos rfl]
        obtain ⟨v, hv⟩ := inv_ex hg (a := swp B s r0 s n) (by rw [e1]; exact h4)
        have hs : s < m := by omega
        exact ⟨_, _, _, _, (hr.trans (RE.swap hs h3 e)).trans (elm_re (swp B s r0) (q := s) (k := n) hs (v := v) (v' := swp B s r0 s n) (by rw [Int.mul_comm]; exact hv) m (Nat.le_refl _)), (he.swap (by omega) h3).pivot hs (hv.trans (small (a := 1) (by omega) (by omega)).symm)⟩
end MatMath

/- Plain facts of linear algebra over the fields of the seven Mersenne primes, with no Go in sight: the rank does not hang on the way of the reckoning; ranks of products and of the transpose; determinants of products and of the transpose. Conditions: a supported prime where said. -/
namespace MatMath
open PolyMath FieldMath

/-! ### Growing sequences -/
theorem inc_ge {s : Nat} {f : Nat → Nat} (h : ∀ i j, i < j → j < s → f i < f j) : ∀ i, i < s → i ≤ f i
  | 0, _ => Nat.zero_le _
  | i + 1, hi => by
    have h1 := inc_ge h i (by omega)
    have h2 := h i (i + 1) (by omega) hi
    omega
theorem inc_sub {s s' : Nat} {f g : Nat → Nat} (hf : ∀ i j, i < j → j < s → f i < f j) (hg : ∀ i j, i < j → j < s' → g i < g j) (h : ∀ i, i < s → ∃ j, j < s' ∧ g j = f i) : s ≤ s' := by
  have key : ∀ i, i < s → ∃ j, i ≤ j ∧ j < s' ∧ g j = f i := by
    intro i
    induction i with
    | zero => intro hi; obtain ⟨j, h1, h2⟩ := h 0 hi; exact ⟨j, Nat.zero_le _, h1, h2⟩
    | succ i ih =>
      intro hi
      obtain ⟨j, h1, h2, h3⟩ := ih (by omega)
      obtain ⟨k, h4, h5⟩ := h (i + 1) hi
      refine ⟨k, ?_, h4, h5⟩
      have h6 := hf i (i + 1) (by omega) hi
      rcases (show i + 1 ≤ k ∨ k ≤ i by omega) with h7 | h7
      · exact h7
      · exfalso
        rcases (show k < j ∨ k = j by omega) with h8 | h8
        · have := hg k j h8 h2; omega
        · rw [h8, h3] at h5; omega
  cases s with
  | zero => exact Nat.zero_le _
  | succ s =>
    obtain ⟨j, h1, h2, _⟩ := key s (by omega)
    omega
theorem inc_unique {s s' : Nat} {f g : Nat → Nat} (hf : ∀ i j, i < j → j < s → f i < f j) (hg : ∀ i j, i < j → j < s' → g i < g j) (h : ∀ k, (∃ i, i < s ∧ f i = k) ↔ ∃ j, j < s' ∧ g j = k) : s = s' ∧ ∀ i, i < s → f i = g i := by
  have hs : s = s' := by
    have h1 := inc_sub hf hg fun i hi => (h (f i)).1 ⟨i, hi, rfl⟩
    have h2 := inc_sub hg hf fun i hi => (h (g i)).2 ⟨i, hi, rfl⟩
    omega
  subst hs
  refine ⟨rfl, fun i => ?_⟩
  induction i using Nat.strongRecOn with
  | _ i ih =>
    intro hi
    obtain ⟨j, hj, ej⟩ := (h (f i)).1 ⟨i, hi, rfl⟩
    obtain ⟨k, hk, ek⟩ := (h (g i)).2 ⟨i, hi, rfl⟩
    have h1 : i ≤ j := by
      rcases (show i ≤ j ∨ j < i by omega) with h2 | h2
      · exact h2
      · have := ih j h2 hj; have := hf j i h2 hi; omega
    have h2 : i ≤ k := by
      rcases (show i ≤ k ∨ k < i by omega) with h3 | h3
      · exact h3
      · have := ih k h3 hk; have := hg k i h3 hi; omega
    have h3 : g i ≤ f i := by
      rcases (show i = j ∨ i < j by omega) with h4 | h4
      · rw [h4, ej, ← h4]; exact Nat.le_refl _
      · have := hg i j h4 hj; omega
    have h4 : f i ≤ g i := by
      rcases (show i = k ∨ i < k by omega) with h5 | h5
      · rw [h5, ek, ← h5]; exact Nat.le_refl _
      · have := hf i k h5 hk; omega
    omega

/-! ### Rank -/
/-- A (m rows, n columns) has rank s, with pivots in the columns pv. -/
def RR (p : Int) (m n : Nat) (A : Nat → Nat → Int) (s : Nat) (pv : Nat → Nat) : Prop := ∃ d B, RE p m d A B ∧ Ech p m n B s pv
theorem rr_ex {p : Int} (hg : GoodI p) (m n : Nat) (A : Nat → Nat → Int) : ∃ s pv, RR p m n A s pv := by
  obtain ⟨d, B, s, pv, h1, h2⟩ := ech_ex hg m A n
  exact ⟨s, pv, d, B, h1, h2⟩
theorem RR.unique {p : Int} (hp : 1 < p) {m n s s' : Nat} {A : Nat → Nat → Int} {pv pv' : Nat → Nat} (h : RR p m n A s pv) (h' : RR p m n A s' pv') : s = s' ∧ ∀ i, i < s → pv i = pv' i := by
  obtain ⟨_, _, h1, h2⟩ := h
  obtain ⟨_, _, h3, h4⟩ := h'
  refine inc_unique h2.inc h4.inc fun k => ?_
  constructor
  · rintro ⟨i, hi, rfl⟩
    exact (h4.pivot_iff hp h3 (h2.lt i hi)).2 ((h2.pivot_iff hp h1 (h2.lt i hi)).1 ⟨i, hi, rfl⟩)
  · rintro ⟨i, hi, rfl⟩
    exact (h2.pivot_iff hp h1 (h4.lt i hi)).2 ((h4.pivot_iff hp h3 (h4.lt i hi)).1 ⟨i, hi, rfl⟩)
theorem RR.rows {p : Int} {m n s : Nat} {A : Nat → Nat → Int} {pv : Nat → Nat} (h : RR p m n A s pv) : s ≤ m := by obtain ⟨_, _, _, h2⟩ := h; exact h2.len
theorem RR.cols {p : Int} {m n s : Nat} {A : Nat → Nat → Int} {pv : Nat → Nat} (h : RR p m n A s pv) : s ≤ n := by
  obtain ⟨_, _, _, h2⟩ := h
  cases s with
  | zero => exact Nat.zero_le _
  | succ s => have h3 := inc_ge h2.inc s (by omega); have h4 := h2.lt s (by omega); omega
theorem RR.congr {p : Int} {m n s : Nat} {A B : Nat → Nat → Int} {pv : Nat → Nat} (h : RR p m n A s pv) (e : ∀ r c, r < m → B r c % p = A r c % p) : RR p m n B s pv := by
  obtain ⟨d, C, h1, h2⟩ := h
  exact ⟨_, C, (RE.same e).trans h1, h2⟩
/-- Entries beyond the columns do not matter. -/
def cut (n : Nat) (A : Nat → Nat → Int) : Nat → Nat → Int := fun r c => if c < n then A r c else 0
theorem nul_cut (p : Int) (m n : Nat) (A B : Nat → Nat → Int) (e : ∀ r c, r < m → c < n → B r c % p = A r c % p) (x : Nat → Int) : Nul p m n A x ↔ Nul p m n B x := by
  have key : ∀ r, r < m → sg n (fun j => A r j * x j) % p = sg n (fun j => B r j * x j) % p := fun r hr => sg_mod n fun j hj => mm (e r j hr hj).symm rfl
  exact ⟨fun z r hr => (key r hr).symm.trans (z r hr), fun z r hr => (key r hr).trans (z r hr)⟩
/-- The rank hangs on the relations of the columns alone. -/
theorem rank_le_of {p : Int} (hp : 1 < p) {m m' n s s' : Nat} {A B : Nat → Nat → Int} {pv pv' : Nat → Nat} (h : RR p m n A s pv) (h' : RR p m' n B s' pv') (hn : ∀ x, Nul p m' n B x → Nul p m n A x) : s ≤ s' := by
  obtain ⟨_, _, h1, h2⟩ := h
  obtain ⟨_, _, h3, h4⟩ := h'
  refine inc_sub h2.inc h4.inc fun i hi => (h4.pivot_iff hp h3 (h2.lt i hi)).2 fun ⟨x, a, b, c⟩ => ?_
  exact (h2.pivot_iff hp h1 (h2.lt i hi)).1 ⟨i, hi, rfl⟩ ⟨x, a, b, hn x c⟩
theorem nul_mat {p : Int} {m l n : Nat} {A B : Nat → Nat → Int} {x : Nat → Int} (h : Nul p l n B x) : Nul p m n (mat l A B) x := by
  intro r _
  have e : sg n (fun j => mat l A B r j * x j) = sg l (fun i => A r i * sg n (fun j => B i j * x j)) := mat_assoc l n A B (fun j _ => x j) r 0
  rw [e, sg_mod l (g := fun _ => 0) (fun i hi => by rw [Int.mul_emod, h i hi, Int.mul_zero]), sg_zero l (fun _ _ => rfl), Int.zero_emod]
/-- The rank of a product is at most the rank of the right factor. -/
theorem rank_right {p : Int} (hp : 1 < p) {m l n s s' : Nat} {A B M : Nat → Nat → Int} {pv pv' : Nat → Nat} (e : ∀ r c, r < m → c < n → M r c % p = mat l A B r c % p) (h : RR p m n M s pv) (h' : RR p l n B s' pv') : s ≤ s' :=
  rank_le_of hp h h' fun x hx => (nul_cut p m n (mat l A B) M e x).1 (nul_mat hx)
/-- The rank of a product is at most the number of terms in its sums. -/
theorem rank_inner {p : Int} (hg : GoodI p) {m l n s : Nat} {A B M : Nat → Nat → Int} {pv : Nat → Nat} (e : ∀ r c, r < m → c < n → M r c % p = mat l A B r c % p) (h : RR p m n M s pv) : s ≤ l := by
  obtain ⟨s', pv', h'⟩ := rr_ex hg l n B
  have hp := hg.two
  exact Nat.le_trans (rank_right (by omega) e h h') h'.rows

/-! ### A matrix of rank s is a product over s terms -/
theorem rel_row {n s : Nat} {B : Nat → Nat → Int} {pv : Nat → Nat} (hlt : ∀ i, i < s → pv i < n) {k : Nat} (hk : k < n) (R : Nat → Int) :
    sg n (fun j => R j * rel B s pv k j) = R k - sg s (fun i => if pv i < k then R (pv i) * B i k else 0) := by
  have e1 : sg n (fun j => R j * rel B s pv k j) = sg n (fun j => (if j = k then R k else 0) + -1 * sg s (fun i => if pv i = j ∧ pv i < k then R (pv i) * B i k else 0)) := by
    refine sg_congr n fun j _ => ?_
    unfold rel
    rw [Int.mul_sub]
    have e2 : R j * (if j = k then 1 else 0) = if j = k then R k else 0 := by
      by_cases e : j = k
      · rw [if_pos e, if_pos e, e, Int.mul_one]
      · rw [if_neg e, if_neg e, Int.mul_zero]
    have e3 : R j * sg s (fun i => if pv i = j ∧ pv i < k then B i k else 0) = sg s (fun i => if pv i = j ∧ pv i < k then R (pv i) * B i k else 0) := by
      rw [← sg_mul]
      refine sg_congr s fun i _ => ?_
      by_cases e : pv i = j ∧ pv i < k
      · rw [if_pos e, if_pos e, e.1]
      · rw [if_neg e, if_neg e, Int.mul_zero]
    rw [e2, e3]; omega
  rw [e1, sg_add, sg_mul, sg_one (j := k) n hk (fun i _ h => if_neg h), if_pos rfl, sg_comm]
  have e4 : sg s (fun i => sg n (fun j => if pv i = j ∧ pv i < k then R (pv i) * B i k else 0)) = sg s (fun i => if pv i < k then R (pv i) * B i k else 0) := by
    refine sg_congr s fun i hi => ?_
    rw [sg_one (j := pv i) n (hlt i hi) (fun j _ hj => if_neg (fun e => hj e.1.symm))]
    by_cases e : pv i < k
    · rw [if_pos ⟨rfl, e⟩, if_pos e]
    · rw [if_neg (fun h => e h.2), if_neg e]
  rw [e4]; omega
theorem RR.fac {p : Int} {m n s : Nat} {A : Nat → Nat → Int} {pv : Nat → Nat} (h : RR p m n A s pv) : ∃ C R, ∀ r c, r < m → c < n → A r c % p = mat s C R r c % p := by
  obtain ⟨d, B, h1, h2⟩ := h
  refine ⟨fun r i => A r (pv i), B, fun r c hr hc => ?_⟩
  have hl := h2.len
  by_cases hp : ∃ i, i < s ∧ pv i = c
  · obtain ⟨i0, hi0, rfl⟩ := hp
    unfold mat
    rw [sg_upto (k := i0) s hi0 (fun i hi hii => by rw [Int.mul_emod, h2.unit i0 i hi0 (by omega), if_neg (by omega), Int.zero_emod, Int.mul_zero, Int.zero_emod]) (fun i hi hii => by rw [Int.mul_emod, h2.unit i0 i hi0 (by omega), if_neg (by omega), Int.zero_emod, Int.mul_zero, Int.zero_emod]),
      Int.mul_emod, h2.unit i0 i0 hi0 (by omega), if_pos rfl, ← Int.mul_emod, Int.mul_one]
  · have hn : ∀ i, i < s → pv i ≠ c := fun i hi e => hp ⟨i, hi, e⟩
    have hz := (h1.nul n _).2 (h2.rel_nul hc hn) r hr
    rw [rel_row h2.lt hc (A r)] at hz
    have e : sg s (fun i => if pv i < c then A r (pv i) * B i c else 0) % p = mat s (fun r i => A r (pv i)) B r c % p := by
      refine sg_mod s fun i hi => ?_
      by_cases e : pv i < c
      · rw [if_pos e]
      · rw [if_neg e, Int.mul_emod, h2.low i i c hi (Nat.le_refl _) (by omega) (by have := hn i hi; omega), Int.mul_zero]
    have h3 : (A r c - sg s (fun i => if pv i < c then A r (pv i) * B i c else 0) + sg s (fun i => if pv i < c then A r (pv i) * B i c else 0)) % p = (0 + mat s (fun r i => A r (pv i)) B r c) % p := ma (hz.trans (Int.zero_emod p).symm) e
    rw [Int.sub_add_cancel, Int.zero_add] at h3
    exact h3
/-- The rank of a product is at most the rank of the left factor. -/
theorem rank_left {p : Int} (hg : GoodI p) {m l n s s' : Nat} {A B M : Nat → Nat → Int} {pv pv' : Nat → Nat} (e : ∀ r c, r < m → c < n → M r c % p = mat l A B r c % p) (h : RR p m n M s pv) (h' : RR p m l A s' pv') : s ≤ s' := by
  obtain ⟨C, R, hf⟩ := h'.fac
  refine rank_inner hg (A := C) (B := mat l R B) (fun r c hr hc => ?_) h
  rw [e r c hr hc, ← mat_assoc]
  exact sg_mod l fun j hj => mm (hf r j hr hj) rfl
/-- The transpose. -/
def tr (A : Nat → Nat → Int) : Nat → Nat → Int := fun r c => A c r
theorem tr_mat (l : Nat) (A B : Nat → Nat → Int) (r c : Nat) : mat l (tr B) (tr A) r c = mat l A B c r := sg_congr l fun _ _ => Int.mul_comm _ _
theorem rank_tr_le {p : Int} (hg : GoodI p) {m n s s' : Nat} {A : Nat → Nat → Int} {pv pv' : Nat → Nat} (h : RR p m n A s pv) (h' : RR p n m (tr A) s' pv') : s' ≤ s := by
  obtain ⟨C, R, hf⟩ := h.fac
  refine rank_inner hg (A := tr R) (B := tr C) (fun r c hr hc => ?_) h'
  rw [tr_mat]
  exact hf c r hc hr
theorem rank_tr {p : Int} (hg : GoodI p) {m n s s' : Nat} {A : Nat → Nat → Int} {pv pv' : Nat → Nat} (h : RR p m n A s pv) (h' : RR p n m (tr A) s' pv') : s = s' := by
  have h1 := rank_tr_le hg h h'
  have h2 := rank_tr_le hg h' (show RR p m n (tr (tr A)) s pv from h)
  omega

/-! ### Determinants -/
theorem full_id {n s : Nat} {pv : Nat → Nat} (hs : s = n) (hlt : ∀ i, i < s → pv i < n) (hi : ∀ i j, i < j → j < s → pv i < pv j) : ∀ i, i < n → pv i = i := by
  subst hs
  have ge := inc_ge hi
  have le : ∀ k i, i + k + 1 = s → pv i ≤ i := by
    intro k
    induction k with
    | zero => intro i e; have := hlt i (by omega); omega
    | succ k ih => intro i e; have h1 := ih (i + 1) (by omega); have h2 := hi i (i + 1) (by omega) (by omega); omega
  intro i h
  have h1 := ge i h
  have h2 := le (s - i - 1) i (by omega)
  omega
/-- A square matrix of full rank comes to the unit matrix; any other has determinant nought. -/
theorem det_cases {p : Int} (hp : 1 < p) {n s : Nat} {d : Int} {A B : Nat → Nat → Int} {pv : Nat → Nat} (h : RE p n d A B) (h2 : Ech p n n B s pv) :
    (s < n ∧ det n A % p = 0) ∨ (s = n ∧ d * det n A % p = 1 ∧ ∀ r c, r < n → c < n → B r c % p = one r c % p) := by
  have hl := h2.len
  have hd := h.det
  rcases (show s < n ∨ s = n by omega) with hs | hs
  · refine .inl ⟨hs, ?_⟩
    have h0 : det n B % p = 0 := by
      rw [det_mod (p := p) n (B := upd B s fun _ => 0) (fun r c hr hc => by
        unfold upd
        by_cases e : r = s
        · rw [if_pos e, e, h2.rest s c (Nat.le_refl _) hs hc, Int.zero_emod]
        · rw [if_neg e]), det_none (r := s) hs _ (fun c => by unfold upd; rw [if_pos rfl]), Int.zero_emod]
    rw [h0] at hd
    obtain ⟨d', hd'⟩ := h.unit hp
    have h3 : d' * (d * det n A) % p = 0 := by rw [Int.mul_emod, ← hd, Int.mul_zero, Int.zero_emod]
    rw [← Int.mul_assoc, Int.mul_emod, hd', Int.one_mul, mdd] at h3
    exact h3
  · have hid := full_id hs h2.lt h2.inc
    have hB : ∀ r c, r < n → c < n → B r c % p = one r c % p := fun r c hr hc => by
      have := h2.unit c r (by omega) hr
      rw [hid c hc] at this
      exact this
    refine .inr ⟨hs, ?_, hB⟩
    rw [← hd, det_mod n hB, det_one]
    exact small (by omega) hp
theorem det_mul {p : Int} (hg : GoodI p) {n : Nat} (A B : Nat → Nat → Int) : det n (mat n A B) % p = det n A * det n B % p := by
  have hp := hg.two
  obtain ⟨d, E, s, pv, h1, h2⟩ := ech_ex hg n A n
  rcases det_cases (by omega) h1 h2 with ⟨hs, h0⟩ | ⟨hs, hd, hE⟩
  · obtain ⟨d', E', s', pv', h3, h4⟩ := ech_ex hg n (mat n A B) n
    have hle := rank_left hg (fun _ _ _ _ => rfl) ⟨d', E', h3, h4⟩ ⟨d, E, h1, h2⟩
    rcases det_cases (by omega) h3 h4 with ⟨_, h5⟩ | ⟨h5, _, _⟩
    · rw [h5, Int.mul_emod, h0, Int.zero_mul, Int.zero_emod]
    · omega
  · have h3 := (h1.mul n B).det
    have h4 : det n (mat n E B) % p = det n B % p := det_mod n fun r c hr hc => by
      rw [← mat_one_left n B hr c]
      exact sg_mod n fun j hj => mm (hE r j hr hj) rfl
    rw [h4] at h3
    have h5 : det n A * det n B % p = det n A * (d * det n (mat n A B)) % p := mm rfl h3
    rw [h5, ← Int.mul_assoc, Int.mul_comm (det n A) d, Int.mul_emod, hd, Int.one_mul, mdd]

/-- An operation on rows is a product from the left. -/
theorem one_tr (r c : Nat) : tr one r c = one r c := by
  unfold tr one
  by_cases h : r = c
  · rw [if_pos h, if_pos h.symm]
  · rw [if_neg h, if_neg (fun e => h e.symm)]
theorem RE.left {p : Int} {m : Nat} {d : Int} {A B : Nat → Nat → Int} (h : RE p m d A B) : ∃ E, RE p m d one E ∧ ∀ r c, r < m → B r c % p = mat m E A r c % p := by
  induction h with
  | same h => exact ⟨one, RE.refl p m one, fun r c hr => by rw [mat_one_left m _ hr c]; exact (h r c hr).symm⟩
  | @swap A r s hr hs hne =>
    refine ⟨_, .swap hr hs hne, fun i c hi => ?_⟩
    rw [mat_upd, mat_upd, row_mat, row_mat]
    unfold upd
    by_cases h1 : i = s
    · rw [if_pos h1, if_pos h1, mat_one_left m A hr]
    · rw [if_neg h1, if_neg h1]
      by_cases h2 : i = r
      · rw [if_pos h2, if_pos h2, mat_one_left m A hs]
      · rw [if_neg h2, if_neg h2, mat_one_left m A hi]
  | @scale A r k k' hr hk =>
    refine ⟨_, .scale hr hk, fun i c hi => ?_⟩
    rw [mat_upd]
    unfold upd
    by_cases h1 : i = r
    · rw [if_pos h1, if_pos h1]
      show k * A r c % p = (sg m fun j => k * one r j * A j c) % p
      rw [← mat_one_left m A hr c]
      unfold mat; rw [← sg_mul]; congr 1
      exact sg_congr m fun j _ => (Int.mul_assoc _ _ _).symm
    · rw [if_neg h1, if_neg h1, mat_one_left m A hi]
  | @add A r s k hr hs hne =>
    refine ⟨_, .add (k := k) hr hs hne, fun i c hi => ?_⟩
    rw [mat_upd]
    unfold upd
    by_cases h1 : i = s
    · rw [if_pos h1, if_pos h1]
      show (A s c + k * A r c) % p = (sg m fun j => (one s j + k * one r j) * A j c) % p
      rw [← mat_one_left m A hs c, ← mat_one_left m A hr c]
      unfold mat; rw [← sg_mul, ← sg_add]; congr 1
      exact sg_congr m fun j _ => by rw [Int.add_mul, Int.mul_assoc]
    · rw [if_neg h1, if_neg h1, mat_one_left m A hi]
  | @trans d e A B C _ _ i1 i2 =>
    obtain ⟨E1, h1, f1⟩ := i1
    obtain ⟨E2, h2, f2⟩ := i2
    refine ⟨mat m E2 E1, ?_, fun r c hr => ?_⟩
    · have h3 := h2.mul m E1
      have h4 : RE p m 1 E1 (mat m one E1) := .same fun r c hr => by rw [mat_one_left m E1 hr c]
      have h5 := (h1.trans h4).trans h3
      rwa [Int.one_mul] at h5
    · rw [f2 r c hr, mat_assoc]
      exact sg_mod m fun j hj => mm rfl (f1 j c hj)

theorem one_same (a : Nat) : one a a = 1 := if_pos rfl
theorem one_ne {a b : Nat} (h : a ≠ b) : one a b = 0 := if_neg h
theorem one_comm (a b : Nat) : one a b = one b a := one_tr b a
/-- The transpose under an operation on rows. -/
theorem RE.tdet {p : Int} (hg : GoodI p) {m : Nat} {d : Int} {A B : Nat → Nat → Int} (h : RE p m d A B) : MatMath.det m (tr B) % p = d * MatMath.det m (tr A) % p := by
  -- a product with a matrix whose transpose has determinant d
  have key : ∀ {d : Int} {A B E : Nat → Nat → Int}, (∀ r c, r < m → B r c % p = mat m E A r c % p) → MatMath.det m (tr E) % p = d % p → MatMath.det m (tr B) % p = d * MatMath.det m (tr A) % p := by
    intro d A B E h1 h2
    rw [det_mod (p := p) m (B := mat m (tr A) (tr E)) (fun r c hr hc => by rw [tr_mat]; exact h1 c r hc), det_mul hg, Int.mul_comm d]
    exact mm rfl h2
  induction h with
  | same h => rw [Int.one_mul]; exact det_mod m fun r c hr hc => (h c r hc).symm
  | @swap A r s hr hs hne =>
    refine key (E := upd (upd one r (one s)) s (one r)) (fun i c hi => ?_) ?_
    · rw [mat_upd, mat_upd, row_mat, row_mat]
      unfold upd
      by_cases h1 : i = s
      · rw [if_pos h1, if_pos h1, mat_one_left m A hr]
      · rw [if_neg h1, if_neg h1]
        by_cases h2 : i = r
        · rw [if_pos h2, if_pos h2, mat_one_left m A hs]
        · rw [if_neg h2, if_neg h2, mat_one_left m A hi]
    · rw [det_congr m (B := upd (upd one r (one s)) s (one r)) (fun i c _ _ => by
        unfold tr upd
        by_cases a1 : c = s
        · rw [if_pos a1]
          by_cases a2 : i = s
          · rw [if_pos a2, a1, a2]
          · rw [if_neg a2]
            by_cases a3 : i = r
            · rw [if_pos a3, a3, a1, one_same, one_same]
            · rw [if_neg a3, a1, one_ne (fun e => a3 e.symm), one_ne a2]
        · rw [if_neg a1]
          by_cases a2 : c = r
          · rw [if_pos a2]
            by_cases a3 : i = s
            · rw [if_pos a3, a3, a2, one_same, one_same]
            · rw [if_neg a3]
              by_cases a4 : i = r
              · rw [if_pos a4, a4, a2]
              · rw [if_neg a4, a2, one_ne (fun e => a3 e.symm), one_ne a4]
          · rw [if_neg a2]
            by_cases a3 : i = s
            · rw [if_pos a3, a3, one_ne a1, one_ne (fun e => a2 e.symm)]
            · rw [if_neg a3]
              by_cases a4 : i = r
              · rw [if_pos a4, a4, one_ne a2, one_ne (fun e => a1 e.symm)]
              · rw [if_neg a4, one_comm]), det_swap hr hs hne, det_one]
  | @scale A r k k' hr hk =>
    refine key (E := upd one r fun c => k * one r c) (fun i c hi => ?_) ?_
    · rw [mat_upd]
      unfold upd
      by_cases h1 : i = r
      · rw [if_pos h1, if_pos h1]
        show k * A r c % p = (sg m fun j => k * one r j * A j c) % p
        rw [← mat_one_left m A hr c]
        unfold mat; rw [← sg_mul]; congr 1
        exact sg_congr m fun j _ => (Int.mul_assoc _ _ _).symm
      · rw [if_neg h1, if_neg h1, mat_one_left m A hi]
    · rw [det_congr m (B := upd one r fun c => k * one r c) (fun i c _ _ => by
        have dz : ∀ x y, x ≠ y → upd one r (fun c => k * one r c) x y = 0 := fun x y h => by
          unfold upd; dsimp only
          by_cases a : x = r
          · rw [if_pos a, one_ne (fun e => h (a.trans e)), Int.mul_zero]
          · rw [if_neg a, one_ne h]
        by_cases e : i = c
        · rw [e]; rfl
        · rw [dz i c e]; exact dz c i (fun h => e h.symm)), det_scale hr, det_one, Int.mul_one]
  | @add A r s k hr hs hne =>
    refine key (E := upd one s fun c => one s c + k * one r c) (fun i c hi => ?_) ?_
    · rw [mat_upd]
      unfold upd
      by_cases h1 : i = s
      · rw [if_pos h1, if_pos h1]
        show (A s c + k * A r c) % p = (sg m fun j => (one s j + k * one r j) * A j c) % p
        rw [← mat_one_left m A hs c, ← mat_one_left m A hr c]
        unfold mat; rw [← sg_mul, ← sg_add]; congr 1
        exact sg_congr m fun j _ => by rw [Int.add_mul, Int.mul_assoc]
      · rw [if_neg h1, if_neg h1, mat_one_left m A hi]
    · rw [det_congr m (B := upd one r fun c => one r c + k * one s c) (fun i c _ _ => by
        unfold tr upd; dsimp only
        by_cases a1 : c = s <;> by_cases a2 : i = r
        · rw [if_pos a1, if_pos a2, a1, a2, one_same, one_same, one_comm]
        · rw [if_pos a1, if_neg a2, a1, one_ne (fun e => a2 e.symm), Int.mul_zero, Int.add_zero, one_comm]
        · rw [if_neg a1, if_pos a2, a2, one_ne (a := s) (fun e => a1 e.symm), Int.mul_zero, Int.add_zero, one_comm]
        · rw [if_neg a1, if_neg a2, one_comm]), det_row hs hr (fun e => hne e.symm), det_one]
  | trans _ _ i1 i2 => rw [i2, Int.mul_assoc]; exact mm rfl i1
theorem det_tr {p : Int} (hg : GoodI p) (n : Nat) (A : Nat → Nat → Int) : det n (tr A) % p = det n A % p := by
  have hp := hg.two
  obtain ⟨d, E, s, pv, h1, h2⟩ := ech_ex hg n A n
  have h3 := h1.tdet hg
  have h4 := h1.det
  obtain ⟨d', hd⟩ := h1.unit (by omega)
  have h5 : det n (tr E) % p = det n E % p := by
    rcases det_cases (by omega) h1 h2 with ⟨hs, h0⟩ | ⟨_, _, hE⟩
    · obtain ⟨e, F, s', pv', h6, h7⟩ := ech_ex hg n (tr A) n
      have hr := rank_tr hg ⟨d, E, h1, h2⟩ ⟨e, F, h6, h7⟩
      rcases det_cases (by omega) h6 h7 with ⟨_, h8⟩ | ⟨h8, _, _⟩
      · rw [h3, h4, Int.mul_emod, h8, Int.mul_emod d (det n A), h0]
      · omega
    · rw [det_mod (p := p) n (B := one) (fun r c hr hc => by rw [← one_tr r c]; exact hE c r hc hr), det_mod (p := p) n hE]
  rw [h3, h4] at h5
  have h6 : d' * (d * det n (tr A)) % p = d' * (d * det n A) % p := mm rfl h5
  rw [← Int.mul_assoc, ← Int.mul_assoc, Int.mul_emod, Int.mul_emod (d' * d) (det n A), hd, Int.one_mul, Int.one_mul, mdd, mdd] at h6
  exact h6
end MatMath

/- Plain facts about linear systems and inverses over the fields of the seven Mersenne primes, with no Go in sight: the basic solution, when there is none and what shows it, inverses. Conditions: a supported prime where said. -/
namespace MatMath
open PolyMath FieldMath

/-! ### Systems -/
/-- x solves M and b (m rows, n unknowns). -/
def Sol (p : Int) (m n : Nat) (M : Nat → Nat → Int) (b x : Nat → Int) : Prop := ∀ r, r < m → sg n (fun j => M r j * x j) % p = b r % p
/-- The matrix with b beside it. -/
def aug (n : Nat) (M : Nat → Nat → Int) (b : Nat → Int) : Nat → Nat → Int := fun r c => if c < n then M r c else b r
theorem sub_zero_iff {p a b : Int} : (a + b * -1) % p = 0 ↔ a % p = b % p := by
  constructor
  · intro h
    have h1 : (a + b * -1 + b) % p = (0 + b) % p := ma (h.trans (Int.zero_emod p).symm) rfl
    rw [Int.zero_add, show a + b * -1 + b = a from by omega] at h1
    exact h1
  · intro h
    have h1 : (a + b * -1) % p = (b + b * -1) % p := ma h rfl
    rw [h1, show b + b * -1 = 0 from by omega, Int.zero_emod]
theorem row_nul (p : Int) (n : Nat) (R x : Nat → Int) : sg (n + 1) (fun j => R j * (if j < n then x j else -1)) % p = 0 ↔ sg n (fun j => R j * x j) % p = R n % p := by
  rw [sg_succ, if_neg (by omega), sg_congr n (g := fun j => R j * x j) (fun j hj => by rw [if_pos hj])]
  exact sub_zero_iff
theorem sol_re {p : Int} {m n : Nat} {d : Int} {M B : Nat → Nat → Int} {b : Nat → Int} (h : RE p m d (aug n M b) B) (x : Nat → Int) : Sol p m n M b x ↔ ∀ r, r < m → sg n (fun j => B r j * x j) % p = B r n % p := by
  have e := h.nul (n + 1) (fun j => if j < n then x j else -1)
  have e1 : Nul p m (n + 1) (aug n M b) (fun j => if j < n then x j else -1) ↔ Sol p m n M b x := by
    constructor
    · intro z r hr
      have := (row_nul p n (aug n M b r) x).1 (z r hr)
      rw [sg_congr n (g := fun j => M r j * x j) (fun j hj => by unfold aug; rw [if_pos hj])] at this
      unfold aug at this
      rw [if_neg (by omega)] at this
      exact this
    · intro z r hr
      refine (row_nul p n (aug n M b r) x).2 ?_
      rw [sg_congr n (g := fun j => M r j * x j) (fun j hj => by unfold aug; rw [if_pos hj])]
      unfold aug
      rw [if_neg (by omega)]
      exact z r hr
  rw [← e1, e]
  exact ⟨fun z r hr => (row_nul p n (B r) x).1 (z r hr), fun z r hr => (row_nul p n (B r) x).2 (z r hr)⟩
/-- The basic solution, read off the reduced form: y i at the i-th pivot's column. -/
def bsol (s : Nat) (pv : Nat → Nat) (y : Nat → Int) (j : Nat) : Int := sg s fun i => if pv i = j then y i else 0
theorem bsol_at {s : Nat} {pv : Nat → Nat} (hi : ∀ i j, i < j → j < s → pv i < pv j) (y : Nat → Int) {i : Nat} (h : i < s) : bsol s pv y (pv i) = y i := by
  unfold bsol
  rw [sg_one (j := i) s h (fun k hk hne => if_neg fun e => by
    rcases (show k < i ∨ i < k by omega) with h1 | h1
    · have := hi k i h1 h; omega
    · have := hi i k h1 hk; omega), if_pos rfl]
theorem bsol_else {s : Nat} {pv : Nat → Nat} (y : Nat → Int) {j : Nat} (h : ∀ i, i < s → pv i ≠ j) : bsol s pv y j = 0 := sg_zero s fun i hi => if_neg (h i hi)
theorem bsol_sum {n s : Nat} {pv : Nat → Nat} (hl : ∀ i, i < s → pv i < n) (y R : Nat → Int) : sg n (fun j => R j * bsol s pv y j) = sg s (fun i => R (pv i) * y i) := by
  have e : sg n (fun j => R j * bsol s pv y j) = sg n (fun j => sg s (fun i => if pv i = j then R (pv i) * y i else 0)) := sg_congr n fun j _ => by
    unfold bsol
    rw [← sg_mul]
    refine sg_congr s fun i _ => ?_
    by_cases e : pv i = j
    · rw [if_pos e, if_pos e, e]
    · rw [if_neg e, if_neg e, Int.mul_zero]
  rw [e, sg_comm]
  refine sg_congr s fun i hi => ?_
  rw [sg_one (j := pv i) n (hl i hi) (fun j _ h => if_neg fun e => h e.symm), if_pos rfl]
theorem Ech.row_sum {p : Int} {m n s : Nat} {B : Nat → Nat → Int} {pv : Nat → Nat} (h : Ech p m n B s pv) (y : Nat → Int) {r : Nat} (hr : r < m) : sg s (fun i => B r (pv i) * y i) % p = (if r < s then y r else 0) % p := by
  by_cases e : r < s
  · rw [if_pos e, sg_upto (k := r) s e (fun i hi hir => by rw [Int.mul_emod, h.unit i r hi hr, if_neg (by omega), Int.zero_emod, Int.zero_mul, Int.zero_emod]) (fun i hi hir => by rw [Int.mul_emod, h.unit i r hi hr, if_neg (by omega), Int.zero_emod, Int.zero_mul, Int.zero_emod]),
      Int.mul_emod, h.unit r r e hr, if_pos rfl, ← Int.mul_emod, Int.one_mul]
  · rw [if_neg e, sg_mod s (g := fun _ => 0) (fun i hi => by rw [Int.mul_emod, h.unit i r hi hr, if_neg (by omega), Int.zero_emod, Int.zero_mul, Int.zero_emod]), sg_zero s (fun _ _ => rfl)]
theorem solve_ok {p : Int} {m n s : Nat} {d : Int} {M B : Nat → Nat → Int} {b : Nat → Int} {pv : Nat → Nat} (h : RE p m d (aug n M b) B) (he : Ech p m n B s pv) (h0 : ∀ r, s ≤ r → r < m → B r n % p = 0) : Sol p m n M b (bsol s pv fun i => B i n) := by
  refine (sol_re h _).2 fun r hr => ?_
  rw [bsol_sum he.lt, he.row_sum _ hr]
  by_cases e : r < s
  · rw [if_pos e]
  · rw [if_neg e, h0 r (by omega) hr, Int.zero_emod]
theorem solve_no {p : Int} {m n s : Nat} {d : Int} {M B : Nat → Nat → Int} {b : Nat → Int} {pv : Nat → Nat} (h : RE p m d (aug n M b) B) (he : Ech p m n B s pv) {r : Nat} (h1 : s ≤ r) (h2 : r < m) (h3 : B r n % p ≠ 0) (x : Nat → Int) : ¬ Sol p m n M b x := by
  intro hx
  have e := (sol_re h x).1 hx r h2
  rw [sg_mod n (g := fun _ => 0) (fun j hj => by rw [Int.mul_emod, he.rest r j h1 h2 hj, Int.zero_mul]), sg_zero n (fun _ _ => rfl), Int.zero_emod] at e
  exact h3 e.symm
/-- The basic solution is the only one that is nought off the pivots. -/
theorem solve_unique {p : Int} {m n s : Nat} {d : Int} {M B : Nat → Nat → Int} {b x : Nat → Int} {pv : Nat → Nat} (h : RE p m d (aug n M b) B) (he : Ech p m n B s pv) (hx : Sol p m n M b x) (h0 : ∀ j, j < n → (∀ i, i < s → pv i ≠ j) → x j % p = 0) : ∀ j, j < n → x j % p = bsol s pv (fun i => B i n) j % p := by
  intro j hj
  by_cases hp : ∃ i, i < s ∧ pv i = j
  · obtain ⟨i, hi, rfl⟩ := hp
    have hl := he.len
    have e := (sol_re h x).1 hx i (by omega)
    rw [sg_upto (k := pv i) n hj (fun k hk hkl => by rw [Int.mul_emod, he.low i i k hi (Nat.le_refl _) (by omega) hkl, Int.zero_mul, Int.zero_emod]) (fun k hk hkl => by
      by_cases hq : ∃ i', i' < s ∧ pv i' = k
      · obtain ⟨i', hi', rfl⟩ := hq
        rw [Int.mul_emod, he.unit i' i hi' (by omega), if_neg (fun e => by rw [e] at hkl; omega), Int.zero_emod, Int.zero_mul, Int.zero_emod]
      · rw [Int.mul_emod, h0 k hk (fun i' hi' e => hq ⟨i', hi', e⟩), Int.mul_zero, Int.zero_emod]), Int.mul_emod, he.unit i i hi (by omega), if_pos rfl, ← Int.mul_emod, Int.one_mul] at e
    rw [e, bsol_at he.inc _ hi]
  · rw [h0 j hj (fun i hi e => hp ⟨i, hi, e⟩), bsol_else _ (fun i hi e => hp ⟨i, hi, e⟩), Int.zero_emod]
/-- Where there is no solution, a combination of the rows shows it. -/
theorem solve_witness {p : Int} (hg : GoodI p) {m n s : Nat} {d : Int} {M B : Nat → Nat → Int} {b : Nat → Int} {pv : Nat → Nat} (h : RE p m d (aug n M b) B) (he : Ech p m n B s pv) {r : Nat} (h1 : s ≤ r) (h2 : r < m) (h3 : B r n % p ≠ 0) :
    ∃ y : Nat → Int, (∀ c, c < n → sg m (fun i => M i c * y i) % p = 0) ∧ sg m (fun i => b i * y i) % p = 1 := by
  obtain ⟨E, _, hE⟩ := h.left
  obtain ⟨k, hk⟩ := inv_ex hg h3
  have key : ∀ c, k * B r c % p = sg m (fun i => aug n M b i c * (k * E r i)) % p := fun c => by
    rw [mm rfl (hE r c h2)]
    unfold mat
    rw [← sg_mul]; congr 1
    exact sg_congr m fun i _ => by rw [← Int.mul_assoc, Int.mul_comm]
  refine ⟨fun i => k * E r i, fun c hc => ?_, ?_⟩
  · have e := key c
    rw [Int.mul_emod, he.rest r c h1 h2 hc, Int.mul_zero, Int.zero_emod] at e
    rw [e]; congr 1
    exact sg_congr m fun i _ => by unfold aug; rw [if_pos hc]
  · have e := key n
    rw [hk] at e
    rw [e]; congr 1
    exact sg_congr m fun i _ => by unfold aug; rw [if_neg (by omega)]

/-! ### Inverses -/
/-- X M is the unit matrix. -/
def Inv (p : Int) (n : Nat) (X M : Nat → Nat → Int) : Prop := ∀ r c, r < n → c < n → mat n X M r c % p = one r c % p
theorem rr_one {p : Int} (n : Nat) : RR p n n one n (fun i => i) :=
  ⟨1, one, RE.refl p n one, Nat.le_refl _, (fun _ h => h), (fun _ _ h _ => h), (fun i r _ _ => rfl), (fun i r c _ hir _ hc => by rw [one_ne (by omega), Int.zero_emod]), (fun r c h1 h2 _ => by omega)⟩
theorem inv_ex_left {p : Int} {n : Nat} {M : Nat → Nat → Int} {pv : Nat → Nat} (h : RR p n n M n pv) : ∃ X, Inv p n X M := by
  obtain ⟨d, B, h1, h2⟩ := h
  obtain ⟨E, _, hE⟩ := h1.left
  refine ⟨E, fun r c hr hc => ?_⟩
  have e := h2.unit c r hc hr
  rw [full_id rfl h2.lt h2.inc c hc] at e
  rw [← hE r c hr, e]
  rfl
theorem inv_full {p : Int} (hg : GoodI p) {n s : Nat} {X M : Nat → Nat → Int} {pv : Nat → Nat} (h : Inv p n X M) (hr : RR p n n X s pv) : s = n := by
  have h1 := rank_left hg (m := n) (l := n) (n := n) (M := one) (A := X) (B := M) (fun r c hr hc => (h r c hr hc).symm) (rr_one n) hr
  have h2 := hr.rows
  omega
theorem inv_comm {p : Int} (hg : GoodI p) {n : Nat} {X M : Nat → Nat → Int} (h : Inv p n X M) : Inv p n M X := by
  obtain ⟨s, pv, hr⟩ := rr_ex hg n n X
  have hs := inv_full hg h hr
  subst hs
  obtain ⟨Y, hY⟩ := inv_ex_left hr
  -- M = (Y X) M = Y (X M) = Y
  have e : ∀ r c, r < s → c < s → M r c % p = Y r c % p := fun r c hr hc => by
    have e1 : mat s (mat s Y X) M r c % p = M r c % p := by
      rw [← mat_one_left s M hr c]
      exact sg_mod s fun j hj => mm (hY r j hr hj) rfl
    have e2 : mat s Y (mat s X M) r c % p = Y r c % p := by
      rw [← mat_one_right s Y r hc]
      exact sg_mod s fun j hj => mm rfl (h j c hj hc)
    rw [← e1, mat_assoc, e2]
  intro r c hr hc
  rw [← hY r c hr hc]
  exact sg_mod s fun j hj => mm (e r j hr hj) rfl
theorem inv_unique {p : Int} {n : Nat} {X Y M : Nat → Nat → Int} (h1 : Inv p n X M) (h2 : Inv p n M Y) {r c : Nat} (hr : r < n) (hc : c < n) : X r c % p = Y r c % p := by
  have e1 : mat n (mat n X M) Y r c % p = Y r c % p := by
    rw [← mat_one_left n Y hr c]
    exact sg_mod n fun j hj => mm (h1 r j hr hj) rfl
  have e2 : mat n X (mat n M Y) r c % p = X r c % p := by
    rw [← mat_one_right n X r hc]
    exact sg_mod n fun j hj => mm rfl (h2 j c hj hc)
  rw [← e1, mat_assoc, e2]
/-- The matrix with the unit matrix beside it. -/
def augI (n : Nat) (M : Nat → Nat → Int) : Nat → Nat → Int := fun r c => if c < n then M r c else one r (c - n)
/-- What stands beside the reduced form is the inverse. -/
theorem inv_read {p : Int} {n : Nat} {d : Int} {M B : Nat → Nat → Int} {pv : Nat → Nat} (h : RE p n d (augI n M) B) (he : Ech p n n B n pv) : Inv p n (fun r c => B r (n + c)) M := by
  obtain ⟨E, _, hE⟩ := h.left
  have hid := full_id rfl he.lt he.inc
  intro r c hr hc
  have e1 : ∀ j, j < n → B r (n + j) % p = E r j % p := fun j hj => by
    rw [hE r (n + j) hr, ← mat_one_right n E r hj]
    unfold mat; congr 1
    exact sg_congr n fun i _ => by unfold augI; rw [if_neg (by omega), Nat.add_sub_cancel_left]
  have e2 : mat n (fun r c => B r (n + c)) M r c % p = mat n E M r c % p := sg_mod n fun j hj => mm (e1 j hj) rfl
  have e3 : mat n E M r c % p = B r c % p := by
    rw [hE r c hr]
    unfold mat; congr 1
    exact sg_congr n fun i _ => by unfold augI; rw [if_pos hc]
  have e4 := he.unit c r hc hr
  rw [hid c hc] at e4
  rw [e2, e3, e4]; rfl
/-- The rank of the part on the left. -/
theorem rr_left {p : Int} {m n s : Nat} {d : Int} {A M B : Nat → Nat → Int} {pv : Nat → Nat} (hp : 1 < p) (e : ∀ r c, r < m → c < n → A r c % p = M r c % p) (h : RE p m d A B) (he : Ech p m n B s pv) {s' : Nat} {pv' : Nat → Nat} (h' : RR p m n M s' pv') : s = s' ∧ ∀ i, i < s → pv i = pv' i := by
  obtain ⟨d1, B1, h1, h2⟩ := h'
  refine inc_unique he.inc h2.inc fun k => ?_
  have hd : ∀ k, Dep p m n A k ↔ Dep p m n M k := fun k =>
    ⟨fun ⟨x, a, b, c⟩ => ⟨x, a, b, (nul_cut p m n M A e x).2 c⟩, fun ⟨x, a, b, c⟩ => ⟨x, a, b, (nul_cut p m n M A e x).1 c⟩⟩
  constructor
  · rintro ⟨i, hi, rfl⟩
    exact (h2.pivot_iff hp h1 (he.lt i hi)).2 fun hdep => (he.pivot_iff hp h (he.lt i hi)).1 ⟨i, hi, rfl⟩ ((hd _).2 hdep)
  · rintro ⟨i, hi, rfl⟩
    exact (he.pivot_iff hp h (h2.lt i hi)).2 fun hdep => (h2.pivot_iff hp h1 (h2.lt i hi)).1 ⟨i, hi, rfl⟩ ((hd _).1 hdep)
end MatMath
