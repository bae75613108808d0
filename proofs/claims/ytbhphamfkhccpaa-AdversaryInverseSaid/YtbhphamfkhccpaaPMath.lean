/- Plain facts about polynomials over the fields of the seven Mersenne primes, with no Go in sight: trimmed lists, sums, products, values, division with remainder, zeros. Conditions: coefficients are elements of the field where said. -/
import Derived.Test.YtbhphamfkhccpaaMath
namespace PolyMath
open FieldMath

/-! ### Congruences -/
theorem ma {p a b c d : Int} (h1 : a % p = b % p) (h2 : c % p = d % p) : (a + c) % p = (b + d) % p := by
  rw [Int.add_emod, h1, h2, ← Int.add_emod]
theorem ms {p a b c d : Int} (h1 : a % p = b % p) (h2 : c % p = d % p) : (a - c) % p = (b - d) % p := by
  rw [Int.sub_emod, h1, h2, ← Int.sub_emod]
theorem mm {p a b c d : Int} (h1 : a % p = b % p) (h2 : c % p = d % p) : (a * c) % p = (b * d) % p := by
  rw [Int.mul_emod, h1, h2, ← Int.mul_emod]
theorem mdd (p a : Int) : a % p % p = a % p := Int.emod_emod_of_dvd a (Int.dvd_refl p)
theorem small {p a : Int} (h0 : 0 ≤ a) (h : a < p) : a % p = a := Int.emod_eq_of_lt h0 h

/-- A product is divisible by p only if a factor is. -/
theorem noz {p a b : Int} (h : GoodI p) (e : a * b % p = 0) : a % p = 0 ∨ b % p = 0 := by
  have hp := h.two
  have ha := md a p (by omega)
  have hb := md b p (by omega)
  by_cases hz : a % p = 0
  · exact .inl hz
  · right
    have : fmul p (a % p) (b % p) = 0 := by unfold fmul; rw [← Int.mul_emod]; exact e
    exact h.nozero (by omega) ha.2 hb.1 hb.2 this

/-! ### Coefficient functions -/
/-- The product's coefficients. -/
def conv (f g : Nat → Int) : Nat → Int
  | 0 => f 0 * g 0
  | n + 1 => f 0 * g (n + 1) + conv (fun i => f (i + 1)) g n

theorem conv_zero (f g : Nat → Int) : conv f g 0 = f 0 * g 0 := rfl
theorem conv_succ (f g : Nat → Int) (n : Nat) : conv f g (n + 1) = f 0 * g (n + 1) + conv (fun i => f (i + 1)) g n := rfl

theorem conv_ext {f f' g g' : Nat → Int} (hf : ∀ n, f n = f' n) (hg : ∀ n, g n = g' n) (n : Nat) : conv f g n = conv f' g' n := by
  rw [show f = f' from funext hf, show g = g' from funext hg]

theorem conv_right (g : Nat → Int) (n : Nat) : ∀ f, conv f g (n + 1) = conv f (fun i => g (i + 1)) n + f (n + 1) * g 0 := by
  induction n with
  | zero => intro f; rw [conv_succ, conv_zero, conv_zero]
  | succ n ih => intro f; rw [conv_succ, ih, conv_succ f]; omega

theorem conv_comm (n : Nat) : ∀ f g, conv f g n = conv g f n := by
  induction n with
  | zero => intro f g; rw [conv_zero, conv_zero, Int.mul_comm]
  | succ n ih => intro f g; rw [conv_succ, conv_right, ih, Int.mul_comm]; omega

theorem conv_add_left (g : Nat → Int) (n : Nat) : ∀ f f', conv (fun i => f i + f' i) g n = conv f g n + conv f' g n := by
  induction n with
  | zero => intro f f'; simp only [conv_zero]; exact Int.add_mul _ _ _
  | succ n ih => intro f f'; simp only [conv_succ]; rw [ih, Int.add_mul]; omega

theorem conv_add_right (f g g' : Nat → Int) (n : Nat) : conv f (fun i => g i + g' i) n = conv f g n + conv f g' n := by
  rw [conv_comm, conv_add_left, conv_comm n g, conv_comm n g']

theorem conv_mul_left (k : Int) (g : Nat → Int) (n : Nat) : ∀ f, conv (fun i => k * f i) g n = k * conv f g n := by
  induction n with
  | zero => intro f; simp only [conv_zero]; exact Int.mul_assoc _ _ _
  | succ n ih => intro f; simp only [conv_succ]; rw [ih, Int.mul_add, Int.mul_assoc]

theorem conv_sub_left (f f' g : Nat → Int) (n : Nat) : conv (fun i => f i - f' i) g n = conv f g n - conv f' g n := by
  have e := conv_add_left g n f (fun i => -1 * f' i)
  rw [conv_mul_left] at e
  rw [show (fun i => f i - f' i) = fun i => f i + -1 * f' i from funext fun i => by omega, e]; omega

theorem conv_assoc (g h : Nat → Int) (n : Nat) : ∀ f, conv (conv f g) h n = conv f (conv g h) n := by
  induction n with
  | zero => intro f; simp only [conv_zero]; exact Int.mul_assoc _ _ _
  | succ n ih =>
    intro f
    rw [conv_succ, conv_succ f, ← ih, conv_succ g h]
    have e : (fun i => conv f g (i + 1)) = fun i => (fun j => f 0 * (fun k => g (k + 1)) j) i + conv (fun k => f (k + 1)) g i := by
      funext i; exact conv_succ f g i
    rw [e, conv_add_left, conv_mul_left, conv_zero, Int.mul_add, Int.mul_assoc]; omega

theorem conv_mod {p : Int} {g g' : Nat → Int} (hg : ∀ n, g n % p = g' n % p) (n : Nat) : ∀ {f f' : Nat → Int}, (∀ n, f n % p = f' n % p) → conv f g n % p = conv f' g' n % p := by
  induction n with
  | zero => intro f f' hf; exact mm (hf 0) (hg 0)
  | succ n ih => intro f f' hf; exact ma (mm (hf 0) (hg _)) (ih fun n => hf (n + 1))

/-- Nothing from N on. -/
def Fin (f : Nat → Int) (N : Nat) : Prop := ∀ n, N ≤ n → f n = 0
/-- Nothing from N on, modulo p. -/
def FinM (p : Int) (f : Nat → Int) (N : Nat) : Prop := ∀ n, N ≤ n → f n % p = 0

theorem Fin.mod {p : Int} {f : Nat → Int} {N : Nat} (h : Fin f N) : FinM p f N := fun n hn => by rw [h n hn, Int.zero_emod]

theorem conv_null (g : Nat → Int) (n : Nat) : conv (fun _ => 0) g n = 0 := by
  induction n with
  | zero => rw [conv_zero, Int.zero_mul]
  | succ n ih => rw [conv_succ, Int.zero_mul, ih]; rfl

theorem conv_fin {g : Nat → Int} {B : Nat} (hg : Fin g B) (A : Nat) : ∀ {f : Nat → Int}, Fin f A → Fin (conv f g) (A + B - 1) := by
  induction A with
  | zero =>
    intro f hf n _
    rw [show f = fun _ => 0 from funext fun i => hf i (by omega)]; exact conv_null g n
  | succ A ih =>
    intro f hf n hn
    cases n with
    | zero =>
      rw [conv_zero, hg 0 (by omega), Int.mul_zero]
    | succ n =>
      rw [conv_succ, hg (n + 1) (by omega), Int.mul_zero, ih (f := fun i => f (i + 1)) (fun i hi => hf (i + 1) (by omega)) n (by omega)]; rfl

/-- The greatest coefficient of a product. -/
theorem conv_top {g : Nat → Int} {B : Nat} (hg : Fin g (B + 1)) (A : Nat) : ∀ {f : Nat → Int}, Fin f (A + 1) → conv f g (A + B) = f A * g B := by
  induction A with
  | zero =>
    intro f hf
    rw [Nat.zero_add]
    cases B with
    | zero => rfl
    | succ B =>
      rw [conv_succ, show (fun i => f (i + 1)) = fun _ => 0 from funext fun i => hf (i + 1) (by omega), conv_null, Int.add_zero]
  | succ A ih =>
    intro f hf
    rw [show A + 1 + B = (A + B) + 1 from by omega, conv_succ, hg _ (by omega), Int.mul_zero, Int.zero_add]
    exact ih (f := fun i => f (i + 1)) fun i hi => hf (i + 1) (by omega)

/-- The sum that a loop over the left factor has made of coefficient n behind I rounds. -/
def psum (f g : Nat → Int) (n : Nat) : Nat → Int
  | 0 => 0
  | I + 1 => psum f g n I + if I ≤ n then f I * g (n - I) else 0

theorem psum_succ (f g : Nat → Int) (n I : Nat) : psum f g n (I + 1) = psum f g n I + if I ≤ n then f I * g (n - I) else 0 := rfl

theorem psum_shift (f g : Nat → Int) (n : Nat) : ∀ I, psum f g (n + 1) (I + 1) = f 0 * g (n + 1) + psum (fun i => f (i + 1)) g n I := by
  intro I
  induction I with
  | zero => simp [psum]
  | succ I ih =>
    rw [psum, ih]
    show _ = _ + (psum (fun i => f (i + 1)) g n I + _)
    rw [show n + 1 - (I + 1) = n - I from by omega]
    by_cases h : I ≤ n
    · rw [if_pos h, if_pos (by omega)]; exact Int.add_assoc _ _ _
    · rw [if_neg h, if_neg (by omega)]; omega

theorem psum_conv (g : Nat → Int) (n : Nat) : ∀ f, psum f g n (n + 1) = conv f g n := by
  induction n with
  | zero => intro f; simp [psum, conv]
  | succ n ih => intro f; rw [psum_shift, ih, conv_succ]

theorem psum_more (f g : Nat → Int) (n : Nat) : ∀ k, psum f g n (n + 1 + k) = conv f g n := by
  intro k
  induction k with
  | zero => exact psum_conv g n f
  | succ k ih => rw [← Nat.add_assoc, psum_succ, ih, if_neg (by omega), Int.add_zero]

theorem psum_fin {f : Nat → Int} {A : Nat} (hf : Fin f A) (g : Nat → Int) (n : Nat) : ∀ k, psum f g n (A + k) = psum f g n A := by
  intro k
  induction k with
  | zero => rfl
  | succ k ih =>
    rw [← Nat.add_assoc, psum_succ, ih]
    by_cases h : A + k ≤ n
    · rw [if_pos h, hf _ (by omega), Int.zero_mul, Int.add_zero]
    · rw [if_neg h, Int.add_zero]

theorem psum_all {f : Nat → Int} {A : Nat} (hf : Fin f A) (g : Nat → Int) (n : Nat) : psum f g n A = conv f g n := by
  rcases (show A ≤ n + 1 ∨ n + 1 ≤ A by omega) with h | h
  · rw [← psum_conv g n f, show n + 1 = A + (n + 1 - A) from by omega, psum_fin hf]
  · rw [show A = n + 1 + (A - (n + 1)) from by omega, psum_more]

/-! ### Values -/
/-- The value at x of the polynomial with the first N coefficients of f (Horner). -/
def evf (x : Int) : Nat → (Nat → Int) → Int
  | 0, _ => 0
  | N + 1, f => f 0 + x * evf x N (fun i => f (i + 1))

theorem evf_succ (x : Int) (N : Nat) (f : Nat → Int) : evf x (N + 1) f = f 0 + x * evf x N (fun i => f (i + 1)) := rfl

theorem evf_add (x : Int) (N : Nat) : ∀ f g, evf x N (fun i => f i + g i) = evf x N f + evf x N g := by
  induction N with
  | zero => intro f g; rfl
  | succ N ih => intro f g; simp only [evf_succ]; rw [ih, Int.mul_add]; omega

theorem evf_mul (x k : Int) (N : Nat) : ∀ f, evf x N (fun i => k * f i) = k * evf x N f := by
  induction N with
  | zero => intro f; exact (Int.mul_zero k).symm
  | succ N ih => intro f; simp only [evf_succ]; rw [ih, Int.mul_add, Int.mul_left_comm]

theorem evf_null (x : Int) (N : Nat) : evf x N (fun _ => 0) = 0 := by
  induction N with
  | zero => rfl
  | succ N ih => rw [evf_succ, ih, Int.mul_zero]; rfl

theorem evf_fin (x : Int) (A : Nat) (k : Nat) : ∀ {f : Nat → Int}, Fin f A → evf x (A + k) f = evf x A f := by
  induction A with
  | zero =>
    intro f hf
    rw [show f = fun _ => 0 from funext fun i => hf i (by omega), evf_null, evf_null]
  | succ A ih =>
    intro f hf
    rw [show A + 1 + k = (A + k) + 1 from by omega, evf_succ, evf_succ, ih (f := fun i => f (i + 1)) fun i hi => hf (i + 1) (by omega)]

theorem evf_to {x : Int} {A M : Nat} {f : Nat → Int} (hf : Fin f A) (h : A ≤ M) : evf x M f = evf x A f := by
  rw [show M = A + (M - A) from by omega]; exact evf_fin x A _ hf

theorem evf_mod {p : Int} (x : Int) (N : Nat) : ∀ {f g : Nat → Int}, (∀ n, f n % p = g n % p) → evf x N f % p = evf x N g % p := by
  induction N with
  | zero => intro f g _; rfl
  | succ N ih => intro f g h; exact ma (h 0) (mm rfl (ih fun n => h (n + 1)))

theorem evf_conv (x : Int) {g : Nat → Int} {B : Nat} (hg : Fin g B) (A : Nat) : ∀ {f : Nat → Int} {M : Nat}, Fin f A → A + B ≤ M → evf x M (conv f g) = evf x A f * evf x B g := by
  induction A with
  | zero =>
    intro f M hf _
    rw [show conv f g = fun _ => 0 from funext fun n => by rw [show f = fun _ => 0 from funext fun i => hf i (by omega)]; exact conv_null g n, evf_null]
    exact (Int.zero_mul _).symm
  | succ A ih =>
    intro f M hf hM
    obtain ⟨M, rfl⟩ : ∃ M', M = M' + 1 := ⟨M - 1, by omega⟩
    have e : conv f g = fun i => (fun j => f 0 * g j) i + (fun j => match j with | 0 => 0 | j + 1 => conv (fun i => f (i + 1)) g j) i := by
      funext i; cases i with
      | zero => show f 0 * g 0 = f 0 * g 0 + 0; omega
      | succ i => rfl
    rw [e, evf_add, evf_mul, evf_to hg (by omega), evf_succ x M]
    show _ + (0 + x * evf x M (conv (fun i => f (i + 1)) g)) = _
    rw [ih (f := fun i => f (i + 1)) (fun i hi => hf (i + 1) (by omega)) (by omega), evf_succ x A]
    rw [Int.add_mul, Int.mul_assoc, Int.zero_add]

/-- The sum of the first N terms, with powers. -/
def evp (x : Int) (f : Nat → Int) : Nat → Int
  | 0 => 0
  | N + 1 => evp x f N + f N * x ^ N

theorem evp_shift (x : Int) (f : Nat → Int) : ∀ N, evp x f (N + 1) = f 0 + x * evp x (fun i => f (i + 1)) N := by
  intro N
  induction N with
  | zero => simp [evp]
  | succ N ih =>
    rw [evp, ih]
    show _ = f 0 + x * (evp x (fun i => f (i + 1)) N + f (N + 1) * x ^ N)
    rw [Int.mul_add, Int.pow_succ, Int.mul_comm (x ^ N) x, Int.mul_left_comm]; omega

theorem evp_eq (x : Int) (N : Nat) : ∀ f, evp x f N = evf x N f := by
  induction N with
  | zero => intro f; rfl
  | succ N ih => intro f; rw [evp_shift, ih, evf_succ]

/-! ### Zeros -/
/-- The quotient of a division of the first N + 1 coefficients of f by x - c. -/
def qf (c : Int) : Nat → (Nat → Int) → Nat → Int
  | 0, _, _ => 0
  | N + 1, f, 0 => evf c (N + 1) (fun i => f (i + 1))
  | N + 1, f, n + 1 => qf c N (fun i => f (i + 1)) n

theorem qf_top (c : Int) (N : Nat) : ∀ f, qf c (N + 1) f N = f (N + 1) := by
  induction N with
  | zero => intro f; show f 1 + c * 0 = f 1; omega
  | succ N ih => intro f; exact ih _

theorem qf_spec (x c : Int) (N : Nat) : ∀ f, evf x (N + 1) f - evf c (N + 1) f = (x - c) * evf x N (qf c N f) := by
  induction N with
  | zero => intro f; show f 0 + x * 0 - (f 0 + c * 0) = (x - c) * 0; omega
  | succ N ih =>
    intro f
    rw [evf_succ x (N + 1), evf_succ c (N + 1), evf_succ x N (qf c (N + 1) f)]
    show _ = (x - c) * (evf c (N + 1) (fun i => f (i + 1)) + x * evf x N (qf c N (fun i => f (i + 1))))
    have e := ih (fun i => f (i + 1))
    rw [Int.mul_add, Int.mul_left_comm (x - c) x, ← e, Int.mul_sub, Int.sub_mul]; omega

/-- A polynomial of degree N has at most N zeros. -/
theorem zeros_le {p : Int} (h : GoodI p) (N : Nat) : ∀ (f : Nat → Int) (L : List Int), f N % p ≠ 0 → L.Nodup → (∀ x ∈ L, 0 ≤ x ∧ x < p) →
    (∀ x ∈ L, evf x (N + 1) f % p = 0) → L.length ≤ N := by
  induction N with
  | zero =>
    intro f L hf _ _ hz
    cases L with
    | nil => exact Nat.le_refl _
    | cons c L => exact absurd (by have := hz c (by simp); rwa [show evf c (0 + 1) f = f 0 from by show f 0 + c * 0 = _; omega] at this) hf
  | succ N ih =>
    intro f L hf hn hb hz
    cases L with
    | nil => exact Nat.zero_le _
    | cons c L =>
      rw [List.nodup_cons] at hn
      have := ih (qf c (N + 1) f) L (by rw [qf_top]; exact hf) hn.2 (fun x hx => hb x (by simp [hx])) (by
        intro x hx
        have e := qf_spec x c (N + 1) f
        have e2 : (x - c) * evf x (N + 1) (qf c (N + 1) f) % p = 0 := by
          rw [← e, Int.sub_emod, hz x (by simp [hx]), hz c (by simp)]; rfl
        rcases noz h e2 with h1 | h1
        · exfalso
          have hx1 := hb x (by simp [hx])
          have hc1 := hb c (by simp)
          have hne : x ≠ c := fun e => hn.1 (e ▸ hx)
          have hd := Int.dvd_of_emod_eq_zero h1
          rcases (show x < c ∨ c < x by omega) with hlt | hlt
          · have := Int.le_of_dvd (show 0 < c - x by omega) ((Int.dvd_neg).1 (by rw [Int.neg_sub]; exact hd)); omega
          · have := Int.le_of_dvd (show 0 < x - c by omega) hd; omega
        · exact h1)
      simp only [List.length_cons]; omega

/-! ### Lists of coefficients -/
def co (f : List Int) (i : Nat) : Int := f[i]?.getD 0
/-- The length of the trimmed representation. -/
def tn : List Int → Nat
  | [] => 0
  | a :: as => if tn as = 0 ∧ a = 0 then 0 else tn as + 1
def trim (f : List Int) : List Int := f.take (tn f)
/-- Every coefficient is an element of the field. -/
def El (p : Int) (f : List Int) : Prop := ∀ x ∈ f, 0 ≤ x ∧ x < p

theorem co_nil (i : Nat) : co [] i = 0 := rfl
theorem co_zero (a : Int) (as : List Int) : co (a :: as) 0 = a := rfl
theorem co_succ (a : Int) (as : List Int) (i : Nat) : co (a :: as) (i + 1) = co as i := rfl
theorem co_fin (f : List Int) : Fin (co f) f.length := fun n hn => by unfold co; rw [List.getElem?_eq_none hn]; rfl
theorem co_at {f : List Int} {i : Nat} {x : Int} (h : f[i]? = some x) : co f i = x := by unfold co; rw [h]; rfl
theorem co_get {f : List Int} {i : Nat} (h : i < f.length) : co f i = f[i] := by unfold co; rw [List.getElem?_eq_getElem h]; rfl
theorem El.co {p : Int} {f : List Int} (h : El p f) (hp : 0 < p) (i : Nat) : 0 ≤ co f i ∧ co f i < p := by
  by_cases hi : i < f.length
  · rw [co_get hi]; exact h _ (List.getElem_mem hi)
  · rw [co_fin f i (by omega)]; omega
theorem El.cm {p : Int} {f : List Int} (h : El p f) (hp : 0 < p) (i : Nat) : PolyMath.co f i % p = PolyMath.co f i := small (h.co hp i).1 (h.co hp i).2
theorem El.nil (p : Int) : El p [] := fun _ h => absurd h (by simp)
theorem El.one {p : Int} (hp : 1 < p) : El p [1] := by
  intro x hx
  simp only [List.mem_singleton] at hx; subst hx; omega

theorem tn_le (f : List Int) : tn f ≤ f.length := by
  induction f with
  | nil => exact Nat.le_refl _
  | cons a as ih => unfold tn; split <;> simp only [List.length_cons] <;> omega
theorem tn_fin (f : List Int) : Fin (co f) (tn f) := by
  induction f with
  | nil => intro n _; rfl
  | cons a as ih =>
    intro n hn
    unfold tn at hn
    split at hn
    · rename_i h
      cases n with
      | zero => exact h.2
      | succ n => exact ih n (by omega)
    · cases n with
      | zero => omega
      | succ n => exact ih n (by omega)
theorem tn_top (f : List Int) (h : 0 < tn f) : co f (tn f - 1) ≠ 0 := by
  induction f with
  | nil => exact absurd h (by decide)
  | cons a as ih =>
    unfold tn at h ⊢
    split at h
    · omega
    · rename_i hn
      rw [if_neg hn, Nat.add_sub_cancel]
      by_cases h0 : tn as = 0
      · rw [h0]; exact fun e => hn ⟨h0, e⟩
      · rw [show tn as = (tn as - 1) + 1 from by omega, co_succ]; exact ih (by omega)
theorem tn_eq {f : List Int} {n : Nat} (h1 : Fin (co f) n) (h2 : 0 < n → co f (n - 1) ≠ 0) : tn f = n := by
  rcases Nat.lt_trichotomy (tn f) n with h | h | h
  · exact absurd (tn_fin f (n - 1) (by omega)) (h2 (by omega))
  · exact h
  · exact absurd (h1 (tn f - 1) (by omega)) (tn_top f (by omega))
theorem tn_same {a b : List Int} (h : ∀ i, co a i = co b i) : tn a = tn b :=
  tn_eq (fun n hn => by rw [h]; exact tn_fin b n hn) (fun h0 => by rw [h]; exact tn_top b h0)
theorem trim_length (f : List Int) : (trim f).length = tn f := by unfold trim; rw [List.length_take]; have := tn_le f; omega
theorem co_trim (f : List Int) (i : Nat) : co (trim f) i = co f i := by
  by_cases h : i < tn f
  · unfold trim co; rw [List.getElem?_take, if_pos h]
  · rw [co_fin (trim f) i (by rw [trim_length]; omega), tn_fin f i (by omega)]
theorem list_ext {a b : List Int} (hl : a.length = b.length) (h : ∀ i, co a i = co b i) : a = b := by
  apply List.ext_getElem hl
  intro i h1 h2
  have := h i
  rwa [co_get h1, co_get h2] at this
theorem trim_ext {a b : List Int} (h : ∀ i, co a i = co b i) : trim a = trim b :=
  list_ext (by rw [trim_length, trim_length, tn_same h]) fun i => by rw [co_trim, co_trim, h]
theorem tn_trim (f : List Int) : tn (trim f) = tn f := tn_same (co_trim f)
theorem trim_trim (f : List Int) : trim (trim f) = trim f := trim_ext (co_trim f)
theorem trim_of {f : List Int} (h : f = [] ∨ co f (f.length - 1) ≠ 0) : trim f = f := by
  have e : tn f = f.length := tn_eq (co_fin f) (fun h0 => h.resolve_left fun e => by rw [e] at h0; exact absurd h0 (by simp))
  unfold trim; rw [e, List.take_length]
theorem El.trim {p : Int} {f : List Int} (h : El p f) : El p (trim f) := fun x hx => h x (List.mem_of_mem_take hx)
theorem trim_nil_iff (f : List Int) : trim f = [] ↔ tn f = 0 := by
  rw [← trim_length]; exact List.length_eq_zero_iff.symm
theorem trim_nil {f : List Int} (h : ∀ i, co f i = 0) : trim f = [] := trim_ext (b := []) fun i => by rw [h, co_nil]

/-- The trimmed list of the first N values of c modulo p. -/
def nf (p : Int) (c : Nat → Int) (N : Nat) : List Int := trim ((List.range N).map fun n => c n % p)

theorem co_map (c : Nat → Int) (N i : Nat) : co ((List.range N).map c) i = if i < N then c i else 0 := by
  unfold co
  rw [List.getElem?_map]
  by_cases h : i < N
  · rw [if_pos h, List.getElem?_range h]; rfl
  · rw [if_neg h, List.getElem?_eq_none (by rw [List.length_range]; omega)]; rfl
theorem co_nf {p : Int} {c : Nat → Int} {N : Nat} (h : FinM p c N) (i : Nat) : co (nf p c N) i = c i % p := by
  unfold nf; rw [co_trim, co_map]
  by_cases hi : i < N
  · rw [if_pos hi]
  · rw [if_neg hi, h i (by omega)]
theorem nf_el {p : Int} (hp : 0 < p) (c : Nat → Int) (N : Nat) : El p (nf p c N) := by
  apply El.trim
  intro x hx
  obtain ⟨n, _, rfl⟩ := List.mem_map.1 hx
  exact md _ _ hp
theorem nf_trim (p : Int) (c : Nat → Int) (N : Nat) : trim (nf p c N) = nf p c N := trim_trim _
theorem nf_ext {p : Int} {c d : Nat → Int} {N M : Nat} (hc : FinM p c N) (hd : FinM p d M) (h : ∀ n, c n % p = d n % p) : nf p c N = nf p d M := by
  rw [← nf_trim p c, ← nf_trim p d]
  exact trim_ext fun i => by rw [co_nf hc, co_nf hd, h]
theorem nf_is {p : Int} {c : Nat → Int} {N : Nat} {f : List Int} (hc : FinM p c N) (ht : trim f = f) (h : ∀ n, c n % p = co f n) : nf p c N = f := by
  rw [← nf_trim p c, ← ht]
  exact trim_ext fun i => by rw [co_nf hc, h]
/-- A list of the coefficients wanted, trimmed. -/
theorem nf_of {p : Int} {c : Nat → Int} {N : Nat} {f : List Int} (hc : FinM p c N) (h : ∀ n, co f n = c n % p) : trim f = nf p c N := by
  rw [← nf_trim p c]
  exact trim_ext fun i => by rw [co_nf hc, h]

/-! ### The operations -/
def padd (p : Int) (a b : List Int) : List Int := nf p (fun n => co a n + co b n) (max a.length b.length)
def psub (p : Int) (a b : List Int) : List Int := nf p (fun n => co a n - co b n) (max a.length b.length)
def pscl (p k : Int) (a : List Int) : List Int := nf p (fun n => k * co a n) a.length
def pmul (p : Int) (a b : List Int) : List Int := nf p (conv (co a) (co b)) (a.length + b.length - 1)
def pev (p : Int) (a : List Int) (x : Int) : Int := evf x a.length (co a) % p

theorem padd_fin (a b : List Int) : Fin (fun n => co a n + co b n) (max a.length b.length) := fun n hn => by
  show co a n + co b n = 0; rw [co_fin a n (by omega), co_fin b n (by omega)]; rfl
theorem psub_fin (a b : List Int) : Fin (fun n => co a n - co b n) (max a.length b.length) := fun n hn => by
  show co a n - co b n = 0; rw [co_fin a n (by omega), co_fin b n (by omega)]; rfl
theorem pscl_fin (k : Int) (a : List Int) : Fin (fun n => k * co a n) a.length := fun n hn => by
  show k * co a n = 0; rw [co_fin a n (by omega), Int.mul_zero]
theorem pmul_fin (a b : List Int) : Fin (conv (co a) (co b)) (a.length + b.length - 1) := conv_fin (co_fin b) _ (co_fin a)

theorem co_padd (p : Int) (a b : List Int) (n : Nat) : co (padd p a b) n = (co a n + co b n) % p := co_nf (padd_fin a b).mod n
theorem co_psub (p : Int) (a b : List Int) (n : Nat) : co (psub p a b) n = (co a n - co b n) % p := co_nf (psub_fin a b).mod n
theorem co_pscl (p k : Int) (a : List Int) (n : Nat) : co (pscl p k a) n = k * co a n % p := co_nf (pscl_fin k a).mod n
theorem co_pmul (p : Int) (a b : List Int) (n : Nat) : co (pmul p a b) n = conv (co a) (co b) n % p := co_nf (pmul_fin a b).mod n

theorem padd_trim (p : Int) (a b : List Int) : trim (padd p a b) = padd p a b := nf_trim _ _ _
theorem psub_trim (p : Int) (a b : List Int) : trim (psub p a b) = psub p a b := nf_trim _ _ _
theorem pscl_trim (p k : Int) (a : List Int) : trim (pscl p k a) = pscl p k a := nf_trim _ _ _
theorem pmul_trim (p : Int) (a b : List Int) : trim (pmul p a b) = pmul p a b := nf_trim _ _ _
theorem padd_el {p : Int} (hp : 0 < p) (a b : List Int) : El p (padd p a b) := nf_el hp _ _
theorem psub_el {p : Int} (hp : 0 < p) (a b : List Int) : El p (psub p a b) := nf_el hp _ _
theorem pscl_el {p : Int} (hp : 0 < p) (k : Int) (a : List Int) : El p (pscl p k a) := nf_el hp _ _
theorem pmul_el {p : Int} (hp : 0 < p) (a b : List Int) : El p (pmul p a b) := nf_el hp _ _
theorem nf_len (p : Int) (c : Nat → Int) (N : Nat) : (nf p c N).length ≤ N := by
  unfold nf; rw [trim_length]; have := tn_le ((List.range N).map fun n => c n % p); rw [List.length_map, List.length_range] at this; exact this
theorem padd_len (p : Int) (a b : List Int) : (padd p a b).length ≤ max a.length b.length := nf_len _ _ _
theorem psub_len (p : Int) (a b : List Int) : (psub p a b).length ≤ max a.length b.length := nf_len _ _ _
theorem pscl_len (p k : Int) (a : List Int) : (pscl p k a).length ≤ a.length := nf_len _ _ _
theorem pmul_len (p : Int) (a b : List Int) : (pmul p a b).length ≤ a.length + b.length - 1 := nf_len _ _ _
theorem pev_bd {p : Int} (hp : 0 < p) (a : List Int) (x : Int) : 0 ≤ pev p a x ∧ pev p a x < p := md _ _ hp

/-- Two trimmed lists with the same coefficients. -/
theorem same_of {a b : List Int} (ha : trim a = a) (hb : trim b = b) (h : ∀ n, co a n = co b n) : a = b := by rw [← ha, ← hb]; exact trim_ext h

/-- The reference's difference: adding p - 1 times the other. -/
theorem psub_ref (p : Int) (a b : List Int) : padd p a (pscl p (p - 1) b) = psub p a b :=
  same_of (padd_trim _ _ _) (psub_trim _ _ _) fun n => by
    rw [co_padd, co_psub, co_pscl, Int.add_emod_emod, Int.sub_mul, Int.one_mul, show co a n + (p * co b n - co b n) = co a n - co b n + p * co b n from by omega, Int.add_mul_emod_self_left]

/-! ### The ring -/
theorem padd_assoc (p : Int) (a b c : List Int) : padd p (padd p a b) c = padd p a (padd p b c) :=
  same_of (padd_trim _ _ _) (padd_trim _ _ _) fun n => by
    rw [co_padd, co_padd, co_padd, co_padd, Int.emod_add_emod, Int.add_emod_emod, Int.add_assoc]
theorem padd_comm (p : Int) (a b : List Int) : padd p a b = padd p b a :=
  same_of (padd_trim _ _ _) (padd_trim _ _ _) fun n => by rw [co_padd, co_padd, Int.add_comm]
theorem pmul_comm (p : Int) (a b : List Int) : pmul p a b = pmul p b a :=
  same_of (pmul_trim _ _ _) (pmul_trim _ _ _) fun n => by rw [co_pmul, co_pmul, conv_comm]
theorem pmul_assoc (p : Int) (a b c : List Int) : pmul p (pmul p a b) c = pmul p a (pmul p b c) :=
  same_of (pmul_trim _ _ _) (pmul_trim _ _ _) fun n => by
    rw [co_pmul, co_pmul, conv_mod (p := p) (g' := co c) (fun _ => rfl) n (f' := conv (co a) (co b)) (fun m => by rw [co_pmul, mdd]),
      conv_mod (p := p) (g := co (pmul p b c)) (g' := conv (co b) (co c)) (fun m => by rw [co_pmul, mdd]) n (f' := co a) (fun _ => rfl), conv_assoc]
theorem pmul_padd (p : Int) (a b c : List Int) : pmul p a (padd p b c) = padd p (pmul p a b) (pmul p a c) :=
  same_of (pmul_trim _ _ _) (padd_trim _ _ _) fun n => by
    rw [co_pmul, co_padd, co_pmul, co_pmul, conv_mod (p := p) (g := co (padd p b c)) (g' := fun i => co b i + co c i) (fun m => by rw [co_padd, mdd]) n (f' := co a) (fun _ => rfl),
      conv_add_right, Int.add_emod]
theorem psub_padd {p : Int} (hp : 0 < p) {a : List Int} (ha : El p a) (b : List Int) : padd p (psub p a b) b = trim a :=
  same_of (padd_trim _ _ _) (trim_trim _) fun n => by
    rw [co_padd, co_psub, co_trim, Int.emod_add_emod, show co a n - co b n + co b n = co a n from by omega, ha.cm hp]
theorem psub_self (p : Int) (a : List Int) : psub p a a = [] :=
  same_of (psub_trim _ _ _) rfl fun n => by rw [co_psub, Int.sub_self, Int.zero_emod, co_nil]

/-- The degree of a product. -/
theorem tn_pmul {p : Int} (h : GoodI p) {a b : List Int} (ha : El p a) (hb : El p b) (h1 : 0 < tn a) (h2 : 0 < tn b) : tn (pmul p a b) = tn a + tn b - 1 := by
  have hp := h.two
  have fa := tn_fin a
  have fb := tn_fin b
  apply tn_eq
  · intro n hn; rw [co_pmul, conv_fin fb _ fa n hn, Int.zero_emod]
  · intro _
    rw [co_pmul, show tn a + tn b - 1 - 1 = (tn a - 1) + (tn b - 1) from by omega,
      conv_top (B := tn b - 1) (fun n hn => fb n (by omega)) (tn a - 1) (fun n hn => fa n (by omega))]
    intro e
    rcases noz h e with e | e
    · rw [ha.cm (by omega)] at e; exact tn_top a h1 e
    · rw [hb.cm (by omega)] at e; exact tn_top b h2 e

theorem pmul_nil {p : Int} {a b : List Int} (h : tn a = 0 ∨ tn b = 0) : pmul p a b = [] := by
  rw [← pmul_trim]
  apply trim_nil
  intro n
  rw [co_pmul]
  rcases h with h | h
  · rw [show co a = fun _ => 0 from funext fun i => tn_fin a i (by omega), conv_null, Int.zero_emod]
  · rw [conv_comm, show co b = fun _ => 0 from funext fun i => tn_fin b i (by omega), conv_null, Int.zero_emod]

/-! ### Values -/
theorem pev_padd (p : Int) (a b : List Int) (x : Int) : pev p (padd p a b) x = fadd p (pev p a x) (pev p b x) := by
  unfold pev fadd
  have h1 : (padd p a b).length ≤ max a.length b.length := padd_len p a b
  rw [← evf_to (x := x) (co_fin (padd p a b)) h1, evf_mod (p := p) x _ (g := fun i => co a i + co b i) (fun n => by rw [co_padd, mdd]), evf_add,
    evf_to (co_fin a) (by omega), evf_to (co_fin b) (by omega), Int.add_emod]
theorem pev_pmul (p : Int) (a b : List Int) (x : Int) : pev p (pmul p a b) x = fmul p (pev p a x) (pev p b x) := by
  unfold pev fmul
  have h1 : (pmul p a b).length ≤ a.length + b.length := by have := pmul_len p a b; omega
  rw [← evf_to (x := x) (co_fin (pmul p a b)) h1, evf_mod (p := p) x _ (g := conv (co a) (co b)) (fun n => by rw [co_pmul, mdd]),
    evf_conv x (co_fin b) _ (co_fin a) (Nat.le_refl _), Int.mul_emod]
theorem pev_ext (p : Int) {a b : List Int} (h : ∀ i, co a i = co b i) (x : Int) : pev p a x = pev p b x := by
  unfold pev
  rw [← evf_to (x := x) (co_fin a) (Nat.le_max_left a.length b.length), ← evf_to (x := x) (co_fin b) (Nat.le_max_right a.length b.length), show co a = co b from funext h]
theorem pev_trim (p : Int) (a : List Int) (x : Int) : pev p (trim a) x = pev p a x := pev_ext p (co_trim a) x

/-! ### Division -/
/-- a = q b + r, and r is shorter than b. -/
structure DM (p : Int) (a b q r : List Int) : Prop where
  qt : trim q = q
  rt : trim r = r
  qe : El p q
  re : El p r
  lt : r.length < tn b
  eq : ∀ n, (conv (co q) (co b) n + co r n) % p = co a n % p

theorem DM.unique {p : Int} (h : GoodI p) {a b q r q' r' : List Int} (hb : El p b) (h1 : DM p a b q r) (h2 : DM p a b q' r') : q = q' ∧ r = r' := by
  have hp := h.two
  have hb0 : 0 < tn b := by have := h1.lt; omega
  have key : ∀ n, conv (fun i => co q i - co q' i) (co b) n % p = (co r' n - co r n) % p := by
    intro n
    have e := ms (h1.eq n) (h2.eq n)
    rw [Int.sub_self, Int.zero_emod] at e
    rw [conv_sub_left]
    have e2 := ma (e.trans (Int.zero_emod p).symm) (show (co r' n - co r n) % p = (co r' n - co r n) % p from rfl)
    rw [Int.zero_add] at e2
    rw [← e2]; congr 1; omega
  -- from N on the quotients agree
  have down : ∀ k N, q.length + q'.length ≤ N + k → ∀ n, N ≤ n → (co q n - co q' n) % p = 0 := by
    intro k
    induction k with
    | zero => intro N hN n hn; rw [co_fin q n (by omega), co_fin q' n (by omega)]; exact Int.zero_emod p
    | succ k ih =>
      intro N hN n hn
      by_cases hlt : N + 1 ≤ n
      · exact ih (N + 1) (by omega) n hlt
      · obtain rfl : n = N := by omega
        have up := ih (n + 1) (by omega)
        have e := key (n + (tn b - 1))
        have t : conv (fun i => co q i - co q' i) (co b) (n + (tn b - 1)) % p = (co q n - co q' n) * co b (tn b - 1) % p := by
          rw [conv_mod (p := p) (g' := co b) (fun _ => rfl) _ (f' := fun i => if i ≤ n then co q i - co q' i else 0) (fun m => by
            show _ = (if m ≤ n then co q m - co q' m else 0) % p
            by_cases hm : m ≤ n
            · rw [if_pos hm]
            · rw [if_neg hm, up m (by omega), Int.zero_emod])]
          rw [conv_top (B := tn b - 1) (fun m hm => tn_fin b m (by omega)) n (fun m hm => by show (if m ≤ n then _ else _) = 0; rw [if_neg (by omega)])]
          show (if n ≤ n then co q n - co q' n else 0) * _ % p = _
          rw [if_pos (Nat.le_refl _)]
        rw [t, co_fin r' _ (by have := h2.lt; omega), co_fin r _ (by have := h1.lt; omega), Int.sub_self, Int.zero_emod] at e
        rcases noz h e with e | e
        · exact e
        · rw [hb.cm (by omega)] at e; exact absurd e (tn_top b hb0)
  have eqm : ∀ {x y : Int}, 0 ≤ x ∧ x < p → 0 ≤ y ∧ y < p → (x - y) % p = 0 → x = y := by
    intro x y hx hy e
    have hd := Int.dvd_of_emod_eq_zero e
    rcases (show x < y ∨ x = y ∨ y < x by omega) with hlt | he | hlt
    · have := Int.le_of_dvd (show 0 < y - x by omega) ((Int.dvd_neg).1 (by rw [Int.neg_sub]; exact hd)); omega
    · exact he
    · have := Int.le_of_dvd (show 0 < x - y by omega) hd; omega
  have zero := fun n => down (q.length + q'.length) 0 (by omega) n (Nat.zero_le _)
  refine ⟨same_of h1.qt h2.qt fun n => eqm (h1.qe.co (by omega) n) (h2.qe.co (by omega) n) (zero n), same_of h1.rt h2.rt fun n => ?_⟩
  have e := key n
  rw [conv_mod (p := p) (g' := co b) (fun _ => rfl) n (f' := fun _ => 0) (fun m => by rw [zero m, Int.zero_emod]), conv_null, Int.zero_emod] at e
  exact (eqm (h2.re.co (by omega) n) (h1.re.co (by omega) n) e.symm).symm

theorem DM.back {p : Int} (hp : 0 < p) {a b q r : List Int} (ha : El p a) (h : DM p a b q r) : padd p (pmul p q b) r = trim a :=
  same_of (padd_trim _ _ _) (trim_trim _) fun n => by rw [co_padd, co_pmul, co_trim, Int.emod_add_emod, h.eq, ha.cm hp]

theorem DM.make {p : Int} {q b r : List Int} (hq : El p q) (hr : El p r) (hl : tn r < tn b) : DM p (padd p (pmul p q b) r) b (trim q) (trim r) where
  qt := trim_trim _
  rt := trim_trim _
  qe := hq.trim
  re := hr.trim
  lt := by rw [trim_length]; exact hl
  eq := fun n => by rw [co_padd, co_pmul, co_trim, Int.emod_add_emod, mdd, conv_ext (co_trim q) (fun _ => rfl)]

/-- The remainder of a division by x - c is the value at c. -/
theorem DM.value {p : Int} (hp : 1 < p) {a q r : List Int} {c : Int} (h : DM p a [(p - c) % p, 1] q r) : r.length ≤ 1 ∧ co r 0 = pev p a c := by
  have ht : tn [(p - c) % p, 1] = 2 := by simp [tn]
  have hl : r.length ≤ 1 := by have := h.lt; omega
  refine ⟨hl, ?_⟩
  have hr := h.re.co (by omega) 0
  unfold pev
  have e : evf c (max (q.length + 2) a.length) (fun n => conv (co q) (co [(p - c) % p, 1]) n + co r n) % p = evf c (max (q.length + 2) a.length) (co a) % p :=
    evf_mod (p := p) c _ h.eq
  rw [evf_add, evf_conv c (co_fin [(p - c) % p, 1]) _ (co_fin q) (show q.length + 2 ≤ _ by omega), evf_to (co_fin a) (by omega), evf_to (co_fin r) (by omega)] at e
  rw [← e]
  have e1 : evf c [(p - c) % p, 1].length (co [(p - c) % p, 1]) % p = 0 := by
    show ((p - c) % p + c * (1 + c * 0)) % p = 0
    rw [Int.mul_zero, Int.add_zero, Int.mul_one, Int.emod_add_emod, Int.sub_add_cancel, Int.emod_self]
  have e2 : evf c r.length (co r) = co r 0 := by
    rw [← evf_to (co_fin r) hl]; show co r 0 + c * 0 = _; omega
  rw [e2, ma (mm (show evf c q.length (co q) % p = _ from rfl) (e1.trans (Int.zero_emod p).symm)) rfl, Int.mul_zero, Int.zero_add, small hr.1 hr.2]

/-- One step of a division: taking the multiple of b that cancels the leading coefficient. -/
theorem div_step {p : Int} {a b r q t : List Int} (h : ∀ n, (conv (co q) (co b) n + co r n) % p = co a n % p) :
    ∀ n, (conv (co (padd p q t)) (co b) n + co (psub p r (pmul p t b)) n) % p = co a n % p := by
  intro n
  rw [co_psub, co_pmul, ← h n]
  have e1 := conv_mod (p := p) (g' := co b) (fun _ => rfl) n (f := co (padd p q t)) (f' := fun i => co q i + co t i) (fun m => by rw [co_padd, mdd])
  rw [conv_add_left] at e1
  rw [Int.add_emod_emod]
  have e2 := ma e1 (ms (show co r n % p = _ from rfl) (mdd p (conv (co t) (co b) n)))
  rw [e2]; congr 1; omega

/-! ### Products of factors x - c -/
def prodX (p : Int) : List Int → List Int → List Int
  | m, [] => m
  | m, c :: cs => prodX p (pmul p m [(p - c) % p, 1]) cs

theorem pev_lin {p : Int} (c x : Int) : pev p [(p - c) % p, 1] x = (x - c) % p := by
  show ((p - c) % p + x * (1 + x * 0)) % p = _
  rw [Int.mul_zero, Int.add_zero, Int.mul_one, Int.emod_add_emod, show p - c + x = x - c + p * 1 from by omega, Int.add_mul_emod_self_left]

theorem el_lin {p : Int} (hp : 1 < p) (c : Int) : El p [(p - c) % p, 1] := by
  intro x hx
  simp only [List.mem_cons, List.not_mem_nil, or_false] at hx
  rcases hx with rfl | rfl
  · exact md _ _ (by omega)
  · omega

theorem prodX_tn {p : Int} (h : GoodI p) : ∀ (cs m : List Int), El p m → 0 < tn m → tn (prodX p m cs) = tn m + cs.length := by
  have hp := h.two
  intro cs
  induction cs with
  | nil => intro m _ _; rfl
  | cons c cs ih =>
    intro m hm h0
    have e := tn_pmul h hm (el_lin (p := p) (by omega) c) h0 (by simp [tn])
    rw [show tn [(p - c) % p, 1] = 2 from by simp [tn]] at e
    show tn (prodX p (pmul p m [(p - c) % p, 1]) cs) = _
    rw [ih _ (pmul_el (by omega) _ _) (by omega), e, List.length_cons]; omega

theorem prodX_zero {p : Int} (h : GoodI p) : ∀ (cs m : List Int) (x : Int), 0 ≤ x ∧ x < p → El p cs → (pev p (prodX p m cs) x = 0 ↔ pev p m x = 0 ∨ x ∈ cs) := by
  have hp := h.two
  intro cs
  induction cs with
  | nil => intro m x _ _; simp [prodX]
  | cons c cs ih =>
    intro m x hx hc
    show pev p (prodX p (pmul p m [(p - c) % p, 1]) cs) x = 0 ↔ _
    rw [ih _ x hx (fun y hy => hc y (by simp [hy])), pev_pmul, pev_lin, List.mem_cons]
    have hcb := hc c (by simp)
    have hm := pev_bd (p := p) (by omega) m x
    constructor
    · rintro (e | e)
      · unfold fmul at e
        rcases noz h e with e | e
        · left; rwa [small hm.1 hm.2] at e
        · right; left
          rw [mdd] at e
          have hd := Int.dvd_of_emod_eq_zero e
          rcases (show x < c ∨ x = c ∨ c < x by omega) with hlt | he | hlt
          · have := Int.le_of_dvd (show 0 < c - x by omega) ((Int.dvd_neg).1 (by rw [Int.neg_sub]; exact hd)); omega
          · exact he
          · have := Int.le_of_dvd (show 0 < x - c by omega) hd; omega
      · exact .inr (.inr e)
    · rintro (e | e | e)
      · left; rw [e]; unfold fmul; rw [Int.zero_mul, Int.zero_emod]
      · left; rw [e, Int.sub_self, Int.zero_emod]; exact fmul_zero _ _
      · exact .inr e

/-- A nonzero polynomial has at most as many zeros in a list of different elements as its degree. -/
theorem zeros_list {p : Int} (h : GoodI p) {a : List Int} (ha : El p a) (h0 : 0 < tn a) {L : List Int} (hn : L.Nodup) (hb : ∀ x ∈ L, 0 ≤ x ∧ x < p) (hz : ∀ x ∈ L, pev p a x = 0) : L.length ≤ tn a - 1 := by
  have hp := h.two
  apply zeros_le h (tn a - 1) (co a) L (by rw [ha.cm (by omega)]; exact tn_top a h0) hn hb
  intro x hx
  have := hz x hx
  unfold pev at this
  rw [show tn a - 1 + 1 = tn a from by omega, ← evf_to (tn_fin a) (tn_le a)]
  exact this

end PolyMath
