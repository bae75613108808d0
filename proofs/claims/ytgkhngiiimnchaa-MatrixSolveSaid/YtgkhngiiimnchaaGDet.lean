/- Plain facts about determinants of integer matrices, with no Go in sight: expansion along the first column, and how it turns under operations on rows. A matrix is a function of two indices. No conditions but those said. -/
import Derived.Test.YtgkhngiiimnchaaPMath
namespace MatMath
open PolyMath

/-! ### Sums -/
def sg : Nat → (Nat → Int) → Int
  | 0, _ => 0
  | n + 1, f => sg n f + f n
theorem sg_succ (n : Nat) (f : Nat → Int) : sg (n + 1) f = sg n f + f n := rfl
theorem sg_congr {f g : Nat → Int} : ∀ n, (∀ i, i < n → f i = g i) → sg n f = sg n g
  | 0, _ => rfl
  | n + 1, h => by rw [sg_succ, sg_succ, sg_congr n (fun i hi => h i (by omega)), h n (by omega)]
theorem sg_zero {f : Nat → Int} : ∀ n, (∀ i, i < n → f i = 0) → sg n f = 0
  | 0, _ => rfl
  | n + 1, h => by rw [sg_succ, sg_zero n (fun i hi => h i (by omega)), h n (by omega)]; rfl
theorem sg_add (f g : Nat → Int) : ∀ n, sg n (fun i => f i + g i) = sg n f + sg n g
  | 0 => rfl
  | n + 1 => by rw [sg_succ, sg_succ, sg_succ, sg_add f g n]; omega
theorem sg_mul (k : Int) (f : Nat → Int) : ∀ n, sg n (fun i => k * f i) = k * sg n f
  | 0 => (Int.mul_zero k).symm
  | n + 1 => by rw [sg_succ, sg_succ, sg_mul k f n, Int.mul_add]
theorem sg_mod {p : Int} {f g : Nat → Int} : ∀ n, (∀ i, i < n → f i % p = g i % p) → sg n f % p = sg n g % p
  | 0, _ => rfl
  | n + 1, h => by rw [sg_succ, sg_succ]; exact ma (sg_mod n fun i hi => h i (by omega)) (h n (by omega))
theorem sg_one {f : Nat → Int} {j : Nat} : ∀ n, j < n → (∀ i, i < n → i ≠ j → f i = 0) → sg n f = f j
  | n + 1, hj, h => by
    rw [sg_succ]
    by_cases e : n = j
    · subst e
      rw [sg_zero n (fun i hi => h i (by omega) (by omega)), Int.zero_add]
    · rw [sg_one n (by omega) (fun i hi => h i (by omega)), h n (by omega) e, Int.add_zero]
theorem sg_two {f : Nat → Int} {j : Nat} : ∀ n, j + 1 < n → (∀ i, i < n → i ≠ j → i ≠ j + 1 → f i = 0) → sg n f = f j + f (j + 1)
  | n + 1, hj, h => by
    rw [sg_succ]
    by_cases e : n = j + 1
    · subst e
      rw [sg_one (j := j) (j + 1) (by omega) (fun i hi hne => h i (by omega) hne (by omega))]
    · rw [sg_two n (by omega) (fun i hi => h i (by omega)), h n (by omega) (by omega) e, Int.add_zero]
theorem sg_comm (f : Nat → Nat → Int) (m : Nat) : ∀ n, sg n (fun i => sg m (fun j => f i j)) = sg m (fun j => sg n (fun i => f i j))
  | 0 => (sg_zero m fun _ _ => rfl).symm
  | n + 1 => by rw [sg_succ, sg_comm f m n, ← sg_add]; rfl

/-! ### The determinant -/
/-- The index that skips i. -/
def del (i r : Nat) : Nat := if r < i then r else r + 1
theorem del_ne (i r : Nat) : del i r ≠ i := by unfold del; split <;> omega
theorem del_lt {i r n : Nat} (h : r < n) : del i r < n + 1 := by unfold del; split <;> omega
/-- The matrix without row i and without its first column. -/
def mnr (A : Nat → Nat → Int) (i : Nat) : Nat → Nat → Int := fun r c => A (del i r) (c + 1)
def sgn : Nat → Int
  | 0 => 1
  | n + 1 => -sgn n
def det : Nat → (Nat → Nat → Int) → Int
  | 0, _ => 1
  | n + 1, A => sg (n + 1) fun i => sgn i * A i 0 * det n (mnr A i)
theorem det_succ (n : Nat) (A : Nat → Nat → Int) : det (n + 1) A = sg (n + 1) fun i => sgn i * A i 0 * det n (mnr A i) := rfl
theorem det_congr : ∀ (n : Nat) {A B : Nat → Nat → Int}, (∀ r c, r < n → c < n → A r c = B r c) → det n A = det n B
  | 0, _, _, _ => rfl
  | n + 1, A, B, h => by
    rw [det_succ, det_succ]
    refine sg_congr (n + 1) fun i hi => ?_
    rw [h i 0 hi (by omega), det_congr n (A := mnr A i) (B := mnr B i) fun r c hr hc => h _ _ (del_lt hr) (by omega)]
theorem det_mod {p : Int} : ∀ (n : Nat) {A B : Nat → Nat → Int}, (∀ r c, r < n → c < n → A r c % p = B r c % p) → det n A % p = det n B % p
  | 0, _, _, _ => rfl
  | n + 1, A, B, h => by
    rw [det_succ, det_succ]
    refine sg_mod (n + 1) fun i hi => ?_
    exact mm (mm rfl (h i 0 hi (by omega))) (det_mod n (A := mnr A i) (B := mnr B i) fun r c hr hc => h _ _ (del_lt hr) (by omega))

/-- The matrix with row r put in. -/
def upd (A : Nat → Nat → Int) (r : Nat) (u : Nat → Int) : Nat → Nat → Int := fun i c => if i = r then u c else A i c
theorem upd_self (A : Nat → Nat → Int) (r : Nat) : upd A r (A r) = A := by
  funext i c; unfold upd; by_cases h : i = r
  · rw [if_pos h, h]
  · rw [if_neg h]
theorem upd_upd (A : Nat → Nat → Int) (r : Nat) (u v : Nat → Int) : upd (upd A r u) r v = upd A r v := by
  funext i c; unfold upd; by_cases h : i = r
  · rw [if_pos h, if_pos h]
  · rw [if_neg h, if_neg h, if_neg h]
theorem upd_comm (A : Nat → Nat → Int) {r s : Nat} (h : r ≠ s) (u v : Nat → Int) : upd (upd A r u) s v = upd (upd A s v) r u := by
  funext i c; unfold upd
  by_cases h1 : i = r <;> by_cases h2 : i = s
  · omega
  · rw [if_neg h2, if_pos h1, if_pos h1]
  · rw [if_pos h2, if_neg h1, if_pos h2]
  · rw [if_neg h2, if_neg h1, if_neg h1, if_neg h2]
/-- Where row r stands when row i is left out. -/
def pre (i r : Nat) : Nat := if i < r then r - 1 else r
theorem del_pre {i r x : Nat} (h : i ≠ r) : del i x = r ↔ x = pre i r := by
  unfold del pre
  split <;> split <;> constructor <;> intro _ <;> omega
theorem mnr_same (A : Nat → Nat → Int) (r : Nat) (u : Nat → Int) : mnr (upd A r u) r = mnr A r := by
  funext x c; unfold mnr upd; rw [if_neg (del_ne r x)]
theorem mnr_upd (A : Nat → Nat → Int) {i r : Nat} (h : i ≠ r) (u : Nat → Int) : mnr (upd A r u) i = upd (mnr A i) (pre i r) (fun c => u (c + 1)) := by
  funext x c; unfold mnr upd
  by_cases e : del i x = r
  · rw [if_pos e, if_pos ((del_pre h).1 e)]
  · rw [if_neg e, if_neg (fun h2 => e ((del_pre h).2 h2))]
theorem pre_lt {i r n : Nat} (h : i ≠ r) (hi : i < n + 1) (hr : r < n + 1) : pre i r < n := by unfold pre; split <;> omega

theorem det_add : ∀ (n : Nat) (A : Nat → Nat → Int) (r : Nat) (u v : Nat → Int), r < n → det n (upd A r fun c => u c + v c) = det n (upd A r u) + det n (upd A r v)
  | n + 1, A, r, u, v, hr => by
    rw [det_succ, det_succ, det_succ, ← sg_add]
    refine sg_congr (n + 1) fun i hi => ?_
    by_cases e : i = r
    · subst e
      rw [mnr_same, mnr_same, mnr_same]
      show sgn i * (if i = i then u 0 + v 0 else A i 0) * _ = sgn i * (if i = i then u 0 else A i 0) * _ + sgn i * (if i = i then v 0 else A i 0) * _
      rw [if_pos rfl, if_pos rfl, if_pos rfl, Int.mul_add, Int.add_mul]
    · rw [mnr_upd A e, mnr_upd A e, mnr_upd A e, det_add n (mnr A i) (pre i r) (fun c => u (c + 1)) (fun c => v (c + 1)) (pre_lt e hi hr)]
      show sgn i * (if i = r then u 0 + v 0 else A i 0) * _ = sgn i * (if i = r then u 0 else A i 0) * _ + sgn i * (if i = r then v 0 else A i 0) * _
      rw [if_neg e, if_neg e, if_neg e, Int.mul_add]
theorem det_smul : ∀ (n : Nat) (A : Nat → Nat → Int) (r : Nat) (k : Int) (u : Nat → Int), r < n → det n (upd A r fun c => k * u c) = k * det n (upd A r u)
  | n + 1, A, r, k, u, hr => by
    rw [det_succ, det_succ, ← sg_mul]
    refine sg_congr (n + 1) fun i hi => ?_
    by_cases e : i = r
    · subst e
      rw [mnr_same, mnr_same]
      show sgn i * (if i = i then k * u 0 else A i 0) * _ = k * (sgn i * (if i = i then u 0 else A i 0) * _)
      rw [if_pos rfl, if_pos rfl]
      generalize det n (mnr A i) = D
      rw [← Int.mul_assoc, ← Int.mul_assoc, ← Int.mul_assoc, Int.mul_comm (sgn i) k]
    · rw [mnr_upd A e, mnr_upd A e, det_smul n (mnr A i) (pre i r) k (fun c => u (c + 1)) (pre_lt e hi hr)]
      show sgn i * (if i = r then k * u 0 else A i 0) * _ = k * (sgn i * (if i = r then u 0 else A i 0) * _)
      rw [if_neg e, if_neg e, Int.mul_left_comm]

/-- Two equal rows beside one another. -/
theorem det_adj : ∀ (n : Nat) (A : Nat → Nat → Int) (r : Nat), r + 1 < n → (∀ c, A r c = A (r + 1) c) → det n A = 0
  | n + 1, A, r, hr, h => by
    rw [det_succ, sg_two (j := r) (n + 1) hr]
    · have e : mnr A r = mnr A (r + 1) := by
        funext x c; unfold mnr del
        rcases Nat.lt_trichotomy x r with h1 | h1 | h1
        · rw [if_pos h1, if_pos (by omega)]
        · subst h1; rw [if_neg (by omega), if_pos (by omega)]; exact (h _).symm
        · rw [if_neg (by omega), if_neg (by omega)]
      rw [e, h 0, show sgn (r + 1) = -sgn r from rfl, Int.neg_mul, Int.neg_mul]
      omega
    · intro i hi h1 h2
      have h3 : det n (mnr A i) = 0 := by
        rcases (show i < r ∨ r + 1 < i by omega) with h4 | h4
        · refine det_adj n (mnr A i) (r - 1) (by omega) fun c => ?_
          unfold mnr del
          rw [if_neg (by omega), if_neg (by omega), show r - 1 + 1 = r from by omega]; exact h _
        · refine det_adj n (mnr A i) r (by omega) fun c => ?_
          unfold mnr del
          rw [if_pos (by omega), if_pos (by omega)]; exact h _
      rw [h3, Int.mul_zero]

/-- From 'two equal rows give nought' to 'a swap turns the sign'. -/
theorem swap_of {n r s : Nat} (hr : r < n) (hs : s < n) (hne : r ≠ s) (A : Nat → Nat → Int) (h0 : ∀ u, det n (upd (upd A r u) s u) = 0) (u v : Nat → Int) : det n (upd (upd A r v) s u) = -det n (upd (upd A r u) s v) := by
  have e1 := h0 (fun c => u c + v c)
  rw [det_add n _ s u v hs, upd_comm A hne, upd_comm A hne, det_add n _ r u v hr, det_add n _ r u v hr, ← upd_comm A hne, ← upd_comm A hne, ← upd_comm A hne, ← upd_comm A hne, h0 u, h0 v] at e1
  omega
theorem det_swap_adj {n r : Nat} (hr : r + 1 < n) (A : Nat → Nat → Int) (u v : Nat → Int) : det n (upd (upd A r v) (r + 1) u) = -det n (upd (upd A r u) (r + 1) v) :=
  swap_of (by omega) hr (by omega) A (fun u => det_adj n _ r hr fun c => by unfold upd; rw [if_neg (by omega), if_pos rfl, if_pos rfl]) u v
/-- Two equal rows. -/
theorem det_same {n : Nat} : ∀ (g : Nat) (A : Nat → Nat → Int) (r : Nat), r + g + 1 < n → (∀ c, A r c = A (r + g + 1) c) → det n A = 0
  | 0, A, r, hr, h => det_adj n A r hr h
  | g + 1, A, r, hr, h => by
    have e := det_swap_adj (n := n) (r := r + g + 1) (by omega) A (A (r + g + 1)) (A (r + g + 2))
    rw [upd_self A (r + g + 1), show r + g + 1 + 1 = r + g + 2 from rfl, upd_self A (r + g + 2)] at e
    have h1 : det n (upd (upd A (r + g + 1) (A (r + g + 2))) (r + g + 2) (A (r + g + 1))) = 0 := by
      refine det_same g _ r (by omega) fun c => ?_
      unfold upd
      rw [if_neg (by omega), if_neg (by omega), if_neg (by omega), if_pos rfl]
      exact h c
    omega
theorem det_equal {n r s : Nat} (hr : r < n) (hs : s < n) (hne : r ≠ s) (A : Nat → Nat → Int) (h : ∀ c, A r c = A s c) : det n A = 0 := by
  rcases (show r < s ∨ s < r by omega) with h1 | h1
  · exact det_same (s - r - 1) A r (by omega) (by rw [show r + (s - r - 1) + 1 = s from by omega]; exact h)
  · exact det_same (r - s - 1) A s (by omega) (by rw [show s + (r - s - 1) + 1 = r from by omega]; exact fun c => (h c).symm)

/-- A swap of two rows turns the sign. -/
theorem det_swap {n r s : Nat} (hr : r < n) (hs : s < n) (hne : r ≠ s) (A : Nat → Nat → Int) : det n (upd (upd A r (A s)) s (A r)) = -det n A := by
  have e := swap_of hr hs hne A (fun u => det_equal hr hs hne _ fun c => by unfold upd; rw [if_neg hne, if_pos rfl, if_pos rfl]) (A r) (A s)
  rwa [upd_self A r, upd_self A s] at e
/-- A multiple of another row added. -/
theorem det_row {n r s : Nat} (hr : r < n) (hs : s < n) (hne : r ≠ s) (A : Nat → Nat → Int) (k : Int) : det n (upd A s fun c => A s c + k * A r c) = det n A := by
  rw [det_add n A s (A s) (fun c => k * A r c) hs, det_smul n A s k (A r) hs, upd_self A s,
    det_equal (n := n) (r := r) (s := s) hr hs hne (upd A s (A r)) (fun c => by unfold upd; rw [if_neg hne, if_pos rfl]), Int.mul_zero, Int.add_zero]
/-- A row times a number. -/
theorem det_scale {n r : Nat} (hr : r < n) (A : Nat → Nat → Int) (k : Int) : det n (upd A r fun c => k * A r c) = k * det n A := by
  rw [det_smul n A r k (A r) hr, upd_self A r]
theorem det_none {n r : Nat} (hr : r < n) (A : Nat → Nat → Int) (h : ∀ c, A r c = 0) : det n A = 0 := by
  have e := det_smul n A r 0 (A r) hr
  rw [Int.zero_mul] at e
  rw [← e]
  refine det_congr n fun i c _ _ => ?_
  unfold upd
  by_cases h1 : i = r
  · rw [if_pos h1, h1, h c]; exact (Int.zero_mul _).symm
  · rw [if_neg h1]

/-! ### Triangles -/
def prd : Nat → (Nat → Int) → Int
  | 0, _ => 1
  | n + 1, f => prd n f * f n
theorem prd_shift (f : Nat → Int) : ∀ n, prd (n + 1) f = f 0 * prd n (fun i => f (i + 1))
  | 0 => by show 1 * f 0 = f 0 * 1; omega
  | n + 1 => by
    show prd (n + 1) f * f (n + 1) = f 0 * (prd n (fun i => f (i + 1)) * f (n + 1))
    rw [prd_shift f n, Int.mul_assoc]
theorem det_tri : ∀ (n : Nat) {A : Nat → Nat → Int}, (∀ r c, r < n → c < r → A r c = 0) → det n A = prd n fun i => A i i
  | 0, _, _ => rfl
  | n + 1, A, h => by
    rw [det_succ, sg_one (j := 0) (n + 1) (by omega) (fun i hi h0 => by rw [h i 0 hi (by omega), Int.mul_zero, Int.zero_mul]), prd_shift]
    show 1 * A 0 0 * _ = _
    rw [Int.one_mul, det_tri n (A := mnr A 0) (fun r c hr hc => by unfold mnr del; rw [if_neg (by omega)]; exact h _ _ (by omega) (by omega))]
    rfl
/-- The unit matrix. -/
def one (r c : Nat) : Int := if r = c then 1 else 0
theorem prd_one : ∀ n, prd n (fun _ => 1) = 1
  | 0 => rfl
  | n + 1 => by show prd n (fun _ => 1) * 1 = 1; rw [prd_one n]; rfl
theorem det_one (n : Nat) : det n one = 1 := by
  rw [det_tri n (A := one) (fun r c _ hc => if_neg (by omega)), show (fun i => one i i) = fun _ => 1 from funext fun i => if_pos rfl, prd_one]

/-! ### Products -/
/-- The product of two matrices, with m terms in each sum. -/
def mat (m : Nat) (A B : Nat → Nat → Int) : Nat → Nat → Int := fun r c => sg m fun j => A r j * B j c
theorem mat_assoc (m l : Nat) (A B C : Nat → Nat → Int) (r c : Nat) : mat l (mat m A B) C r c = mat m A (mat l B C) r c := by
  unfold mat
  have e1 : (fun j => sg m (fun k => A r k * B k j) * C j c) = fun j => sg m (fun k => A r k * B k j * C j c) := by
    funext j
    rw [Int.mul_comm, ← sg_mul]
    exact sg_congr m fun k _ => Int.mul_comm _ _
  have e2 : (fun k => A r k * sg l (fun j => B k j * C j c)) = fun k => sg l (fun j => A r k * B k j * C j c) := by
    funext k
    rw [← sg_mul]
    exact sg_congr l fun j _ => (Int.mul_assoc _ _ _).symm
  rw [e1, e2, sg_comm]
theorem mat_one_left (n : Nat) (B : Nat → Nat → Int) {r : Nat} (hr : r < n) (c : Nat) : mat n one B r c = B r c := by
  unfold mat
  rw [sg_one (j := r) n hr (fun i _ h => by unfold one; rw [if_neg (fun e => h e.symm), Int.zero_mul])]
  unfold one; rw [if_pos rfl, Int.one_mul]
theorem mat_one_right (n : Nat) (A : Nat → Nat → Int) (r : Nat) {c : Nat} (hc : c < n) : mat n A one r c = A r c := by
  unfold mat
  rw [sg_one (j := c) n hc (fun i _ h => by unfold one; rw [if_neg h, Int.mul_zero])]
  unfold one; rw [if_pos rfl, Int.mul_one]
/-- A product, row by row. -/
theorem mat_upd (m : Nat) (A B : Nat → Nat → Int) (r : Nat) (u : Nat → Int) : mat m (upd A r u) B = upd (mat m A B) r (fun c => sg m fun j => u j * B j c) := by
  funext i c; unfold mat upd
  by_cases h : i = r
  · rw [if_pos h]; exact sg_congr m fun j _ => by rw [if_pos h]
  · rw [if_neg h]; exact sg_congr m fun j _ => by rw [if_neg h]
end MatMath
