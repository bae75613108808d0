/- Plain facts on lists of bits and their values, with no Go in them: the value of a list, its bounds, that length and value fix a list of bits, and the number of bits that a number needs. No conditions beyond those that each lemma states. -/
namespace BitMath

/-- The value of a list, least significant element first. -/
def val : List Int → Int
  | [] => 0
  | x :: xs => x + 2 * val xs

/-- Each element is 0 or 1. -/
def Bits (xs : List Int) : Prop := ∀ x ∈ xs, x = 0 ∨ x = 1

theorem p2 (n : Nat) : (0 : Int) < 2 ^ n := by
  induction n with
  | zero => decide
  | succ n ih => rw [Int.pow_succ]; omega

theorem p2s (n : Nat) : (2 : Int) ^ (n + 1) = 2 * 2 ^ n := by rw [Int.pow_succ]; omega

theorem p2le {m n : Nat} (h : m ≤ n) : (2 : Int) ^ m ≤ 2 ^ n := by
  obtain ⟨k, rfl⟩ := Nat.exists_eq_add_of_le h
  clear h
  induction k with
  | zero => exact Int.le_refl _
  | succ k ih => rw [show m + (k + 1) = m + k + 1 from rfl, p2s]; have := p2 (m + k); omega

theorem val_append (xs ys : List Int) : val (xs ++ ys) = val xs + 2 ^ xs.length * val ys := by
  induction xs with
  | nil => simp [val]
  | cons x xs ih => simp only [List.cons_append, val, ih, List.length_cons, p2s, Int.mul_add, Int.mul_assoc]; omega

theorem val_snoc (xs : List Int) (x : Int) : val (xs ++ [x]) = val xs + 2 ^ xs.length * x := by
  rw [val_append]; simp [val]

theorem Bits.nil : Bits [] := fun _ h => by cases h
theorem Bits.snoc {xs : List Int} {x : Int} (h : Bits xs) (hx : x = 0 ∨ x = 1) : Bits (xs ++ [x]) := fun y hy => by
  rcases List.mem_append.1 hy with h1 | h1
  · exact h y h1
  · rw [List.mem_singleton] at h1; subst h1; exact hx
theorem Bits.tail {x : Int} {xs : List Int} (h : Bits (x :: xs)) : Bits xs := fun y hy => h y (List.mem_cons_of_mem _ hy)
theorem Bits.head {x : Int} {xs : List Int} (h : Bits (x :: xs)) : x = 0 ∨ x = 1 := h x (List.mem_cons_self ..)
theorem Bits.take {xs : List Int} (h : Bits xs) (k : Nat) : Bits (xs.take k) := fun x hx => h x (List.mem_of_mem_take hx)
theorem Bits.drop {xs : List Int} (h : Bits xs) (k : Nat) : Bits (xs.drop k) := fun x hx => h x (List.mem_of_mem_drop hx)
theorem Bits.getD {xs : List Int} (h : Bits xs) (k : Nat) : xs[k]?.getD 0 = 0 ∨ xs[k]?.getD 0 = 1 := by
  cases e : xs[k]? with
  | none => exact .inl rfl
  | some x => exact h x (List.mem_of_getElem? e)
theorem Bits.replicate (n : Nat) : Bits (List.replicate n 0) := fun _ hx => .inl (List.eq_of_mem_replicate hx)
theorem Bits.set {xs : List Int} (h : Bits xs) (k : Nat) {x : Int} (hx : x = 0 ∨ x = 1) : Bits (xs.set k x) := fun y hy => by
  rcases List.mem_or_eq_of_mem_set hy with h1 | h1
  · exact h y h1
  · subst h1; exact hx

theorem val_nonneg {xs : List Int} (h : Bits xs) : 0 ≤ val xs := by
  induction xs with
  | nil => exact Int.le_refl _
  | cons x xs ih => have := ih h.tail; have := h.head; simp only [val]; omega

theorem val_lt {xs : List Int} (h : Bits xs) : val xs < 2 ^ xs.length := by
  induction xs with
  | nil => decide
  | cons x xs ih => have := ih h.tail; have := h.head; simp only [val, List.length_cons, p2s]; omega

theorem val_inj : ∀ {xs ys : List Int}, Bits xs → Bits ys → xs.length = ys.length → val xs = val ys → xs = ys
  | [], [], _, _, _, _ => rfl
  | [], _ :: _, _, _, h, _ => by simp at h
  | _ :: _, [], _, _, h, _ => by simp at h
  | x :: xs, y :: ys, hx, hy, hl, hv => by
    have h1 := hx.head
    have h2 := hy.head
    simp only [val] at hv
    have e : x = y := by omega
    have := val_inj hx.tail hy.tail (by simpa using hl) (by omega)
    rw [e, this]

theorem val_replicate (n : Nat) : val (List.replicate n 0) = 0 := by
  induction n with
  | zero => rfl
  | succ n ih => simp [List.replicate_succ, val, ih]

theorem val_set : ∀ (xs : List Int) (k : Nat) (v x : Int), xs[k]? = some x → val (xs.set k v) = val xs + 2 ^ k * (v - x)
  | [], _, _, _, h => by simp at h
  | y :: ys, 0, v, x, h => by simp at h; subst h; simp [val]; omega
  | y :: ys, k + 1, v, x, h => by
    simp only [List.getElem?_cons_succ] at h
    simp only [List.set_cons_succ, val, val_set ys k v x h, p2s, Int.mul_add, Int.mul_assoc]
    omega

theorem val_take_succ (xs : List Int) (k : Nat) : val (xs.take (k + 1)) = val (xs.take k) + 2 ^ k * (xs[k]?.getD 0) := by
  rcases Nat.lt_or_ge k xs.length with h | h
  · rw [List.take_succ_eq_append_getElem h, val_snoc, List.length_take, Nat.min_eq_left (by omega), List.getElem?_eq_getElem h]; rfl
  · rw [List.take_of_length_le (by omega), List.take_of_length_le h, List.getElem?_eq_none h]; simp

theorem val_take_emod {xs : List Int} (h : Bits xs) (k : Nat) : val (xs.take k) = val xs % 2 ^ k := by
  have h1 := val_lt (h.take k)
  have h2 := val_nonneg (h.take k)
  have h3 : val (xs.take k) < 2 ^ k := Int.lt_of_lt_of_le h1 (p2le (by rw [List.length_take]; omega))
  have e : val xs = val (xs.take k) + 2 ^ k * val (xs.drop k) := by
    rcases Nat.lt_or_ge k xs.length with hk | hk
    · have := val_append (xs.take k) (xs.drop k)
      rw [List.take_append_drop, List.length_take, Nat.min_eq_left (by omega)] at this
      exact this
    · rw [List.take_of_length_le hk, List.drop_of_length_le hk]; simp [val]
  rw [e, Int.add_mul_emod_self_left, Int.emod_eq_of_lt h2 h3]

/-- What has come when k rounds are over. -/
def upto {α : Type} (f : Nat → α) (k : Nat) : List α := (List.range k).map f
theorem upto_succ {α : Type} (f : Nat → α) (k : Nat) : upto f (k + 1) = upto f k ++ [f k] := by simp [upto, List.range_succ]
theorem upto_length {α : Type} (f : Nat → α) (k : Nat) : (upto f k).length = k := by simp [upto]

/-- A pair of bits. -/
abbrev BB : Type := { p : Int × Int // (p.1 = 0 ∨ p.1 = 1) ∧ (p.2 = 0 ∨ p.2 = 1) }

def pairAt {a b : List Int} (ha : Bits a) (hb : Bits b) (j : Nat) : BB := ⟨(a[j]?.getD 0, b[j]?.getD 0), ha.getD j, hb.getD j⟩

/-- The values of the first and of the second halves. -/
def v1 (pre : List BB) : Int := val (pre.map fun p => p.1.1)
def v2 (pre : List BB) : Int := val (pre.map fun p => p.1.2)

theorem v1_snoc (pre : List BB) (x y : Int) (h) : v1 (pre ++ [⟨(x, y), h⟩]) = v1 pre + 2 ^ pre.length * x := by
  unfold v1; rw [List.map_append, List.map_cons, List.map_nil, val_snoc, List.length_map]
theorem v2_snoc (pre : List BB) (x y : Int) (h) : v2 (pre ++ [⟨(x, y), h⟩]) = v2 pre + 2 ^ pre.length * y := by
  unfold v2; rw [List.map_append, List.map_cons, List.map_nil, val_snoc, List.length_map]
theorem v1_bits (pre : List BB) : Bits (pre.map fun p => p.1.1) := fun x hx => by
  obtain ⟨p, _, rfl⟩ := List.mem_map.1 hx; exact p.2.1
theorem v2_bits (pre : List BB) : Bits (pre.map fun p => p.1.2) := fun x hx => by
  obtain ⟨p, _, rfl⟩ := List.mem_map.1 hx; exact p.2.2
theorem v1_bd (pre : List BB) : 0 ≤ v1 pre ∧ v1 pre < 2 ^ pre.length := by
  have := val_lt (v1_bits pre); rw [List.length_map] at this; exact ⟨val_nonneg (v1_bits pre), this⟩
theorem v2_bd (pre : List BB) : 0 ≤ v2 pre ∧ v2 pre < 2 ^ pre.length := by
  have := val_lt (v2_bits pre); rw [List.length_map] at this; exact ⟨val_nonneg (v2_bits pre), this⟩
theorem v1_upto {a b : List Int} (ha : Bits a) (hb : Bits b) (k : Nat) : v1 (upto (pairAt ha hb) k) = val (a.take k) := by
  induction k with
  | zero => rfl
  | succ k ih => rw [upto_succ, val_take_succ, ← ih]; unfold pairAt; rw [v1_snoc]; congr 2; exact congrArg _ (upto_length _ _)
theorem v2_upto {a b : List Int} (ha : Bits a) (hb : Bits b) (k : Nat) : v2 (upto (pairAt ha hb) k) = val (b.take k) := by
  induction k with
  | zero => rfl
  | succ k ih => rw [upto_succ, val_take_succ, ← ih]; unfold pairAt; rw [v2_snoc]; congr 2; exact congrArg _ (upto_length _ _)

theorem take_all {xs : List Int} {k : Nat} (h : xs.length ≤ k) : xs.take k = xs := List.take_of_length_le h

/-- How many bits a number needs, at least one. -/
def wid (n : Nat) : Nat := if h : n ≤ 1 then 1 else wid (n / 2) + 1
termination_by n
decreasing_by omega

theorem wid_small {n : Nat} (h : n ≤ 1) : wid n = 1 := by unfold wid; rw [dif_pos h]
theorem wid_big {n : Nat} (h : 1 < n) : wid n = wid (n / 2) + 1 := by rw [wid, dif_neg (by omega)]
theorem wid_pos (n : Nat) : 1 ≤ wid n := by
  rcases Nat.lt_or_ge 1 n with h | h
  · rw [wid_big h]; omega
  · rw [wid_small h]; exact Nat.le_refl _

theorem wid_le : ∀ (w n : Nat), wid n ≤ w + 1 ↔ n < 2 ^ (w + 1)
  | 0, n => by
    rcases Nat.lt_or_ge 1 n with h | h
    · rw [wid_big h]; have := wid_pos (n / 2); simp; omega
    · rw [wid_small h]; simp; omega
  | w + 1, n => by
    rcases Nat.lt_or_ge 1 n with h | h
    · rw [wid_big h, Nat.add_le_add_iff_right, wid_le w (n / 2), Nat.pow_succ 2 (w + 1), Nat.div_lt_iff_lt_mul (by omega)]
    · rw [wid_small h]
      have : 2 ^ 1 ≤ 2 ^ (w + 1 + 1) := Nat.pow_le_pow_right (by omega) (by omega)
      simp only [Nat.pow_one] at this
      constructor <;> intro _ <;> omega

theorem wid_le64 (n : Nat) (h : n < 18446744073709551616) : wid n ≤ 64 := (wid_le 63 n).2 h

/-- The low bits of a number. -/
theorem emod_succ (n : Int) (i : Nat) : n % 2 ^ (i + 1) = n % 2 ^ i + 2 ^ i * (n / 2 ^ i % 2) := by
  have hp := p2 i
  have e1 : n = 2 ^ i * (n / 2 ^ i) + n % 2 ^ i := (Int.mul_ediv_add_emod n _).symm
  have e2 : n / 2 ^ i = 2 * (n / 2 ^ i / 2) + n / 2 ^ i % 2 := (Int.mul_ediv_add_emod _ 2).symm
  have b1 := Int.emod_nonneg n (Int.ne_of_gt hp)
  have b2 := Int.emod_lt_of_pos n hp
  have b3 := Int.emod_nonneg (n / 2 ^ i) (by decide : (2 : Int) ≠ 0)
  have b4 := Int.emod_lt_of_pos (n / 2 ^ i) (by decide : (0 : Int) < 2)
  generalize hr : n % 2 ^ i = r at *
  generalize hq : n / 2 ^ i = q at *
  generalize ht : q / 2 = t at *
  generalize hs : q % 2 = s at *
  have e3 : n = (r + 2 ^ i * s) + 2 ^ (i + 1) * t := by
    rw [p2s]
    have : 2 * 2 ^ i * t = 2 ^ i * (2 * t) := by rw [Int.mul_comm 2 (2 ^ i), Int.mul_assoc]
    rw [this]
    have : 2 ^ i * q = 2 ^ i * (2 * t) + 2 ^ i * s := by rw [e2, Int.mul_add]
    omega
  rw [e3, Int.add_mul_emod_self_left]
  have hs' : s = 0 ∨ s = 1 := by omega
  apply Int.emod_eq_of_lt
  · rcases hs' with rfl | rfl <;> omega
  · rw [p2s]; rcases hs' with rfl | rfl <;> omega

/-- The k low bits of n. -/
def digs (n : Int) (k : Nat) : List Int := upto (fun j => n / 2 ^ j % 2) k
theorem digs_length (n : Int) (k : Nat) : (digs n k).length = k := upto_length _ _
theorem digs_succ (n : Int) (k : Nat) : digs n (k + 1) = digs n k ++ [n / 2 ^ k % 2] := upto_succ _ _
theorem digs_bits (n : Int) (k : Nat) : Bits (digs n k) := fun x hx => by
  obtain ⟨j, _, rfl⟩ := List.mem_map.1 hx
  generalize n / 2 ^ j = q
  omega
theorem val_digs (n : Int) (k : Nat) : val (digs n k) = n % 2 ^ k := by
  induction k with
  | zero => simp [digs, upto, val]
  | succ k ih => rw [digs_succ, val_snoc, ih, digs_length, emod_succ]
theorem val_digs_of {n : Int} {k : Nat} (h0 : 0 ≤ n) (h1 : n < 2 ^ k) : val (digs n k) = n := by rw [val_digs, Int.emod_eq_of_lt h0 h1]
theorem eq_digs {xs : List Int} {n : Int} {k : Nat} (h : Bits xs) (hl : xs.length = k) (hv : val xs = n % 2 ^ k) : xs = digs n k :=
  val_inj h (digs_bits n k) (by rw [digs_length, hl]) (by rw [val_digs, hv])
theorem digs_val {xs : List Int} (h : Bits xs) : digs (val xs) xs.length = xs :=
  (eq_digs h rfl (Int.emod_eq_of_lt (val_nonneg h) (val_lt h)).symm).symm
theorem digs_low (n d : Int) (k : Nat) : digs (n + 2 ^ k * d) k = digs n k :=
  eq_digs (digs_bits _ _) (digs_length _ _) (by rw [val_digs, Int.add_mul_emod_self_left])
theorem digs_step (n d : Int) (k : Nat) : digs (n + 2 ^ k * d) (k + 1) = digs n k ++ [(n / 2 ^ k + d) % 2] := by
  rw [digs_succ, digs_low, Int.add_mul_ediv_left _ _ (Int.ne_of_gt (p2 k))]
theorem quo_step (n d : Int) (k : Nat) : (n + 2 ^ k * d) / 2 ^ (k + 1) = (n / 2 ^ k + d) / 2 := by
  rw [Int.pow_succ, ← Int.ediv_ediv_of_nonneg (Int.le_of_lt (p2 k)), Int.add_mul_ediv_left _ _ (Int.ne_of_gt (p2 k))]
theorem quo_bd {n : Int} {k : Nat} (h0 : 0 ≤ n) (h1 : n < 2 ^ (k + 1)) : n / 2 ^ k = 0 ∨ n / 2 ^ k = 1 := by
  have hp := p2 k
  have a1 : 0 ≤ n / 2 ^ k := Int.ediv_nonneg h0 (Int.le_of_lt hp)
  have a2 : n / 2 ^ k < 2 := Int.ediv_lt_of_lt_mul hp (by rw [p2s] at h1; exact h1)
  omega
theorem quo_neg {n : Int} {k : Nat} (h0 : -(2 ^ k) ≤ n) (h1 : n < 2 ^ k) : n / 2 ^ k = -1 ∨ n / 2 ^ k = 0 := by
  have hp := p2 k
  have a1 : -1 ≤ n / 2 ^ k := Int.le_ediv_of_mul_le hp (by omega)
  have a2 : n / 2 ^ k < 1 := Int.ediv_lt_of_lt_mul hp (by omega)
  omega

end BitMath
