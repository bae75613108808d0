/- Plain facts about row operations and rank over the fields of the seven Mersenne primes, with no Go in sight: what operations on rows keep, reduced forms, the pivots of a matrix, the rank of products and of the transpose, the determinant of a product. Conditions: a supported prime where said. -/
import Derived.Test.YtgkhngiiimnchaaGDet
namespace MatMath
open PolyMath FieldMath

theorem inv_ex {p a : Int} (h : GoodI p) (ha : a % p ≠ 0) : ∃ k, k * a % p = 1 := by
  have hp := h.two
  have hb := md a p (by omega)
  have hi := h.inv (a := a % p) (by omega) hb.2
  refine ⟨fpow p (a % p) (p - 2), ?_⟩
  unfold fmul at hi
  rw [← hi, Int.mul_comm]
  exact mm (mdd p a).symm rfl

/-- B comes of A by operations on rows (m of them, modulo p); the determinant is multiplied by d. -/
inductive RE (p : Int) (m : Nat) : Int → (Nat → Nat → Int) → (Nat → Nat → Int) → Prop
  | same {A B : Nat → Nat → Int} (h : ∀ r c, r < m → A r c % p = B r c % p) : RE p m 1 A B
  | swap {A : Nat → Nat → Int} {r s : Nat} (hr : r < m) (hs : s < m) (hne : r ≠ s) : RE p m (-1) A (upd (upd A r (A s)) s (A r))
  | scale {A : Nat → Nat → Int} {r : Nat} {k k' : Int} (hr : r < m) (hk : k' * k % p = 1) : RE p m k A (upd A r fun c => k * A r c)
  | add {A : Nat → Nat → Int} {r s : Nat} {k : Int} (hr : r < m) (hs : s < m) (hne : r ≠ s) : RE p m 1 A (upd A s fun c => A s c + k * A r c)
  | trans {d e : Int} {A B C : Nat → Nat → Int} (h1 : RE p m d A B) (h2 : RE p m e B C) : RE p m (e * d) A C

theorem RE.refl (p : Int) (m : Nat) (A : Nat → Nat → Int) : RE p m 1 A A := .same fun _ _ _ => rfl
theorem RE.det {p : Int} {m : Nat} {d : Int} {A B : Nat → Nat → Int} (h : RE p m d A B) : MatMath.det m B % p = d * MatMath.det m A % p := by
  induction h with
  | same h => rw [Int.one_mul]; exact (det_mod m fun r c hr _ => h r c hr).symm
  | swap hr hs hne => rw [det_swap hr hs hne, Int.neg_mul, Int.one_mul]
  | scale hr _ => rw [det_scale hr]
  | add hr hs hne => rw [det_row hr hs hne, Int.one_mul]
  | trans _ _ i1 i2 => rw [i2, Int.mul_assoc]; exact mm rfl i1
theorem RE.unit {p : Int} (hp : 1 < p) {m : Nat} {d : Int} {A B : Nat → Nat → Int} (h : RE p m d A B) : ∃ d', d' * d % p = 1 := by
  induction h with
  | same _ => exact ⟨1, small (by omega) hp⟩
  | swap _ _ _ => exact ⟨-1, by rw [show (-1 : Int) * -1 = 1 from rfl]; exact small (by omega) hp⟩
  | scale _ hk => exact ⟨_, hk⟩
  | add _ _ _ => exact ⟨1, small (by omega) hp⟩
  | @trans d e A B C _ _ i1 i2 =>
    obtain ⟨x, hx⟩ := i1
    obtain ⟨y, hy⟩ := i2
    refine ⟨x * y, ?_⟩
    have e1 : x * y * (e * d) = (y * e) * (x * d) := by
      rw [Int.mul_assoc x y, ← Int.mul_assoc y e d, Int.mul_left_comm]
    rw [e1, mm (hy.trans (small (a := 1) (by omega) hp).symm) (hx.trans (small (a := 1) (by omega) hp).symm), Int.one_mul]
    exact small (by omega) hp
theorem row_mat (l : Nat) (A C : Nat → Nat → Int) (r : Nat) : (fun c => sg l fun j => A r j * C j c) = mat l A C r := rfl
theorem RE.mul {p : Int} {m : Nat} (l : Nat) (C : Nat → Nat → Int) {d : Int} {A B : Nat → Nat → Int} (h : RE p m d A B) : RE p m d (mat l A C) (mat l B C) := by
  induction h with
  | same h => exact .same fun r c hr => sg_mod l fun j _ => mm (h r j hr) rfl
  | @swap A r s hr hs hne =>
    rw [mat_upd, mat_upd, row_mat, row_mat]
    exact .swap hr hs hne
  | @scale A r k k' hr hk =>
    rw [mat_upd]
    have e : (fun c => sg l fun j => k * A r j * C j c) = fun c => k * mat l A C r c := funext fun c => by
      unfold mat; rw [← sg_mul]; exact sg_congr l fun j _ => Int.mul_assoc _ _ _
    rw [e]
    exact .scale hr hk
  | @add A r s k hr hs hne =>
    rw [mat_upd]
    have e : (fun c => sg l fun j => (A s j + k * A r j) * C j c) = fun c => mat l A C s c + k * mat l A C r c := funext fun c => by
      unfold mat; rw [← sg_mul, ← sg_add]; exact sg_congr l fun j _ => by rw [Int.add_mul, Int.mul_assoc]
    rw [e]
    exact .add hr hs hne
  | trans _ _ i1 i2 => exact .trans i1 i2

/-- Every entry is nought. -/
def Nil (p : Int) (m : Nat) (A : Nat → Nat → Int) : Prop := ∀ r c, r < m → A r c % p = 0
theorem RE.nil {p : Int} {m : Nat} {d : Int} {A B : Nat → Nat → Int} (h : RE p m d A B) : Nil p m A ↔ Nil p m B := by
  induction h with
  | same h => exact ⟨fun z r c hr => (h r c hr).symm.trans (z r c hr), fun z r c hr => (h r c hr).trans (z r c hr)⟩
  | @swap A r s hr hs hne =>
    constructor
    · intro z i c hi
      unfold upd
      by_cases h1 : i = s
      · rw [if_pos h1]; exact z r c hr
      · rw [if_neg h1]
        by_cases h2 : i = r
        · rw [if_pos h2]; exact z s c hs
        · rw [if_neg h2]; exact z i c hi
    · intro z i c hi
      by_cases h1 : i = s
      · have := z r c hr
        unfold upd at this
        rw [if_neg hne, if_pos rfl] at this
        rw [h1]; exact this
      · by_cases h2 : i = r
        · have := z s c hs
          unfold upd at this
          rw [if_pos rfl] at this
          rw [h2]; exact this
        · have := z i c hi
          unfold upd at this
          rw [if_neg h1, if_neg h2] at this
          exact this
  | @scale A r k k' hr hk =>
    constructor
    · intro z i c hi
      unfold upd
      by_cases h1 : i = r
      · rw [if_pos h1, Int.mul_emod, z r c hr, Int.mul_zero, Int.zero_emod]
      · rw [if_neg h1]; exact z i c hi
    · intro z i c hi
      by_cases h1 : i = r
      · have h2 := z r c hr
        unfold upd at h2
        rw [if_pos rfl] at h2
        have h3 : k' * (k * A r c) % p = 0 := by rw [Int.mul_emod, h2, Int.mul_zero, Int.zero_emod]
        rw [← Int.mul_assoc, Int.mul_emod, hk, Int.one_mul, mdd] at h3
        rw [h1]; exact h3
      · have h2 := z i c hi
        unfold upd at h2
        rw [if_neg h1] at h2
        exact h2
  | @add A r s k hr hs hne =>
    constructor
    · intro z i c hi
      unfold upd
      by_cases h1 : i = s
      · rw [if_pos h1, Int.add_emod, z s c hs, Int.mul_emod, z r c hr, Int.mul_zero, Int.zero_emod, Int.add_zero, Int.zero_emod]
      · rw [if_neg h1]; exact z i c hi
    · intro z i c hi
      have hr0 := z r c hr
      unfold upd at hr0
      rw [if_neg hne] at hr0
      by_cases h1 : i = s
      · have h2 := z s c hs
        unfold upd at h2
        rw [if_pos rfl, Int.add_emod, Int.mul_emod k, hr0, Int.mul_zero, Int.zero_emod, Int.add_zero, mdd] at h2
        rw [h1]; exact h2
      · have h2 := z i c hi
        unfold upd at h2
        rw [if_neg h1] at h2
        exact h2
  | trans _ _ i1 i2 => exact i1.trans i2

/-- x is taken to nought by A (m rows, n columns). -/
def Nul (p : Int) (m n : Nat) (A : Nat → Nat → Int) (x : Nat → Int) : Prop := ∀ r, r < m → sg n (fun j => A r j * x j) % p = 0
theorem RE.nul {p : Int} {m : Nat} {d : Int} {A B : Nat → Nat → Int} (h : RE p m d A B) (n : Nat) (x : Nat → Int) : Nul p m n A x ↔ Nul p m n B x := by
  have e := (h.mul n (fun j _ => x j)).nil
  constructor
  · intro z r hr
    exact e.1 (fun r _ hr => z r hr) r 0 hr
  · intro z r hr
    exact e.2 (fun r _ hr => z r hr) r 0 hr

/-! ### Reduced forms -/
/-- B is reduced in its first n columns, with s pivots, the i-th of them in row i and column pv i. -/
structure Ech (p : Int) (m n : Nat) (B : Nat → Nat → Int) (s : Nat) (pv : Nat → Nat) : Prop where
  len : s ≤ m
  lt : ∀ i, i < s → pv i < n
  inc : ∀ i j, i < j → j < s → pv i < pv j
  unit : ∀ i r, i < s → r < m → B r (pv i) % p = (if r = i then 1 else 0) % p
  low : ∀ i r c, i < s → i ≤ r → r < m → c < pv i → B r c % p = 0
  rest : ∀ r c, s ≤ r → r < m → c < n → B r c % p = 0

/-- Column k is made of those ahead of it. -/
def Dep (p : Int) (m n : Nat) (A : Nat → Nat → Int) (k : Nat) : Prop := ∃ x : Nat → Int, x k = 1 ∧ (∀ j, k < j → x j = 0) ∧ Nul p m n A x

theorem Ech.inj {p : Int} {m n s : Nat} {B : Nat → Nat → Int} {pv : Nat → Nat} (h : Ech p m n B s pv) {i j : Nat} (hi : i < s) (hj : j < s) (e : pv i = pv j) : i = j := by
  rcases Nat.lt_trichotomy i j with h1 | h1 | h1
  · have := h.inc i j h1 hj; omega
  · exact h1
  · have := h.inc j i h1 hi; omega
theorem sg_upto {f : Nat → Int} {p : Int} {k : Nat} : ∀ n, k < n → (∀ j, j < n → j < k → f j % p = 0) → (∀ j, j < n → k < j → f j % p = 0) → sg n f % p = f k % p := by
  intro n hk h1 h2
  rw [sg_mod n (g := fun j => if j = k then f k else 0) (fun j hj => by
    rcases Nat.lt_trichotomy j k with h | h | h
    · rw [if_neg (by omega), h1 j hj h, Int.zero_emod]
    · rw [if_pos h, h]
    · rw [if_neg (by omega), h2 j hj h, Int.zero_emod]), sg_one (j := k) n hk (fun i _ h => if_neg h), if_pos rfl]
theorem Ech.not_dep {p : Int} (hp : 1 < p) {m n s : Nat} {B : Nat → Nat → Int} {pv : Nat → Nat} (h : Ech p m n B s pv) {i : Nat} (hi : i < s) : ¬ Dep p m n B (pv i) := by
  rintro ⟨x, h1, h2, h3⟩
  have hl := h.len
  have e := h3 i (by omega)
  rw [sg_upto (k := pv i) n (h.lt i hi) (fun j _ hj => by rw [Int.mul_emod, h.low i i j hi (Nat.le_refl _) (by omega) hj, Int.zero_mul, Int.zero_emod]) (fun j _ hj => by rw [h2 j hj, Int.mul_zero, Int.zero_emod]), h1, Int.mul_one, h.unit i i hi (by omega), if_pos rfl, small (by omega) hp] at e
  omega
/-- The relation that shows a column without a pivot as made of pivots' columns ahead of it. -/
def rel (B : Nat → Nat → Int) (s : Nat) (pv : Nat → Nat) (k : Nat) : Nat → Int := fun j => (if j = k then 1 else 0) - sg s (fun i => if pv i = j ∧ pv i < k then B i k else 0)
theorem rel_sum {p : Int} {m n s : Nat} {B : Nat → Nat → Int} {pv : Nat → Nat} (h : Ech p m n B s pv) {k : Nat} (hk : k < n) (r : Nat) :
    sg n (fun j => B r j * rel B s pv k j) % p = (B r k - sg s (fun i => if pv i < k then B r (pv i) * B i k else 0)) % p := by
  have e1 : sg n (fun j => B r j * rel B s pv k j) = sg n (fun j => (if j = k then B r k else 0) + -1 * sg s (fun i => if pv i = j ∧ pv i < k then B r (pv i) * B i k else 0)) := by
    refine sg_congr n fun j _ => ?_
    unfold rel
    rw [Int.mul_sub]
    have e2 : B r j * (if j = k then 1 else 0) = if j = k then B r k else 0 := by
      by_cases e : j = k
      · rw [if_pos e, if_pos e, e, Int.mul_one]
      · rw [if_neg e, if_neg e, Int.mul_zero]
    have e3 : B r j * sg s (fun i => if pv i = j ∧ pv i < k then B i k else 0) = sg s (fun i => if pv i = j ∧ pv i < k then B r (pv i) * B i k else 0) := by
      rw [← sg_mul]
      refine sg_congr s fun i _ => ?_
      by_cases e : pv i = j ∧ pv i < k
      · rw [if_pos e, if_pos e, e.1]
      · rw [if_neg e, if_neg e, Int.mul_zero]
    rw [e2, e3]; omega
  rw [e1, sg_add, sg_mul, sg_one (j := k) n hk (fun i _ h => if_neg h), if_pos rfl, sg_comm]
  have e4 : sg s (fun i => sg n (fun j => if pv i = j ∧ pv i < k then B r (pv i) * B i k else 0)) = sg s (fun i => if pv i < k then B r (pv i) * B i k else 0) := by
    refine sg_congr s fun i hi => ?_
    rw [sg_one (j := pv i) n (h.lt i hi) (fun j _ hj => if_neg (fun e => hj e.1.symm))]
    by_cases e : pv i < k
    · rw [if_pos ⟨rfl, e⟩, if_pos e]
    · rw [if_neg (fun h => e h.2), if_neg e]
  rw [e4]; congr 1; omega
theorem Ech.rel_nul {p : Int} {m n s : Nat} {B : Nat → Nat → Int} {pv : Nat → Nat} (h : Ech p m n B s pv) {k : Nat} (hk : k < n) (hno : ∀ i, i < s → pv i ≠ k) : Nul p m n B (rel B s pv k) := by
  intro r hr
  rw [rel_sum h hk r]
  have hl := h.len
  have key : sg s (fun i => if pv i < k then B r (pv i) * B i k else 0) % p = B r k % p := by
    by_cases hrs : r < s
    · by_cases hlt : pv r < k
      · rw [sg_upto (k := r) s hrs (fun i hi hir => by
          by_cases e : pv i < k
          · rw [if_pos e, Int.mul_emod, h.unit i r hi hr, if_neg (by omega), Int.zero_emod, Int.zero_mul, Int.zero_emod]
          · rw [if_neg e, Int.zero_emod]) (fun i hi hir => by
          by_cases e : pv i < k
          · rw [if_pos e, Int.mul_emod, h.unit i r hi hr, if_neg (by omega), Int.zero_emod, Int.zero_mul, Int.zero_emod]
          · rw [if_neg e, Int.zero_emod]), if_pos hlt, Int.mul_emod, h.unit r r hrs hr, if_pos rfl, ← Int.mul_emod, Int.one_mul]
      · have hz : B r k % p = 0 := h.low r r k hrs (Nat.le_refl _) hr (by have := hno r hrs; omega)
        rw [hz, sg_mod s (g := fun _ => 0) (fun i hi => by
          by_cases e : pv i < k
          · rw [if_pos e, Int.mul_emod, h.unit i r hi hr, if_neg (fun h => hlt (by rw [h]; exact e)), Int.zero_emod, Int.zero_mul, Int.zero_emod]
          · rw [if_neg e]), sg_zero s (fun _ _ => rfl), Int.zero_emod]
    · have hz : B r k % p = 0 := h.rest r k (by omega) hr hk
      rw [hz, sg_mod s (g := fun _ => 0) (fun i hi => by
        by_cases e : pv i < k
        · rw [if_pos e, Int.mul_emod, h.unit i r hi hr, if_neg (by omega), Int.zero_emod, Int.zero_mul, Int.zero_emod]
        · rw [if_neg e]), sg_zero s (fun _ _ => rfl), Int.zero_emod]
  rw [Int.sub_emod, key, ← Int.sub_emod, Int.sub_self, Int.zero_emod]
theorem Ech.dep {p : Int} {m n s : Nat} {B : Nat → Nat → Int} {pv : Nat → Nat} (h : Ech p m n B s pv) {k : Nat} (hk : k < n) (hno : ∀ i, i < s → pv i ≠ k) : Dep p m n B k := by
  refine ⟨rel B s pv k, ?_, fun j hj => ?_, h.rel_nul hk hno⟩
  · unfold rel
    rw [if_pos rfl, sg_zero s (fun i _ => if_neg (fun e => by omega))]; rfl
  · unfold rel
    rw [if_neg (by omega), sg_zero s (fun i _ => if_neg (fun e => by omega))]; rfl
/-- The pivots' columns are those that are not made of the ones ahead: they do not hang on the way of the reckoning. -/
theorem Ech.pivot_iff {p : Int} (hp : 1 < p) {m n s : Nat} {d : Int} {A B : Nat → Nat → Int} {pv : Nat → Nat} (hr : RE p m d A B) (h : Ech p m n B s pv) {k : Nat} (hk : k < n) : (∃ i, i < s ∧ pv i = k) ↔ ¬ Dep p m n A k := by
  have hdep : Dep p m n A k ↔ Dep p m n B k :=
    ⟨fun ⟨x, h1, h2, h3⟩ => ⟨x, h1, h2, (hr.nul n x).1 h3⟩, fun ⟨x, h1, h2, h3⟩ => ⟨x, h1, h2, (hr.nul n x).2 h3⟩⟩
  constructor
  · rintro ⟨i, hi, rfl⟩ hd
    exact h.not_dep hp hi (hdep.1 hd)
  · intro hd
    refine Classical.byContradiction fun hno => hd (hdep.2 (h.dep hk fun i hi e => hno ⟨i, hi, e⟩))

/-! ### Every matrix has a reduced form -/
theorem Ech.none (p : Int) (m : Nat) (B : Nat → Nat → Int) : Ech p m 0 B 0 (fun _ => 0) :=
  ⟨Nat.zero_le _, (fun _ h => by omega), (fun _ _ _ h => by omega), (fun _ _ h => by omega), (fun _ _ _ h => by omega), fun _ _ _ _ h => by omega⟩
/-- A column without a pivot. -/
theorem Ech.skip {p : Int} {m k s : Nat} {B : Nat → Nat → Int} {pv : Nat → Nat} (h : Ech p m k B s pv) (h0 : ∀ r, s ≤ r → r < m → B r k % p = 0) : Ech p m (k + 1) B s pv :=
  ⟨h.len, fun i hi => by have := h.lt i hi; omega, h.inc, h.unit, h.low, fun r c h1 h2 h3 => by
    by_cases e : c = k
    · rw [e]; exact h0 r h1 h2
    · exact h.rest r c h1 h2 (by omega)⟩
/-- Two rows exchanged. -/
def swp (B : Nat → Nat → Int) (r s : Nat) : Nat → Nat → Int := upd (upd B r (B s)) s (B r)
theorem swp_at (B : Nat → Nat → Int) {r s : Nat} (i c : Nat) : swp B r s i c = B (if i = s then r else if i = r then s else i) c := by
  unfold swp upd
  by_cases h1 : i = s
  · rw [if_pos h1, if_pos h1]
  · rw [if_neg h1, if_neg h1]
    by_cases h2 : i = r
    · rw [if_pos h2, if_pos h2]
    · rw [if_neg h2, if_neg h2]
theorem Ech.swap {p : Int} {m k s : Nat} {B : Nat → Nat → Int} {pv : Nat → Nat} (h : Ech p m k B s pv) {r0 : Nat} (h1 : s < r0) (h2 : r0 < m) : Ech p m k (swp B s r0) s pv := by
  have hne : s ≠ r0 := by omega
  have hidx : ∀ i, i < m → (if i = r0 then s else if i = s then r0 else i) < m := fun i hi => by split <;> (try split) <;> omega
  refine ⟨h.len, h.lt, h.inc, fun i r hi hr => ?_, fun i r c hi hir hr hc => ?_, fun r c hsr hr hc => ?_⟩
  · rw [swp_at B, h.unit i _ hi (hidx r hr)]
    congr 1
    by_cases e1 : r = r0
    · rw [if_pos e1, if_neg (by omega), if_neg (by omega)]
    · rw [if_neg e1]
      by_cases e2 : r = s
      · rw [if_pos e2, if_neg (by omega), if_neg (by omega)]
      · rw [if_neg e2]
  · rw [swp_at B]
    refine h.low i _ c hi ?_ (hidx r hr) hc
    split <;> (try split) <;> omega
  · rw [swp_at B]
    refine h.rest _ c ?_ (hidx r hr) hc
    split <;> (try split) <;> omega
/-- Row q divided by its entry in column k (v: the inverse), and taken away from the rows ahead of j. -/
def elm (B : Nat → Nat → Int) (q k : Nat) (v : Int) (j : Nat) : Nat → Nat → Int := fun r c => if r = q then v * B q c else if r < j then B r c - B r k * (v * B q c) else B r c
theorem elm_zero (B : Nat → Nat → Int) (q k : Nat) (v : Int) : elm B q k v 0 = upd B q fun c => v * B q c := by
  funext r c; unfold elm upd
  by_cases h : r = q
  · rw [if_pos h, if_pos h]
  · rw [if_neg h, if_neg h, if_neg (by omega)]
theorem elm_here (B : Nat → Nat → Int) (q k : Nat) (v : Int) : elm B q k v (q + 1) = elm B q k v q := by
  funext r c; unfold elm
  by_cases h : r = q
  · rw [if_pos h, if_pos h]
  · rw [if_neg h, if_neg h]
    by_cases h2 : r < q
    · rw [if_pos h2, if_pos (by omega)]
    · rw [if_neg h2, if_neg (by omega)]
theorem elm_next (B : Nat → Nat → Int) {q j : Nat} (k : Nat) (v : Int) (h : j ≠ q) : elm B q k v (j + 1) = upd (elm B q k v j) j fun c => elm B q k v j j c + -(B j k) * elm B q k v j q c := by
  funext r c; unfold elm upd; dsimp only
  by_cases h1 : r = j
  · subst h1
    rw [if_neg h, if_pos (by omega), if_pos rfl, if_neg h, if_neg (by omega), if_pos rfl, Int.neg_mul]; omega
  · rw [if_neg h1]
    by_cases h2 : r = q
    · rw [if_pos h2, if_pos h2]
    · rw [if_neg h2, if_neg h2]
      by_cases h3 : r < j
      · rw [if_pos h3, if_pos (by omega)]
      · rw [if_neg h3, if_neg (by omega)]
theorem elm_re {p : Int} {m : Nat} (B : Nat → Nat → Int) {q k : Nat} {v v' : Int} (hq : q < m) (hv : v' * v % p = 1) : ∀ j, j ≤ m → RE p m v B (elm B q k v j)
  | 0, _ => by rw [elm_zero]; exact .scale hq hv
  | j + 1, hj => by
    have ih := elm_re B (k := k) hq hv j (by omega)
    by_cases e : j = q
    · subst e; rw [elm_here]; exact ih
    · rw [elm_next B k v e]
      have := RE.trans ih (.add (k := -(B j k)) hq (show j < m by omega) (fun h => e h.symm))
      rwa [Int.one_mul] at this
/-- A column with a pivot: row s has it, and is taken away from all others. -/
theorem Ech.pivot {p : Int} {m k s : Nat} {B : Nat → Nat → Int} {pv : Nat → Nat} {v : Int} (h : Ech p m k B s pv) (hs : s < m) (hv : v * B s k % p = 1 % p) : Ech p m (k + 1) (elm B s k v m) (s + 1) (fun i => if i = s then k else pv i) := by
  have row : ∀ c, elm B s k v m s c = v * B s c := fun c => if_pos rfl
  have other : ∀ r c, r < m → r ≠ s → elm B s k v m r c = B r c - B r k * (v * B s c) := fun r c h1 h2 => by unfold elm; rw [if_neg h2, if_pos h1]
  -- where row s has nought
  have keep : ∀ r c, r < m → B s c % p = 0 → elm B s k v m r c % p = (if r = s then 0 else B r c) % p := fun r c hr h0 => by
    by_cases e : r = s
    · rw [if_pos e, e, row, Int.mul_emod, h0, Int.mul_zero]
    · rw [if_neg e, other r c hr e, ms rfl (show B r k * (v * B s c) % p = 0 % p from by rw [Int.mul_emod, Int.mul_emod v, h0, Int.mul_zero, Int.zero_emod, Int.mul_zero, Int.zero_emod]), Int.sub_zero]
  have colk : ∀ r, r < m → elm B s k v m r k % p = (if r = s then 1 else 0) % p := fun r hr => by
    by_cases e : r = s
    · rw [if_pos e, e, row]; exact hv
    · rw [if_neg e, other r k hr e, ms rfl (mm rfl hv), Int.mul_one, Int.sub_self]
  have zs : ∀ c, c < k → B s c % p = 0 := fun c hc => h.rest s c (Nat.le_refl _) hs hc
  refine ⟨hs, fun i hi => ?_, fun i j hij hj => ?_, fun i r hi hr => ?_, fun i r c hi hir hr hc => ?_, fun r c h1 hr hc => ?_⟩
  · show (if i = s then k else pv i) < k + 1
    by_cases e : i = s
    · rw [if_pos e]; omega
    · rw [if_neg e]; have := h.lt i (by omega); omega
  · show (if i = s then k else pv i) < (if j = s then k else pv j)
    rw [if_neg (show ¬ i = s by omega)]
    by_cases e : j = s
    · rw [if_pos e]; exact h.lt i (by omega)
    · rw [if_neg e]; exact h.inc i j hij (by omega)
  · show elm B s k v m r (if i = s then k else pv i) % p = _
    by_cases e : i = s
    · rw [if_pos e, colk r hr, e]
    · have hi2 : i < s := by omega
      rw [if_neg e, keep r _ hr (zs _ (h.lt i hi2))]
      by_cases e2 : r = s
      · rw [if_pos e2, if_neg (by omega)]
      · rw [if_neg e2, h.unit i r hi2 hr]
  · have hc' : c < (if i = s then k else pv i) := hc
    by_cases e : i = s
    · rw [if_pos e] at hc'
      rw [keep r c hr (zs c hc')]
      by_cases e2 : r = s
      · rw [if_pos e2, Int.zero_emod]
      · rw [if_neg e2]; exact h.rest r c (by omega) hr hc'
    · have hi2 : i < s := by omega
      rw [if_neg e] at hc'
      have hck : c < k := by have := h.lt i hi2; omega
      rw [keep r c hr (zs c hck)]
      by_cases e2 : r = s
      · rw [if_pos e2, Int.zero_emod]
      · rw [if_neg e2]; exact h.low i r c hi2 hir hr hc'
  · by_cases e : c = k
    · rw [e, colk r hr, if_neg (by omega), Int.zero_emod]
    · rw [keep r c hr (zs c (by omega)), if_neg (by omega)]
      exact h.rest r c (by omega) hr (by omega)
theorem ech_ex {p : Int} (hg : GoodI p) (m : Nat) (A : Nat → Nat → Int) : ∀ n, ∃ d B s pv, RE p m d A B ∧ Ech p m n B s pv
  | 0 => ⟨1, A, 0, _, RE.refl p m A, Ech.none p m A⟩
  | n + 1 => by
    obtain ⟨d, B, s, pv, hr, he⟩ := ech_ex hg m A n
    by_cases h0 : ∀ r, s ≤ r → r < m → B r n % p = 0
    · exact ⟨d, B, s, pv, hr, he.skip h0⟩
    · have h1 : ∃ r0, s ≤ r0 ∧ r0 < m ∧ B r0 n % p ≠ 0 := Classical.byContradiction fun hno => h0 fun r h2 h3 => Classical.byContradiction fun h4 => hno ⟨r, h2, h3, h4⟩
      obtain ⟨r0, h2, h3, h4⟩ := h1
      have hp := hg.two
      by_cases e : s = r0
      · subst e
        obtain ⟨v, hv⟩ := inv_ex hg h4
        exact ⟨_, _, _, _, hr.trans (elm_re B (q := s) (k := n) h3 (v := v) (v' := B s n) (by rw [Int.mul_comm]; exact hv) m (Nat.le_refl _)), he.pivot h3 (hv.trans (small (a := 1) (by omega) (by omega)).symm)⟩
      · have e1 : swp B s r0 s n = B r0 n := by rw [swp_at B, if_neg e, if_pos rfl]
        obtain ⟨v, hv⟩ := inv_ex hg (a := swp B s r0 s n) (by rw [e1]; exact h4)
        have hs : s < m := by omega
        exact ⟨_, _, _, _, (hr.trans (RE.swap hs h3 e)).trans (elm_re (swp B s r0) (q := s) (k := n) hs (v := v) (v' := swp B s r0 s n) (by rw [Int.mul_comm]; exact hv) m (Nat.le_refl _)), (he.swap (by omega) h3).pivot hs (hv.trans (small (a := 1) (by omega) (by omega)).symm)⟩
end MatMath
