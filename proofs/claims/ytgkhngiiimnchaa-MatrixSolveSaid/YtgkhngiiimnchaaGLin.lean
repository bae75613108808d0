/- Plain facts of linear algebra over the fields of the seven Mersenne primes, with no Go in sight: the rank does not hang on the way of the reckoning; ranks of products and of the transpose; determinants of products and of the transpose. Conditions: a supported prime where said. -/
import Derived.Test.YtgkhngiiimnchaaGRank
namespace MatMath
open PolyMath FieldMath

/-! ### Growing sequences -/
theorem inc_ge {s : Nat} {f : Nat → Nat} (h : ∀ i j, i < j → j < s → f i < f j) : ∀ i, i < s → i ≤ f i
  | 0, _ => Nat.zero_le _
  | i + 1, hi => by
    have h1 := inc_ge h i (by omega)
    have h2 := h i (i + 1) (by omega) hi
    omega
theorem inc_sub {s s' : Nat} {f g : Nat → Nat} (hf : ∀ i j, i < j → j < s → f i < f j) (hg : ∀ i j, i < j → j < s' → g i < g j) (h : ∀ i, i < s → ∃ j, j < s' ∧ g j = f i) : s ≤ s' := by
  have key : ∀ i, i < s → ∃ j, i ≤ j ∧ j < s' ∧ g j = f i := by
    intro i
    induction i with
    | zero => intro hi; obtain ⟨j, h1, h2⟩ := h 0 hi; exact ⟨j, Nat.zero_le _, h1, h2⟩
    | succ i ih =>
      intro hi
      obtain ⟨j, h1, h2, h3⟩ := ih (by omega)
      obtain ⟨k, h4, h5⟩ := h (i + 1) hi
      refine ⟨k, ?_, h4, h5⟩
      have h6 := hf i (i + 1) (by omega) hi
      rcases (show i + 1 ≤ k ∨ k ≤ i by omega) with h7 | h7
      · exact h7
      · exfalso
        rcases (show k < j ∨ k = j by omega) with h8 | h8
        · have := hg k j h8 h2; omega
        · rw [h8, h3] at h5; omega
  cases s with
  | zero => exact Nat.zero_le _
  | succ s =>
    obtain ⟨j, h1, h2, _⟩ := key s (by omega)
    omega
theorem inc_unique {s s' : Nat} {f g : Nat → Nat} (hf : ∀ i j, i < j → j < s → f i < f j) (hg : ∀ i j, i < j → j < s' → g i < g j) (h : ∀ k, (∃ i, i < s ∧ f i = k) ↔ ∃ j, j < s' ∧ g j = k) : s = s' ∧ ∀ i, i < s → f i = g i := by
  have hs : s = s' := by
    have h1 := inc_sub hf hg fun i hi => (h (f i)).1 ⟨i, hi, rfl⟩
    have h2 := inc_sub hg hf fun i hi => (h (g i)).2 ⟨i, hi, rfl⟩
    omega
  subst hs
  refine ⟨rfl, fun i => ?_⟩
  induction i using Nat.strongRecOn with
  | _ i ih =>
    intro hi
    obtain ⟨j, hj, ej⟩ := (h (f i)).1 ⟨i, hi, rfl⟩
    obtain ⟨k, hk, ek⟩ := (h (g i)).2 ⟨i, hi, rfl⟩
    have h1 : i ≤ j := by
      rcases (show i ≤ j ∨ j < i by omega) with h2 | h2
      · exact h2
      · have := ih j h2 hj; have := hf j i h2 hi; omega
    have h2 : i ≤ k := by
      rcases (show i ≤ k ∨ k < i by omega) with h3 | h3
      · exact h3
      · have := ih k h3 hk; have := hg k i h3 hi; omega
    have h3 : g i ≤ f i := by
      rcases (show i = j ∨ i < j by omega) with h4 | h4
      · rw [h4, ej, ← h4]; exact Nat.le_refl _
      · have := hg i j h4 hj; omega
    have h4 : f i ≤ g i := by
      rcases (show i = k ∨ i < k by omega) with h5 | h5
      · rw [h5, ek, ← h5]; exact Nat.le_refl _
      · have := hf i k h5 hk; omega
    omega

/-! ### Rank -/
/-- A (m rows, n columns) has rank s, with pivots in the columns pv. -/
def RR (p : Int) (m n : Nat) (A : Nat → Nat → Int) (s : Nat) (pv : Nat → Nat) : Prop := ∃ d B, RE p m d A B ∧ Ech p m n B s pv
theorem rr_ex {p : Int} (hg : GoodI p) (m n : Nat) (A : Nat → Nat → Int) : ∃ s pv, RR p m n A s pv := by
  obtain ⟨d, B, s, pv, h1, h2⟩ := ech_ex hg m A n
  exact ⟨s, pv, d, B, h1, h2⟩
theorem RR.unique {p : Int} (hp : 1 < p) {m n s s' : Nat} {A : Nat → Nat → Int} {pv pv' : Nat → Nat} (h : RR p m n A s pv) (h' : RR p m n A s' pv') : s = s' ∧ ∀ i, i < s → pv i = pv' i := by
  obtain ⟨_, _, h1, h2⟩ := h
  obtain ⟨_, _, h3, h4⟩ := h'
  refine inc_unique h2.inc h4.inc fun k => ?_
  constructor
  · rintro ⟨i, hi, rfl⟩
    exact (h4.pivot_iff hp h3 (h2.lt i hi)).2 ((h2.pivot_iff hp h1 (h2.lt i hi)).1 ⟨i, hi, rfl⟩)
  · rintro ⟨i, hi, rfl⟩
    exact (h2.pivot_iff hp h1 (h4.lt i hi)).2 ((h4.pivot_iff hp h3 (h4.lt i hi)).1 ⟨i, hi, rfl⟩)
theorem RR.rows {p : Int} {m n s : Nat} {A : Nat → Nat → Int} {pv : Nat → Nat} (h : RR p m n A s pv) : s ≤ m := by obtain ⟨_, _, _, h2⟩ := h; exact h2.len
theorem RR.cols {p : Int} {m n s : Nat} {A : Nat → Nat → Int} {pv : Nat → Nat} (h : RR p m n A s pv) : s ≤ n := by
  obtain ⟨_, _, _, h2⟩ := h
  cases s with
  | zero => exact Nat.zero_le _
  | succ s => have h3 := inc_ge h2.inc s (by omega); have h4 := h2.lt s (by omega); omega
theorem RR.congr {p : Int} {m n s : Nat} {A B : Nat → Nat → Int} {pv : Nat → Nat} (h : RR p m n A s pv) (e : ∀ r c, r < m → B r c % p = A r c % p) : RR p m n B s pv := by
  obtain ⟨d, C, h1, h2⟩ := h
  exact ⟨_, C, (RE.same e).trans h1, h2⟩
/-- Entries beyond the columns do not matter. -/
def cut (n : Nat) (A : Nat → Nat → Int) : Nat → Nat → Int := fun r c => if c < n then A r c else 0
theorem nul_cut (p : Int) (m n : Nat) (A B : Nat → Nat → Int) (e : ∀ r c, r < m → c < n → B r c % p = A r c % p) (x : Nat → Int) : Nul p m n A x ↔ Nul p m n B x := by
  have key : ∀ r, r < m → sg n (fun j => A r j * x j) % p = sg n (fun j => B r j * x j) % p := fun r hr => sg_mod n fun j hj => mm (e r j hr hj).symm rfl
  exact ⟨fun z r hr => (key r hr).symm.trans (z r hr), fun z r hr => (key r hr).trans (z r hr)⟩
/-- The rank hangs on the relations of the columns alone. -/
theorem rank_le_of {p : Int} (hp : 1 < p) {m m' n s s' : Nat} {A B : Nat → Nat → Int} {pv pv' : Nat → Nat} (h : RR p m n A s pv) (h' : RR p m' n B s' pv') (hn : ∀ x, Nul p m' n B x → Nul p m n A x) : s ≤ s' := by
  obtain ⟨_, _, h1, h2⟩ := h
  obtain ⟨_, _, h3, h4⟩ := h'
  refine inc_sub h2.inc h4.inc fun i hi => (h4.pivot_iff hp h3 (h2.lt i hi)).2 fun ⟨x, a, b, c⟩ => ?_
  exact (h2.pivot_iff hp h1 (h2.lt i hi)).1 ⟨i, hi, rfl⟩ ⟨x, a, b, hn x c⟩
theorem nul_mat {p : Int} {m l n : Nat} {A B : Nat → Nat → Int} {x : Nat → Int} (h : Nul p l n B x) : Nul p m n (mat l A B) x := by
  intro r _
  have e : sg n (fun j => mat l A B r j * x j) = sg l (fun i => A r i * sg n (fun j => B i j * x j)) := mat_assoc l n A B (fun j _ => x j) r 0
  rw [e, sg_mod l (g := fun _ => 0) (fun i hi => by rw [Int.mul_emod, h i hi, Int.mul_zero]), sg_zero l (fun _ _ => rfl), Int.zero_emod]
/-- The rank of a product is at most the rank of the right factor. -/
theorem rank_right {p : Int} (hp : 1 < p) {m l n s s' : Nat} {A B M : Nat → Nat → Int} {pv pv' : Nat → Nat} (e : ∀ r c, r < m → c < n → M r c % p = mat l A B r c % p) (h : RR p m n M s pv) (h' : RR p l n B s' pv') : s ≤ s' :=
  rank_le_of hp h h' fun x hx => (nul_cut p m n (mat l A B) M e x).1 (nul_mat hx)
/-- The rank of a product is at most the number of terms in its sums. -/
theorem rank_inner {p : Int} (hg : GoodI p) {m l n s : Nat} {A B M : Nat → Nat → Int} {pv : Nat → Nat} (e : ∀ r c, r < m → c < n → M r c % p = mat l A B r c % p) (h : RR p m n M s pv) : s ≤ l := by
  obtain ⟨s', pv', h'⟩ := rr_ex hg l n B
  have hp := hg.two
  exact Nat.le_trans (rank_right (by omega) e h h') h'.rows

/-! ### A matrix of rank s is a product over s terms -/
theorem rel_row {n s : Nat} {B : Nat → Nat → Int} {pv : Nat → Nat} (hlt : ∀ i, i < s → pv i < n) {k : Nat} (hk : k < n) (R : Nat → Int) :
    sg n (fun j => R j * rel B s pv k j) = R k - sg s (fun i => if pv i < k then R (pv i) * B i k else 0) := by
  have e1 : sg n (fun j => R j * rel B s pv k j) = sg n (fun j => (if j = k then R k else 0) + -1 * sg s (fun i => if pv i = j ∧ pv i < k then R (pv i) * B i k else 0)) := by
    refine sg_congr n fun j _ => ?_
    unfold rel
    rw [Int.mul_sub]
    have e2 : R j * (if j = k then 1 else 0) = if j = k then R k else 0 := by
      by_cases e : j = k
      · rw [if_pos e, if_pos e, e, Int.mul_one]
      · rw [if_neg e, if_neg e, Int.mul_zero]
    have e3 : R j * sg s (fun i => if pv i = j ∧ pv i < k then B i k else 0) = sg s (fun i => if pv i = j ∧ pv i < k then R (pv i) * B i k else 0) := by
      rw [← sg_mul]
      refine sg_congr s fun i _ => ?_
      by_cases e : pv i = j ∧ pv i < k
      · rw [if_pos e, if_pos e, e.1]
      · rw [if_neg e, if_neg e, Int.mul_zero]
    rw [e2, e3]; omega
  rw [e1, sg_add, sg_mul, sg_one (j := k) n hk (fun i _ h => if_neg h), if_pos rfl, sg_comm]
  have e4 : sg s (fun i => sg n (fun j => if pv i = j ∧ pv i < k then R (pv i) * B i k else 0)) = sg s (fun i => if pv i < k then R (pv i) * B i k else 0) := by
    refine sg_congr s fun i hi => ?_
    rw [sg_one (j := pv i) n (hlt i hi) (fun j _ hj => if_neg (fun e => hj e.1.symm))]
    by_cases e : pv i < k
    · rw [if_pos ⟨rfl, e⟩, if_pos e]
    · rw [if_neg (fun h => e h.2), if_neg e]
  rw [e4]; omega
theorem RR.fac {p : Int} {m n s : Nat} {A : Nat → Nat → Int} {pv : Nat → Nat} (h : RR p m n A s pv) : ∃ C R, ∀ r c, r < m → c < n → A r c % p = mat s C R r c % p := by
  obtain ⟨d, B, h1, h2⟩ := h
  refine ⟨fun r i => A r (pv i), B, fun r c hr hc => ?_⟩
  have hl := h2.len
  by_cases hp : ∃ i, i < s ∧ pv i = c
  · obtain ⟨i0, hi0, rfl⟩ := hp
    unfold mat
    rw [sg_upto (k := i0) s hi0 (fun i hi hii => by rw [Int.mul_emod, h2.unit i0 i hi0 (by omega), if_neg (by omega), Int.zero_emod, Int.mul_zero, Int.zero_emod]) (fun i hi hii => by rw [Int.mul_emod, h2.unit i0 i hi0 (by omega), if_neg (by omega), Int.zero_emod, Int.mul_zero, Int.zero_emod]),
      Int.mul_emod, h2.unit i0 i0 hi0 (by omega), if_pos rfl, ← Int.mul_emod, Int.mul_one]
  · have hn : ∀ i, i < s → pv i ≠ c := fun i hi e => hp ⟨i, hi, e⟩
    have hz := (h1.nul n _).2 (h2.rel_nul hc hn) r hr
    rw [rel_row h2.lt hc (A r)] at hz
    have e : sg s (fun i => if pv i < c then A r (pv i) * B i c else 0) % p = mat s (fun r i => A r (pv i)) B r c % p := by
      refine sg_mod s fun i hi => ?_
      by_cases e : pv i < c
      · rw [if_pos e]
      · rw [if_neg e, Int.mul_emod, h2.low i i c hi (Nat.le_refl _) (by omega) (by have := hn i hi; omega), Int.mul_zero]
    have h3 : (A r c - sg s (fun i => if pv i < c then A r (pv i) * B i c else 0) + sg s (fun i => if pv i < c then A r (pv i) * B i c else 0)) % p = (0 + mat s (fun r i => A r (pv i)) B r c) % p := ma (hz.trans (Int.zero_emod p).symm) e
    rw [Int.sub_add_cancel, Int.zero_add] at h3
    exact h3
/-- The rank of a product is at most the rank of the left factor. -/
theorem rank_left {p : Int} (hg : GoodI p) {m l n s s' : Nat} {A B M : Nat → Nat → Int} {pv pv' : Nat → Nat} (e : ∀ r c, r < m → c < n → M r c % p = mat l A B r c % p) (h : RR p m n M s pv) (h' : RR p m l A s' pv') : s ≤ s' := by
  obtain ⟨C, R, hf⟩ := h'.fac
  refine rank_inner hg (A := C) (B := mat l R B) (fun r c hr hc => ?_) h
  rw [e r c hr hc, ← mat_assoc]
  exact sg_mod l fun j hj => mm (hf r j hr hj) rfl
/-- The transpose. -/
def tr (A : Nat → Nat → Int) : Nat → Nat → Int := fun r c => A c r
theorem tr_mat (l : Nat) (A B : Nat → Nat → Int) (r c : Nat) : mat l (tr B) (tr A) r c = mat l A B c r := sg_congr l fun _ _ => Int.mul_comm _ _
theorem rank_tr_le {p : Int} (hg : GoodI p) {m n s s' : Nat} {A : Nat → Nat → Int} {pv pv' : Nat → Nat} (h : RR p m n A s pv) (h' : RR p n m (tr A) s' pv') : s' ≤ s := by
  obtain ⟨C, R, hf⟩ := h.fac
  refine rank_inner hg (A := tr R) (B := tr C) (fun r c hr hc => ?_) h'
  rw [tr_mat]
  exact hf c r hc hr
theorem rank_tr {p : Int} (hg : GoodI p) {m n s s' : Nat} {A : Nat → Nat → Int} {pv pv' : Nat → Nat} (h : RR p m n A s pv) (h' : RR p n m (tr A) s' pv') : s = s' := by
  have h1 := rank_tr_le hg h h'
  have h2 := rank_tr_le hg h' (show RR p m n (tr (tr A)) s pv from h)
  omega

/-! ### Determinants -/
theorem full_id {n s : Nat} {pv : Nat → Nat} (hs : s = n) (hlt : ∀ i, i < s → pv i < n) (hi : ∀ i j, i < j → j < s → pv i < pv j) : ∀ i, i < n → pv i = i := by
  subst hs
  have ge := inc_ge hi
  have le : ∀ k i, i + k + 1 = s → pv i ≤ i := by
    intro k
    induction k with
    | zero => intro i e; have := hlt i (by omega); omega
    | succ k ih => intro i e; have h1 := ih (i + 1) (by omega); have h2 := hi i (i + 1) (by omega) (by omega); omega
  intro i h
  have h1 := ge i h
  have h2 := le (s - i - 1) i (by omega)
  omega
/-- A square matrix of full rank comes to the unit matrix; any other has determinant nought. -/
theorem det_cases {p : Int} (hp : 1 < p) {n s : Nat} {d : Int} {A B : Nat → Nat → Int} {pv : Nat → Nat} (h : RE p n d A B) (h2 : Ech p n n B s pv) :
    (s < n ∧ det n A % p = 0) ∨ (s = n ∧ d * det n A % p = 1 ∧ ∀ r c, r < n → c < n → B r c % p = one r c % p) := by
  have hl := h2.len
  have hd := h.det
  rcases (show s < n ∨ s = n by omega) with hs | hs
  · refine .inl ⟨hs, ?_⟩
    have h0 : det n B % p = 0 := by
      rw [det_mod (p := p) n (B := upd B s fun _ => 0) (fun r c hr hc => by
        unfold upd
        by_cases e : r = s
        · rw [if_pos e, e, h2.rest s c (Nat.le_refl _) hs hc, Int.zero_emod]
        · rw [if_neg e]), det_none (r := s) hs _ (fun c => by unfold upd; rw [if_pos rfl]), Int.zero_emod]
    rw [h0] at hd
    obtain ⟨d', hd'⟩ := h.unit hp
    have h3 : d' * (d * det n A) % p = 0 := by rw [Int.mul_emod, ← hd, Int.mul_zero, Int.zero_emod]
    rw [← Int.mul_assoc, Int.mul_emod, hd', Int.one_mul, mdd] at h3
    exact h3
  · have hid := full_id hs h2.lt h2.inc
    have hB : ∀ r c, r < n → c < n → B r c % p = one r c % p := fun r c hr hc => by
      have := h2.unit c r (by omega) hr
      rw [hid c hc] at this
      exact this
    refine .inr ⟨hs, ?_, hB⟩
    rw [← hd, det_mod n hB, det_one]
    exact small (by omega) hp
theorem det_mul {p : Int} (hg : GoodI p) {n : Nat} (A B : Nat → Nat → Int) : det n (mat n A B) % p = det n A * det n B % p := by
  have hp := hg.two
  obtain ⟨d, E, s, pv, h1, h2⟩ := ech_ex hg n A n
  rcases det_cases (by omega) h1 h2 with ⟨hs, h0⟩ | ⟨hs, hd, hE⟩
  · obtain ⟨d', E', s', pv', h3, h4⟩ := ech_ex hg n (mat n A B) n
    have hle := rank_left hg (fun _ _ _ _ => rfl) ⟨d', E', h3, h4⟩ ⟨d, E, h1, h2⟩
    rcases det_cases (by omega) h3 h4 with ⟨_, h5⟩ | ⟨h5, _, _⟩
    · rw [h5, Int.mul_emod, h0, Int.zero_mul, Int.zero_emod]
    · omega
  · have h3 := (h1.mul n B).det
    have h4 : det n (mat n E B) % p = det n B % p := det_mod n fun r c hr hc => by
      rw [← mat_one_left n B hr c]
      exact sg_mod n fun j hj => mm (hE r j hr hj) rfl
    rw [h4] at h3
    have h5 : det n A * det n B % p = det n A * (d * det n (mat n A B)) % p := mm rfl h3
    rw [h5, ← Int.mul_assoc, Int.mul_comm (det n A) d, Int.mul_emod, hd, Int.one_mul, mdd]

/-- An operation on rows is a product from the left. -/
theorem one_tr (r c : Nat) : tr one r c = one r c := by
  unfold tr one
  by_cases h : r = c
  · rw [if_pos h, if_pos h.symm]
  · rw [if_neg h, if_neg (fun e => h e.symm)]
theorem RE.left {p : Int} {m : Nat} {d : Int} {A B : Nat → Nat → Int} (h : RE p m d A B) : ∃ E, RE p m d one E ∧ ∀ r c, r < m → B r c % p = mat m E A r c % p := by
  induction h with
  | same h => exact ⟨one, RE.refl p m one, fun r c hr => by rw [mat_one_left m _ hr c]; exact (h r c hr).symm⟩
  | @swap A r s hr hs hne =>
    refine ⟨_, .swap hr hs hne, fun i c hi => ?_⟩
    rw [mat_upd, mat_upd, row_mat, row_mat]
    unfold upd
    by_cases h1 : i = s
    · rw [if_pos h1, if_pos h1, mat_one_left m A hr]
    · rw [if_neg h1, if_neg h1]
      by_cases h2 : i = r
      · rw [if_pos h2, if_pos h2, mat_one_left m A hs]
      · rw [if_neg h2, if_neg h2, mat_one_left m A hi]
  | @scale A r k k' hr hk =>
    refine ⟨_, .scale hr hk, fun i c hi => ?_⟩
    rw [mat_upd]
    unfold upd
    by_cases h1 : i = r
    · rw [if_pos h1, if_pos h1]
      show k * A r c % p = (sg m fun j => k * one r j * A j c) % p
      rw [← mat_one_left m A hr c]
      unfold mat; rw [← sg_mul]; congr 1
      exact sg_congr m fun j _ => (Int.mul_assoc _ _ _).symm
    · rw [if_neg h1, if_neg h1, mat_one_left m A hi]
  | @add A r s k hr hs hne =>
    refine ⟨_, .add (k := k) hr hs hne, fun i c hi => ?_⟩
    rw [mat_upd]
    unfold upd
    by_cases h1 : i = s
    · rw [if_pos h1, if_pos h1]
      show (A s c + k * A r c) % p = (sg m fun j => (one s j + k * one r j) * A j c) % p
      rw [← mat_one_left m A hs c, ← mat_one_left m A hr c]
      unfold mat; rw [← sg_mul, ← sg_add]; congr 1
      exact sg_congr m fun j _ => by rw [Int.add_mul, Int.mul_assoc]
    · rw [if_neg h1, if_neg h1, mat_one_left m A hi]
  | @trans d e A B C _ _ i1 i2 =>
    obtain ⟨E1, h1, f1⟩ := i1
    obtain ⟨E2, h2, f2⟩ := i2
    refine ⟨mat m E2 E1, ?_, fun r c hr => ?_⟩
    · have h3 := h2.mul m E1
      have h4 : RE p m 1 E1 (mat m one E1) := .same fun r c hr => by rw [mat_one_left m E1 hr c]
      have h5 := (h1.trans h4).trans h3
      rwa [Int.one_mul] at h5
    · rw [f2 r c hr, mat_assoc]
      exact sg_mod m fun j hj => mm rfl (f1 j c hj)

theorem one_same (a : Nat) : one a a = 1 := if_pos rfl
theorem one_ne {a b : Nat} (h : a ≠ b) : one a b = 0 := if_neg h
theorem one_comm (a b : Nat) : one a b = one b a := one_tr b a
/-- The transpose under an operation on rows. -/
theorem RE.tdet {p : Int} (hg : GoodI p) {m : Nat} {d : Int} {A B : Nat → Nat → Int} (h : RE p m d A B) : MatMath.det m (tr B) % p = d * MatMath.det m (tr A) % p := by
  -- a product with a matrix whose transpose has determinant d
  have key : ∀ {d : Int} {A B E : Nat → Nat → Int}, (∀ r c, r < m → B r c % p = mat m E A r c % p) → MatMath.det m (tr E) % p = d % p → MatMath.det m (tr B) % p = d * MatMath.det m (tr A) % p := by
    intro d A B E h1 h2
    rw [det_mod (p := p) m (B := mat m (tr A) (tr E)) (fun r c hr hc => by rw [tr_mat]; exact h1 c r hc), det_mul hg, Int.mul_comm d]
    exact mm rfl h2
  induction h with
  | same h => rw [Int.one_mul]; exact det_mod m fun r c hr hc => (h c r hc).symm
  | @swap A r s hr hs hne =>
    refine key (E := upd (upd one r (one s)) s (one r)) (fun i c hi => ?_) ?_
    · rw [mat_upd, mat_upd, row_mat, row_mat]
      unfold upd
      by_cases h1 : i = s
      · rw [if_pos h1, if_pos h1, mat_one_left m A hr]
      · rw [if_neg h1, if_neg h1]
        by_cases h2 : i = r
        · rw [if_pos h2, if_pos h2, mat_one_left m A hs]
        · rw [if_neg h2, if_neg h2, mat_one_left m A hi]
    · rw [det_congr m (B := upd (upd one r (one s)) s (one r)) (fun i c _ _ => by
        unfold tr upd
        by_cases a1 : c = s
        · rw [if_pos a1]
          by_cases a2 : i = s
          · rw [if_pos a2, a1, a2]
          · rw [if_neg a2]
            by_cases a3 : i = r
            · rw [if_pos a3, a3, a1, one_same, one_same]
            · rw [if_neg a3, a1, one_ne (fun e => a3 e.symm), one_ne a2]
        · rw [if_neg a1]
          by_cases a2 : c = r
          · rw [if_pos a2]
            by_cases a3 : i = s
            · rw [if_pos a3, a3, a2, one_same, one_same]
            · rw [if_neg a3]
              by_cases a4 : i = r
              · rw [if_pos a4, a4, a2]
              · rw [if_neg a4, a2, one_ne (fun e => a3 e.symm), one_ne a4]
          · rw [if_neg a2]
            by_cases a3 : i = s
            · rw [if_pos a3, a3, one_ne a1, one_ne (fun e => a2 e.symm)]
            · rw [if_neg a3]
              by_cases a4 : i = r
              · rw [if_pos a4, a4, one_ne a2, one_ne (fun e => a1 e.symm)]
              · rw [if_neg a4, one_comm]), det_swap hr hs hne, det_one]
  | @scale A r k k' hr hk =>
    refine key (E := upd one r fun c => k * one r c) (fun i c hi => ?_) ?_
    · rw [mat_upd]
      unfold upd
      by_cases h1 : i = r
      · rw [if_pos h1, if_pos h1]
        show k * A r c % p = (sg m fun j => k * one r j * A j c) % p
        rw [← mat_one_left m A hr c]
        unfold mat; rw [← sg_mul]; congr 1
        exact sg_congr m fun j _ => (Int.mul_assoc _ _ _).symm
      · rw [if_neg h1, if_neg h1, mat_one_left m A hi]
    · rw [det_congr m (B := upd one r fun c => k * one r c) (fun i c _ _ => by
        have dz : ∀ x y, x ≠ y → upd one r (fun c => k * one r c) x y = 0 := fun x y h => by
          unfold upd; dsimp only
          by_cases a : x = r
          · rw [if_pos a, one_ne (fun e => h (a.trans e)), Int.mul_zero]
          · rw [if_neg a, one_ne h]
        by_cases e : i = c
        · rw [e]; rfl
        · rw [dz i c e]; exact dz c i (fun h => e h.symm)), det_scale hr, det_one, Int.mul_one]
  | @add A r s k hr hs hne =>
    refine key (E := upd one s fun c => one s c + k * one r c) (fun i c hi => ?_) ?_
    · rw [mat_upd]
      unfold upd
      by_cases h1 : i = s
      · rw [if_pos h1, if_pos h1]
        show (A s c + k * A r c) % p = (sg m fun j => (one s j + k * one r j) * A j c) % p
        rw [← mat_one_left m A hs c, ← mat_one_left m A hr c]
        unfold mat; rw [← sg_mul, ← sg_add]; congr 1
        exact sg_congr m fun j _ => by rw [Int.add_mul, Int.mul_assoc]
      · rw [if_neg h1, if_neg h1, mat_one_left m A hi]
    · rw [det_congr m (B := upd one r fun c => one r c + k * one s c) (fun i c _ _ => by
        unfold tr upd; dsimp only
        by_cases a1 : c = s <;> by_cases a2 : i = r
        · rw [if_pos a1, if_pos a2, a1, a2, one_same, one_same, one_comm]
        · rw [if_pos a1, if_neg a2, a1, one_ne (fun e => a2 e.symm), Int.mul_zero, Int.add_zero, one_comm]
        · rw [if_neg a1, if_pos a2, a2, one_ne (a := s) (fun e => a1 e.symm), Int.mul_zero, Int.add_zero, one_comm]
        · rw [if_neg a1, if_neg a2, one_comm]), det_row hs hr (fun e => hne e.symm), det_one]
  | trans _ _ i1 i2 => rw [i2, Int.mul_assoc]; exact mm rfl i1
theorem det_tr {p : Int} (hg : GoodI p) (n : Nat) (A : Nat → Nat → Int) : det n (tr A) % p = det n A % p := by
  have hp := hg.two
  obtain ⟨d, E, s, pv, h1, h2⟩ := ech_ex hg n A n
  have h3 := h1.tdet hg
  have h4 := h1.det
  obtain ⟨d', hd⟩ := h1.unit (by omega)
  have h5 : det n (tr E) % p = det n E % p := by
    rcases det_cases (by omega) h1 h2 with ⟨hs, h0⟩ | ⟨_, _, hE⟩
    · obtain ⟨e, F, s', pv', h6, h7⟩ := ech_ex hg n (tr A) n
      have hr := rank_tr hg ⟨d, E, h1, h2⟩ ⟨e, F, h6, h7⟩
      rcases det_cases (by omega) h6 h7 with ⟨_, h8⟩ | ⟨h8, _, _⟩
      · rw [h3, h4, Int.mul_emod, h8, Int.mul_emod d (det n A), h0]
      · omega
    · rw [det_mod (p := p) n (B := one) (fun r c hr hc => by rw [← one_tr r c]; exact hE c r hc hr), det_mod (p := p) n hE]
  rw [h3, h4] at h5
  have h6 : d' * (d * det n (tr A)) % p = d' * (d * det n A) % p := mm rfl h5
  rw [← Int.mul_assoc, ← Int.mul_assoc, Int.mul_emod, Int.mul_emod (d' * d) (det n A), hd, Int.one_mul, Int.one_mul, mdd, mdd] at h6
  exact h6
end MatMath
