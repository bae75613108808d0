/- Plain facts about linear systems and inverses over the fields of the seven Mersenne primes, with no Go in sight: the basic solution, when there is none and what shows it, inverses. Conditions: a supported prime where said. -/
import Derived.Test.YtgkhngiiimnchaaGLin
namespace MatMath
open PolyMath FieldMath

/-! ### Systems -/
/-- x solves M and b (m rows, n unknowns). -/
def Sol (p : Int) (m n : Nat) (M : Nat → Nat → Int) (b x : Nat → Int) : Prop := ∀ r, r < m → sg n (fun j => M r j * x j) % p = b r % p
/-- The matrix with b beside it. -/
def aug (n : Nat) (M : Nat → Nat → Int) (b : Nat → Int) : Nat → Nat → Int := fun r c => if c < n then M r c else b r
theorem sub_zero_iff {p a b : Int} : (a + b * -1) % p = 0 ↔ a % p = b % p := by
  constructor
  · intro h
    have h1 : (a + b * -1 + b) % p = (0 + b) % p := ma (h.trans (Int.zero_emod p).symm) rfl
    rw [Int.zero_add, show a + b * -1 + b = a from by omega] at h1
    exact h1
  · intro h
    have h1 : (a + b * -1) % p = (b + b * -1) % p := ma h rfl
    rw [h1, show b + b * -1 = 0 from by omega, Int.zero_emod]
theorem row_nul (p : Int) (n : Nat) (R x : Nat → Int) : sg (n + 1) (fun j => R j * (if j < n then x j else -1)) % p = 0 ↔ sg n (fun j => R j * x j) % p = R n % p := by
  rw [sg_succ, if_neg (by omega), sg_congr n (g := fun j => R j * x j) (fun j hj => by rw [if_pos hj])]
  exact sub_zero_iff
theorem sol_re {p : Int} {m n : Nat} {d : Int} {M B : Nat → Nat → Int} {b : Nat → Int} (h : RE p m d (aug n M b) B) (x : Nat → Int) : Sol p m n M b x ↔ ∀ r, r < m → sg n (fun j => B r j * x j) % p = B r n % p := by
  have e := h.nul (n + 1) (fun j => if j < n then x j else -1)
  have e1 : Nul p m (n + 1) (aug n M b) (fun j => if j < n then x j else -1) ↔ Sol p m n M b x := by
    constructor
    · intro z r hr
      have := (row_nul p n (aug n M b r) x).1 (z r hr)
      rw [sg_congr n (g := fun j => M r j * x j) (fun j hj => by unfold aug; rw [if_pos hj])] at this
      unfold aug at this
      rw [if_neg (by omega)] at this
      exact this
    · intro z r hr
      refine (row_nul p n (aug n M b r) x).2 ?_
      rw [sg_congr n (g := fun j => M r j * x j) (fun j hj => by unfold aug; rw [if_pos hj])]
      unfold aug
      rw [if_neg (by omega)]
      exact z r hr
  rw [← e1, e]
  exact ⟨fun z r hr => (row_nul p n (B r) x).1 (z r hr), fun z r hr => (row_nul p n (B r) x).2 (z r hr)⟩
/-- The basic solution, read off the reduced form: y i at the i-th pivot's column. -/
def bsol (s : Nat) (pv : Nat → Nat) (y : Nat → Int) (j : Nat) : Int := sg s fun i => if pv i = j then y i else 0
theorem bsol_at {s : Nat} {pv : Nat → Nat} (hi : ∀ i j, i < j → j < s → pv i < pv j) (y : Nat → Int) {i : Nat} (h : i < s) : bsol s pv y (pv i) = y i := by
  unfold bsol
  rw [sg_one (j := i) s h (fun k hk hne => if_neg fun e => by
    rcases (show k < i ∨ i < k by omega) with h1 | h1
    · have := hi k i h1 h; omega
    · have := hi i k h1 hk; omega), if_pos rfl]
theorem bsol_else {s : Nat} {pv : Nat → Nat} (y : Nat → Int) {j : Nat} (h : ∀ i, i < s → pv i ≠ j) : bsol s pv y j = 0 := sg_zero s fun i hi => if_neg (h i hi)
theorem bsol_sum {n s : Nat} {pv : Nat → Nat} (hl : ∀ i, i < s → pv i < n) (y R : Nat → Int) : sg n (fun j => R j * bsol s pv y j) = sg s (fun i => R (pv i) * y i) := by
  have e : sg n (fun j => R j * bsol s pv y j) = sg n (fun j => sg s (fun i => if pv i = j then R (pv i) * y i else 0)) := sg_congr n fun j _ => by
    unfold bsol
    rw [← sg_mul]
    refine sg_congr s fun i _ => ?_
    by_cases e : pv i = j
    · rw [if_pos e, if_pos e, e]
    · rw [if_neg e, if_neg e, Int.mul_zero]
  rw [e, sg_comm]
  refine sg_congr s fun i hi => ?_
  rw [sg_one (j := pv i) n (hl i hi) (fun j _ h => if_neg fun e => h e.symm), if_pos rfl]
theorem Ech.row_sum {p : Int} {m n s : Nat} {B : Nat → Nat → Int} {pv : Nat → Nat} (h : Ech p m n B s pv) (y : Nat → Int) {r : Nat} (hr : r < m) : sg s (fun i => B r (pv i) * y i) % p = (if r < s then y r else 0) % p := by
  by_cases e : r < s
  · rw [if_pos e, sg_upto (k := r) s e (fun i hi hir => by rw [Int.mul_emod, h.unit i r hi hr, if_neg (by omega), Int.zero_emod, Int.zero_mul, Int.zero_emod]) (fun i hi hir => by rw [Int.mul_emod, h.unit i r hi hr, if_neg (by omega), Int.zero_emod, Int.zero_mul, Int.zero_emod]),
      Int.mul_emod, h.unit r r e hr, if_pos rfl, ← Int.mul_emod, Int.one_mul]
  · rw [if_neg e, sg_mod s (g := fun _ => 0) (fun i hi => by rw [Int.mul_emod, h.unit i r hi hr, if_neg (by omega), Int.zero_emod, Int.zero_mul, Int.zero_emod]), sg_zero s (fun _ _ => rfl)]
theorem solve_ok {p : Int} {m n s : Nat} {d : Int} {M B : Nat → Nat → Int} {b : Nat → Int} {pv : Nat → Nat} (h : RE p m d (aug n M b) B) (he : Ech p m n B s pv) (h0 : ∀ r, s ≤ r → r < m → B r n % p = 0) : Sol p m n M b (bsol s pv fun i => B i n) := by
  refine (sol_re h _).2 fun r hr => ?_
  rw [bsol_sum he.lt, he.row_sum _ hr]
  by_cases e : r < s
  · rw [if_pos e]
  · rw [if_neg e, h0 r (by omega) hr, Int.zero_emod]
theorem solve_no {p : Int} {m n s : Nat} {d : Int} {M B : Nat → Nat → Int} {b : Nat → Int} {pv : Nat → Nat} (h : RE p m d (aug n M b) B) (he : Ech p m n B s pv) {r : Nat} (h1 : s ≤ r) (h2 : r < m) (h3 : B r n % p ≠ 0) (x : Nat → Int) : ¬ Sol p m n M b x := by
  intro hx
  have e := (sol_re h x).1 hx r h2
  rw [sg_mod n (g := fun _ => 0) (fun j hj => by rw [Int.mul_emod, he.rest r j h1 h2 hj, Int.zero_mul]), sg_zero n (fun _ _ => rfl), Int.zero_emod] at e
  exact h3 e.symm
/-- The basic solution is the only one that is nought off the pivots. -/
theorem solve_unique {p : Int} {m n s : Nat} {d : Int} {M B : Nat → Nat → Int} {b x : Nat → Int} {pv : Nat → Nat} (h : RE p m d (aug n M b) B) (he : Ech p m n B s pv) (hx : Sol p m n M b x) (h0 : ∀ j, j < n → (∀ i, i < s → pv i ≠ j) → x j % p = 0) : ∀ j, j < n → x j % p = bsol s pv (fun i => B i n) j % p := by
  intro j hj
  by_cases hp : ∃ i, i < s ∧ pv i = j
  · obtain ⟨i, hi, rfl⟩ := hp
    have hl := he.len
    have e := (sol_re h x).1 hx i (by omega)
    rw [sg_upto (k := pv i) n hj (fun k hk hkl => by rw [Int.mul_emod, he.low i i k hi (Nat.le_refl _) (by omega) hkl, Int.zero_mul, Int.zero_emod]) (fun k hk hkl => by
      by_cases hq : ∃ i', i' < s ∧ pv i' = k
      · obtain ⟨i', hi', rfl⟩ := hq
        rw [Int.mul_emod, he.unit i' i hi' (by omega), if_neg (fun e => by rw [e] at hkl; omega), Int.zero_emod, Int.zero_mul, Int.zero_emod]
      · rw [Int.mul_emod, h0 k hk (fun i' hi' e => hq ⟨i', hi', e⟩), Int.mul_zero, Int.zero_emod]), Int.mul_emod, he.unit i i hi (by omega), if_pos rfl, ← Int.mul_emod, Int.one_mul] at e
    rw [e, bsol_at he.inc _ hi]
  · rw [h0 j hj (fun i hi e => hp ⟨i, hi, e⟩), bsol_else _ (fun i hi e => hp ⟨i, hi, e⟩), Int.zero_emod]
/-- Where there is no solution, a combination of the rows shows it. -/
theorem solve_witness {p : Int} (hg : GoodI p) {m n s : Nat} {d : Int} {M B : Nat → Nat → Int} {b : Nat → Int} {pv : Nat → Nat} (h : RE p m d (aug n M b) B) (he : Ech p m n B s pv) {r : Nat} (h1 : s ≤ r) (h2 : r < m) (h3 : B r n % p ≠ 0) :
    ∃ y : Nat → Int, (∀ c, c < n → sg m (fun i => M i c * y i) % p = 0) ∧ sg m (fun i => b i * y i) % p = 1 := by
  obtain ⟨E, _, hE⟩ := h.left
  obtain ⟨k, hk⟩ := inv_ex hg h3
  have key : ∀ c, k * B r c % p = sg m (fun i => aug n M b i c * (k * E r i)) % p := fun c => by
    rw [mm rfl (hE r c h2)]
    unfold mat
    rw [← sg_mul]; congr 1
    exact sg_congr m fun i _ => by rw [← Int.mul_assoc, Int.mul_comm]
  refine ⟨fun i => k * E r i, fun c hc => ?_, ?_⟩
  · have e := key c
    rw [Int.mul_emod, he.rest r c h1 h2 hc, Int.mul_zero, Int.zero_emod] at e
    rw [e]; congr 1
    exact sg_congr m fun i _ => by unfold aug; rw [if_pos hc]
  · have e := key n
    rw [hk] at e
    rw [e]; congr 1
    exact sg_congr m fun i _ => by unfold aug; rw [if_neg (by omega)]

/-! ### Inverses -/
/-- X M is the unit matrix. -/
def Inv (p : Int) (n : Nat) (X M : Nat → Nat → Int) : Prop := ∀ r c, r < n → c < n → mat n X M r c % p = one r c % p
theorem rr_one {p : Int} (n : Nat) : RR p n n one n (fun i => i) :=
  ⟨1, one, RE.refl p n one, Nat.le_refl _, (fun _ h => h), (fun _ _ h _ => h), (fun i r _ _ => rfl), (fun i r c _ hir _ hc => by rw [one_ne (by omega), Int.zero_emod]), (fun r c h1 h2 _ => by omega)⟩
theorem inv_ex_left {p : Int} {n : Nat} {M : Nat → Nat → Int} {pv : Nat → Nat} (h : RR p n n M n pv) : ∃ X, Inv p n X M := by
  obtain ⟨d, B, h1, h2⟩ := h
  obtain ⟨E, _, hE⟩ := h1.left
  refine ⟨E, fun r c hr hc => ?_⟩
  have e := h2.unit c r hc hr
  rw [full_id rfl h2.lt h2.inc c hc] at e
  rw [← hE r c hr, e]
  rfl
theorem inv_full {p : Int} (hg : GoodI p) {n s : Nat} {X M : Nat → Nat → Int} {pv : Nat → Nat} (h : Inv p n X M) (hr : RR p n n X s pv) : s = n := by
  have h1 := rank_left hg (m := n) (l := n) (n := n) (M := one) (A := X) (B := M) (fun r c hr hc => (h r c hr hc).symm) (rr_one n) hr
  have h2 := hr.rows
  omega
theorem inv_comm {p : Int} (hg : GoodI p) {n : Nat} {X M : Nat → Nat → Int} (h : Inv p n X M) : Inv p n M X := by
  obtain ⟨s, pv, hr⟩ := rr_ex hg n n X
  have hs := inv_full hg h hr
  subst hs
  obtain ⟨Y, hY⟩ := inv_ex_left hr
  -- M = (Y X) M = Y (X M) = Y
  have e : ∀ r c, r < s → c < s → M r c % p = Y r c % p := fun r c hr hc => by
    have e1 : mat s (mat s Y X) M r c % p = M r c % p := by
      rw [← mat_one_left s M hr c]
      exact sg_mod s fun j hj => mm (hY r j hr hj) rfl
    have e2 : mat s Y (mat s X M) r c % p = Y r c % p := by
      rw [← mat_one_right s Y r hc]
      exact sg_mod s fun j hj => mm rfl (h j c hj hc)
    rw [← e1, mat_assoc, e2]
  intro r c hr hc
  rw [← hY r c hr hc]
  exact sg_mod s fun j hj => mm (e r j hr hj) rfl
theorem inv_unique {p : Int} {n : Nat} {X Y M : Nat → Nat → Int} (h1 : Inv p n X M) (h2 : Inv p n M Y) {r c : Nat} (hr : r < n) (hc : c < n) : X r c % p = Y r c % p := by
  have e1 : mat n (mat n X M) Y r c % p = Y r c % p := by
    rw [← mat_one_left n Y hr c]
    exact sg_mod n fun j hj => mm (h1 r j hr hj) rfl
  have e2 : mat n X (mat n M Y) r c % p = X r c % p := by
    rw [← mat_one_right n X r hc]
    exact sg_mod n fun j hj => mm rfl (h2 j c hj hc)
  rw [← e1, mat_assoc, e2]
/-- The matrix with the unit matrix beside it. -/
def augI (n : Nat) (M : Nat → Nat → Int) : Nat → Nat → Int := fun r c => if c < n then M r c else one r (c - n)
/-- What stands beside the reduced form is the inverse. -/
theorem inv_read {p : Int} {n : Nat} {d : Int} {M B : Nat → Nat → Int} {pv : Nat → Nat} (h : RE p n d (augI n M) B) (he : Ech p n n B n pv) : Inv p n (fun r c => B r (n + c)) M := by
  obtain ⟨E, _, hE⟩ := h.left
  have hid := full_id rfl he.lt he.inc
  intro r c hr hc
  have e1 : ∀ j, j < n → B r (n + j) % p = E r j % p := fun j hj => by
    rw [hE r (n + j) hr, ← mat_one_right n E r hj]
    unfold mat; congr 1
    exact sg_congr n fun i _ => by unfold augI; rw [if_neg (by omega), Nat.add_sub_cancel_left]
  have e2 : mat n (fun r c => B r (n + c)) M r c % p = mat n E M r c % p := sg_mod n fun j hj => mm (e1 j hj) rfl
  have e3 : mat n E M r c % p = B r c % p := by
    rw [hE r c hr]
    unfold mat; congr 1
    exact sg_congr n fun i _ => by unfold augI; rw [if_pos hc]
  have e4 := he.unit c r hc hr
  rw [hid c hc] at e4
  rw [e2, e3, e4]; rfl
/-- The rank of the part on the left. -/
theorem rr_left {p : Int} {m n s : Nat} {d : Int} {A M B : Nat → Nat → Int} {pv : Nat → Nat} (hp : 1 < p) (e : ∀ r c, r < m → c < n → A r c % p = M r c % p) (h : RE p m d A B) (he : Ech p m n B s pv) {s' : Nat} {pv' : Nat → Nat} (h' : RR p m n M s' pv') : s = s' ∧ ∀ i, i < s → pv i = pv' i := by
  obtain ⟨d1, B1, h1, h2⟩ := h'
  refine inc_unique he.inc h2.inc fun k => ?_
  have hd : ∀ k, Dep p m n A k ↔ Dep p m n M k := fun k =>
    ⟨fun ⟨x, a, b, c⟩ => ⟨x, a, b, (nul_cut p m n M A e x).2 c⟩, fun ⟨x, a, b, c⟩ => ⟨x, a, b, (nul_cut p m n M A e x).1 c⟩⟩
  constructor
  · rintro ⟨i, hi, rfl⟩
    exact (h2.pivot_iff hp h1 (he.lt i hi)).2 fun hdep => (he.pivot_iff hp h (he.lt i hi)).1 ⟨i, hi, rfl⟩ ((hd _).2 hdep)
  · rintro ⟨i, hi, rfl⟩
    exact (he.pivot_iff hp h (h2.lt i hi)).2 fun hdep => (h2.pivot_iff hp h1 (h2.lt i hi)).1 ⟨i, hi, rfl⟩ ((hd _).1 hdep)
end MatMath
