/- Plain facts about interpolation over the fields of the seven Mersenne primes, with no Go in sight: a polynomial of bounded degree is fixed by its values, the Lagrange basis, weights, powers. Conditions: abscissas are different elements of the field where said. -/
import Derived.Test.YtkkfkkicbgejaaaPStep
namespace PolyMath
open FieldMath

/-! ### A polynomial is fixed by its values -/
/-- f takes the value ys[i] at xs[i] for each i, and has at most as many coefficients as there are points. -/
structure Itp (p : Int) (xs ys f : List Int) : Prop where
  ft : trim f = f
  fe : El p f
  fl : f.length ≤ xs.length
  at_ : ∀ i, i < xs.length → pev p f (co xs i) = co ys i

theorem pev_psub (p : Int) (a b : List Int) (x : Int) : pev p (psub p a b) x = fsub p (pev p a x) (pev p b x) := by
  unfold pev fsub
  have h1 : (psub p a b).length ≤ max a.length b.length := psub_len p a b
  have e : ∀ N (f g : Nat → Int), evf x N (fun i => f i - g i) = evf x N f - evf x N g := by
    intro N f g
    have h := evf_add x N f (fun i => -1 * g i)
    rw [evf_mul] at h
    rw [show (fun i => f i - g i) = fun i => f i + -1 * g i from funext fun i => by omega, h]; omega
  rw [← evf_to (x := x) (co_fin (psub p a b)) h1, evf_mod (p := p) x _ (g := fun i => co a i - co b i) (fun n => by rw [co_psub, mdd]), e,
    evf_to (co_fin a) (by omega), evf_to (co_fin b) (by omega), Int.sub_emod]
theorem pev_pscl (p k : Int) (a : List Int) (x : Int) : pev p (pscl p k a) x = fmul p k (pev p a x) := by
  unfold pev fmul
  rw [← evf_to (x := x) (co_fin (pscl p k a)) (pscl_len p k a), evf_mod (p := p) x _ (g := fun i => k * co a i) (fun n => by rw [co_pscl, mdd]), evf_mul, Int.mul_emod, Int.mul_emod k (evf x a.length (co a) % p), mdd]
theorem pev_nil (p x : Int) : pev p [] x = 0 := Int.zero_emod p
theorem pev_one {p : Int} (hp : 1 < p) (x : Int) : pev p [1] x = 1 := by
  show (1 + x * 0) % p = 1
  rw [Int.mul_zero, Int.add_zero]; exact small (by omega) hp

theorem mem_co {xs : List Int} {x : Int} (h : x ∈ xs) : ∃ i, i < xs.length ∧ co xs i = x := by
  obtain ⟨i, hi, e⟩ := List.mem_iff_getElem.1 h
  exact ⟨i, hi, by rw [co_get hi]; exact e⟩
theorem co_mem {xs : List Int} {i : Nat} (h : i < xs.length) : co xs i ∈ xs := by rw [co_get h]; exact List.getElem_mem h
theorem nodup_inj {xs : List Int} (hn : xs.Nodup) {i j : Nat} (hi : i < xs.length) (hj : j < xs.length) (e : xs[i] = xs[j]) : i = j := by
  have h := List.pairwise_iff_getElem.1 hn
  rcases Nat.lt_trichotomy i j with h1 | h1 | h1
  · exact absurd e (h i j hi hj h1)
  · exact h1
  · exact absurd e.symm (h j i hj hi h1)
theorem co_inj {xs : List Int} (hn : xs.Nodup) {i j : Nat} (hi : i < xs.length) (hj : j < xs.length) (e : co xs i = co xs j) : i = j := by
  rw [co_get hi, co_get hj] at e
  exact nodup_inj hn hi hj e

/-- Two polynomials with at most n coefficients that agree at n points are equal. -/
theorem agree {p : Int} (h : GoodI p) {xs f g : List Int} (hn : xs.Nodup) (hx : El p xs) (hf : El p f) (hg : El p g) (ft : trim f = f) (gt : trim g = g) (lf : f.length ≤ xs.length) (lg : g.length ≤ xs.length)
    (he : ∀ x ∈ xs, pev p f x = pev p g x) : f = g := by
  have hp := h.two
  have hz : tn (psub p f g) = 0 := by
    rcases Nat.eq_zero_or_pos (tn (psub p f g)) with h0 | h0
    · exact h0
    · exfalso
      have h1 := zeros_list h (psub_el (by omega) f g) h0 hn hx (fun x hxx => by
        rw [pev_psub, he x hxx]; unfold fsub; rw [Int.sub_self, Int.zero_emod])
      have h2 := tn_le (psub p f g)
      have h3 := psub_len p f g
      omega
  apply same_of ft gt
  intro n
  have e := tn_fin (psub p f g) n (by omega)
  rw [co_psub] at e
  have a1 := hf.co (show 0 < p by omega) n
  have a2 := hg.co (show 0 < p by omega) n
  have hd := Int.dvd_of_emod_eq_zero e
  rcases (show co f n < co g n ∨ co f n = co g n ∨ co g n < co f n by omega) with hlt | he2 | hlt
  · have := Int.le_of_dvd (show 0 < co g n - co f n by omega) ((Int.dvd_neg).1 (by rw [Int.neg_sub]; exact hd)); omega
  · exact he2
  · have := Int.le_of_dvd (show 0 < co f n - co g n by omega) hd; omega
theorem Itp.unique {p : Int} (h : GoodI p) {xs ys f g : List Int} (hn : xs.Nodup) (hx : El p xs) (h1 : Itp p xs ys f) (h2 : Itp p xs ys g) : f = g :=
  agree h hn hx h1.fe h2.fe h1.ft h2.ft h1.fl h2.fl fun x hxx => by
    obtain ⟨i, hi, e⟩ := mem_co hxx
    rw [← e, h1.at_ i hi, h2.at_ i hi]
/-- A polynomial is the interpolation of its own values. -/
theorem Itp.own {p : Int} {xs f : List Int} (hf : El p f) (hl : f.length ≤ xs.length) : Itp p xs (xs.map (pev p f)) (trim f) where
  ft := trim_trim _
  fe := hf.trim
  fl := by rw [trim_length]; have := tn_le f; omega
  at_ := fun i hi => by
    rw [pev_trim]
    have : i < (xs.map (pev p f)).length := by rw [List.length_map]; exact hi
    rw [co_get this, List.getElem_map, co_get hi]
/-- Interpolation is linear in the values. -/
theorem Itp.add {p : Int} (hp : 0 < p) {xs ys zs us f g : List Int} (h1 : Itp p xs ys f) (h2 : Itp p xs zs g) (hu : ∀ i, i < xs.length → co us i = fadd p (co ys i) (co zs i)) : Itp p xs us (padd p f g) where
  ft := padd_trim _ _ _
  fe := padd_el hp _ _
  fl := by have := padd_len p f g; have := h1.fl; have := h2.fl; omega
  at_ := fun i hi => by rw [pev_padd, h1.at_ i hi, h2.at_ i hi, hu i hi]

theorem co_snoc_lt {xs : List Int} {x : Int} {i : Nat} (h : i < xs.length) : co (xs ++ [x]) i = co xs i := by unfold co; rw [List.getElem?_append_left h]
theorem co_snoc {xs : List Int} {x : Int} : co (xs ++ [x]) xs.length = x := by unfold co; rw [List.getElem?_append_right (Nat.le_refl _)]; simp
/-- A further point on the polynomial changes nothing. -/
theorem Itp.more {p : Int} {xs ys f : List Int} {x y : Int} (hl : ys.length = xs.length) (h : Itp p xs ys f) (e : pev p f x = y) : Itp p (xs ++ [x]) (ys ++ [y]) f where
  ft := h.ft
  fe := h.fe
  fl := by rw [List.length_append]; have := h.fl; omega
  at_ := fun i hi => by
    rw [List.length_append, List.length_singleton] at hi
    by_cases h1 : i < xs.length
    · rw [co_snoc_lt h1, co_snoc_lt (by omega), h.at_ i h1]
    · obtain rfl : i = xs.length := by omega
      rw [co_snoc]
      conv => rhs; rw [← hl]
      rw [co_snoc, e]
/-- A further point off the polynomial raises the degree to the number of the former points. -/
theorem Itp.off {p : Int} (hg : GoodI p) {xs ys f g : List Int} {x y : Int} (hl : ys.length = xs.length) (hn : xs.Nodup) (hx : El p xs) (h : Itp p xs ys f) (e : pev p f x ≠ y) (h2 : Itp p (xs ++ [x]) (ys ++ [y]) g) : tn g = xs.length + 1 := by
  have hgl := h2.fl
  rw [List.length_append, List.length_singleton] at hgl
  have ht : tn g = g.length := by rw [← trim_length, h2.ft]
  rcases (show g.length ≤ xs.length ∨ g.length = xs.length + 1 by omega) with h3 | h3
  · exfalso
    have h4 : Itp p xs ys g := ⟨h2.ft, h2.fe, h3, fun i hi => by
      have := h2.at_ i (by rw [List.length_append]; omega)
      rwa [co_snoc_lt hi, co_snoc_lt (by omega)] at this⟩
    have h5 := h.unique hg hn hx h4
    have h6 := h2.at_ xs.length (by rw [List.length_append, List.length_singleton]; omega)
    rw [co_snoc] at h6
    conv at h6 => rhs; rw [← hl]
    rw [co_snoc] at h6
    rw [h5] at e
    exact e h6
  · omega

/-! ### The Lagrange basis -/
def finv (p a : Int) : Int := fpow p a (p - 2)
/-- The factor that is 1 at x and 0 at k. -/
def bfac (p x k : Int) : List Int := [fmul p (fneg p k) (finv p (fsub p x k)), finv p (fsub p x k)]
def basis (p x : Int) : List Int → List Int → List Int
  | m, [] => m
  | m, k :: ks => basis p x (pmul p m (bfac p x k)) ks
/-- The basis polynomial of place i. -/
def base (p : Int) (xs : List Int) (i : Nat) : List Int := basis p (co xs i) [1] (xs.eraseIdx i)

theorem bfac_el {p : Int} (hp : 0 < p) (x k : Int) : El p (bfac p x k) := by
  intro z hz
  simp only [bfac, List.mem_cons, List.not_mem_nil, or_false] at hz
  rcases hz with rfl | rfl
  · exact fmul_bd p _ _ hp
  · exact fpow_bd p _ _ hp
theorem pev_bfac (p x k z : Int) : pev p (bfac p x k) z = fmul p (z - k) (finv p (fsub p x k)) := by
  show (fmul p (fneg p k) (finv p (fsub p x k)) + z * (finv p (fsub p x k) + z * 0)) % p = _
  unfold fmul fneg
  rw [Int.mul_zero, Int.add_zero, Int.emod_add_emod]
  generalize finv p (fsub p x k) = v
  have e1 : (-k % p * v + z * v) % p = (-k * v + z * v) % p := ma (mm (mdd p (-k)) rfl) rfl
  rw [e1, ← Int.add_mul]; congr 2; omega
theorem basis_snoc (p x : Int) : ∀ (ks m : List Int) (k : Int), basis p x m (ks ++ [k]) = pmul p (basis p x m ks) (bfac p x k)
  | [], _, _ => rfl
  | d :: ks, m, k => basis_snoc p x ks (pmul p m (bfac p x d)) k
theorem basis_el {p : Int} (hp : 0 < p) (x : Int) : ∀ (ks m : List Int), El p m → El p (basis p x m ks)
  | [], _, h => h
  | _ :: ks, _, _ => basis_el hp x ks _ (pmul_el hp _ _)
theorem basis_trim (p x : Int) : ∀ (ks m : List Int), trim m = m → trim (basis p x m ks) = basis p x m ks
  | [], _, h => h
  | _ :: ks, _, _ => basis_trim p x ks _ (pmul_trim _ _ _)
theorem basis_len (p x : Int) : ∀ (ks m : List Int), (basis p x m ks).length ≤ m.length + ks.length
  | [], _ => Nat.le_refl _
  | k :: ks, m => by
    have h1 := basis_len p x ks (pmul p m (bfac p x k))
    have h2 := pmul_len p m (bfac p x k)
    rw [show (bfac p x k).length = 2 from rfl] at h2
    show (basis p x (pmul p m (bfac p x k)) ks).length ≤ _
    rw [List.length_cons]; omega
/-- The value of a product of factors. -/
def fprod (p x z : Int) : Int → List Int → Int
  | v, [] => v
  | v, k :: ks => fprod p x z (fmul p v (fmul p (z - k) (finv p (fsub p x k)))) ks
theorem fprod_snoc (p x z : Int) : ∀ (ks : List Int) (v k : Int), fprod p x z v (ks ++ [k]) = fmul p (fprod p x z v ks) (fmul p (z - k) (finv p (fsub p x k)))
  | [], _, _ => rfl
  | _ :: ks, _, k => fprod_snoc p x z ks _ k
theorem pev_basis (p x z : Int) : ∀ (ks m : List Int), pev p (basis p x m ks) z = fprod p x z (pev p m z) ks
  | [], _ => rfl
  | k :: ks, m => by
    show pev p (basis p x (pmul p m (bfac p x k)) ks) z = fprod p x z (fmul p (pev p m z) (fmul p (z - k) (finv p (fsub p x k)))) ks
    rw [pev_basis p x z ks, pev_pmul, pev_bfac]
theorem fprod_zero {p x z : Int} : ∀ ks : List Int, fprod p x z 0 ks = 0
  | [] => rfl
  | k :: ks => by
    show fprod p x z (fmul p 0 _) ks = 0
    rw [show fmul p 0 (fmul p (z - k) (finv p (fsub p x k))) = 0 from by unfold fmul; rw [Int.zero_mul, Int.zero_emod]]
    exact fprod_zero ks
theorem fprod_hit {p x z : Int} : ∀ (ks : List Int) (v : Int), z ∈ ks → fprod p x z v ks = 0
  | k :: ks, v, h => by
    by_cases e : z = k
    · subst e
      show fprod p x z (fmul p v (fmul p (z - z) _)) ks = 0
      rw [show fmul p v (fmul p (z - z) (finv p (fsub p x z))) = 0 from by unfold fmul; rw [Int.sub_self, Int.zero_mul, Int.zero_emod, Int.mul_zero, Int.zero_emod]]
      exact fprod_zero ks
    · exact fprod_hit ks _ (by rcases List.mem_cons.1 h with h1 | h1; exact absurd h1 e; exact h1)
theorem fprod_self {p x : Int} (h : GoodI p) (hx : 0 ≤ x ∧ x < p) : ∀ (ks : List Int) (v : Int), 0 ≤ v ∧ v < p → El p ks → x ∉ ks → fprod p x x v ks = v
  | [], _, _, _, _ => rfl
  | k :: ks, v, hv, he, hk => by
    have hp := h.two
    have hkb := he k (by simp)
    have hne : x ≠ k := fun e => hk (by rw [e]; simp)
    have hs := fsub_bd p x k (by omega)
    have hs0 : fsub p x k ≠ 0 := fun e => by
      unfold fsub at e
      have hd := Int.dvd_of_emod_eq_zero e
      rcases (show x < k ∨ k < x by omega) with hlt | hlt
      · have := Int.le_of_dvd (show 0 < k - x by omega) ((Int.dvd_neg).1 (by rw [Int.neg_sub]; exact hd)); omega
      · have := Int.le_of_dvd (show 0 < x - k by omega) hd; omega
    have hi := h.inv (a := fsub p x k) (by omega) hs.2
    have e1 : fmul p (x - k) (finv p (fsub p x k)) = 1 := by
      rw [← hi]
      show fmul p (x - k) (fpow p (fsub p x k) (p - 2)) = _
      unfold fmul
      exact mm (by unfold fsub; rw [mdd]) rfl
    show fprod p x x (fmul p v (fmul p (x - k) (finv p (fsub p x k)))) ks = v
    rw [e1, fmul_one p v hv.1 hv.2]
    exact fprod_self h hx ks v hv (fun y hy => he y (by simp [hy])) (fun h => hk (by simp [h]))

theorem erase_not {xs : List Int} (hn : xs.Nodup) {i : Nat} (hi : i < xs.length) : co xs i ∉ xs.eraseIdx i := by
  rw [co_get hi]
  intro h
  obtain ⟨j, hj, hji, e⟩ := List.mem_eraseIdx_iff_getElem.1 h
  exact hji (nodup_inj hn hj hi e)
theorem erase_in {xs : List Int} {i j : Nat} (hj : j < xs.length) (hij : j ≠ i) : co xs j ∈ xs.eraseIdx i := by
  rw [co_get hj]
  exact List.mem_eraseIdx_iff_getElem.2 ⟨j, hj, hij, rfl⟩
theorem el_erase {p : Int} {xs : List Int} (h : El p xs) (i : Nat) : El p (xs.eraseIdx i) := fun x hx => h x (List.mem_of_mem_eraseIdx hx)

theorem base_el {p : Int} (hp : 1 < p) (xs : List Int) (i : Nat) : El p (base p xs i) := basis_el (by omega) _ _ _ (El.one hp)
theorem base_trim (p : Int) (xs : List Int) (i : Nat) : trim (base p xs i) = base p xs i := basis_trim _ _ _ _ rfl
theorem base_len (p : Int) (xs : List Int) {i : Nat} (hi : i < xs.length) : (base p xs i).length ≤ xs.length := by
  have h1 := basis_len p (co xs i) (xs.eraseIdx i) [1]
  rw [List.length_eraseIdx_of_lt hi] at h1
  unfold base
  simp only [List.length_singleton] at h1
  omega
theorem base_self {p : Int} (h : GoodI p) {xs : List Int} (hn : xs.Nodup) (hx : El p xs) {i : Nat} (hi : i < xs.length) : pev p (base p xs i) (co xs i) = 1 := by
  have hp := h.two
  unfold base
  rw [pev_basis, pev_one (by omega), fprod_self h (hx _ (co_mem hi)) _ 1 (by omega) (el_erase hx i) (erase_not hn hi)]
theorem base_other {p : Int} {xs : List Int} {i j : Nat} (hj : j < xs.length) (hij : j ≠ i) : pev p (base p xs i) (co xs j) = 0 := by
  unfold base
  rw [pev_basis, fprod_hit _ _ (erase_in hj hij)]

/-! ### Sums -/
def fsum (p : Int) (f : Nat → Int) : Nat → Int
  | 0 => 0
  | n + 1 => fadd p (fsum p f n) (f n)
theorem fsum_bd {p : Int} (hp : 0 < p) (f : Nat → Int) : ∀ n, 0 ≤ fsum p f n ∧ fsum p f n < p
  | 0 => ⟨Int.le_refl _, hp⟩
  | _ + 1 => fadd_bd p _ _ hp
theorem fsum_ext {p : Int} {f g : Nat → Int} : ∀ n, (∀ i, i < n → f i = g i) → fsum p f n = fsum p g n
  | 0, _ => rfl
  | n + 1, h => by
    show fadd p (fsum p f n) (f n) = fadd p (fsum p g n) (g n)
    rw [fsum_ext n (fun i hi => h i (by omega)), h n (by omega)]
theorem fsum_one {p : Int} (hp : 0 < p) {f : Nat → Int} {j : Nat} (hj : 0 ≤ f j ∧ f j < p) (h0 : ∀ i, i ≠ j → f i = 0) : ∀ n, fsum p f n = if j < n then f j else 0
  | 0 => rfl
  | n + 1 => by
    show fadd p (fsum p f n) (f n) = _
    rw [fsum_one hp hj h0 n]
    by_cases e : n = j
    · subst e
      rw [if_neg (by omega), if_pos (by omega)]
      unfold fadd; rw [Int.zero_add]; exact small hj.1 hj.2
    · rw [h0 n e]
      by_cases h : j < n
      · rw [if_pos h, if_pos (by omega)]; unfold fadd; rw [Int.add_zero]; exact small hj.1 hj.2
      · rw [if_neg h, if_neg (by omega)]; unfold fadd; rw [Int.add_zero, Int.zero_emod]

/-- The sum of the first k basis polynomials, each times its value. -/
def lag (p : Int) (xs ys : List Int) : Nat → List Int
  | 0 => []
  | k + 1 => padd p (lag p xs ys k) (pscl p (co ys k) (base p xs k))
theorem lag_el {p : Int} (hp : 0 < p) (xs ys : List Int) : ∀ k, El p (lag p xs ys k)
  | 0 => El.nil p
  | _ + 1 => padd_el hp _ _
theorem lag_trim (p : Int) (xs ys : List Int) : ∀ k, trim (lag p xs ys k) = lag p xs ys k
  | 0 => rfl
  | _ + 1 => padd_trim _ _ _
theorem lag_len (p : Int) (xs ys : List Int) : ∀ k, k ≤ xs.length → (lag p xs ys k).length ≤ xs.length
  | 0, _ => Nat.zero_le _
  | k + 1, h => by
    have h1 := lag_len p xs ys k (by omega)
    have h2 := padd_len p (lag p xs ys k) (pscl p (co ys k) (base p xs k))
    have h3 := pscl_len p (co ys k) (base p xs k)
    have h4 := base_len p xs (i := k) (by omega)
    show (padd p (lag p xs ys k) (pscl p (co ys k) (base p xs k))).length ≤ _
    omega
theorem pev_lag (p : Int) (xs ys : List Int) (z : Int) : ∀ k, pev p (lag p xs ys k) z = fsum p (fun i => fmul p (co ys i) (pev p (base p xs i) z)) k
  | 0 => pev_nil p z
  | k + 1 => by
    show pev p (padd p (lag p xs ys k) (pscl p (co ys k) (base p xs k))) z = fadd p (fsum p _ k) _
    rw [pev_padd, pev_pscl, pev_lag p xs ys z k]
theorem lag_itp {p : Int} (h : GoodI p) {xs ys : List Int} (hn : xs.Nodup) (hx : El p xs) (hy : El p ys) : Itp p xs ys (lag p xs ys xs.length) where
  ft := lag_trim _ _ _ _
  fe := lag_el (by have := h.two; omega) _ _ _
  fl := lag_len _ _ _ _ (Nat.le_refl _)
  at_ := fun j hj => by
    have hp := h.two
    rw [pev_lag]
    have hb := hy.co (show 0 < p by omega) j
    rw [fsum_ext (g := fun i => if i = j then co ys j else 0) xs.length (fun i hi => by
      by_cases e : i = j
      · subst e; rw [if_pos rfl, base_self h hn hx hi, fmul_one p _ hb.1 hb.2]
      · rw [if_neg e, base_other hj (fun h => e h.symm), fmul_zero])]
    rw [fsum_one (j := j) (by omega) (by rw [if_pos rfl]; exact hb) (fun i hi => if_neg hi), if_pos hj, if_pos rfl]

/-! ### Weights -/
/-- The weights at z. -/
def wts (p : Int) (xs : List Int) (z : Int) : List Int := (List.range xs.length).map fun i => pev p (base p xs i) z
theorem wts_len (p : Int) (xs : List Int) (z : Int) : (wts p xs z).length = xs.length := by unfold wts; simp
theorem co_wts (p : Int) (xs : List Int) (z : Int) {i : Nat} (hi : i < xs.length) : co (wts p xs z) i = pev p (base p xs i) z := by unfold wts; rw [co_map, if_pos hi]
theorem wts_el {p : Int} (hp : 0 < p) (xs : List Int) (z : Int) : El p (wts p xs z) := by
  intro x hx
  obtain ⟨i, _, rfl⟩ := List.mem_map.1 hx
  exact pev_bd hp _ _
/-- The weighted sum of the values of a polynomial is its value. -/
theorem wts_value {p : Int} (h : GoodI p) {xs f : List Int} (hn : xs.Nodup) (hx : El p xs) (hf : El p f) (hl : f.length ≤ xs.length) (z : Int) : fsum p (fun i => fmul p (co (wts p xs z) i) (pev p f (co xs i))) xs.length = pev p f z := by
  have hp := h.two
  have hy : El p (xs.map (pev p f)) := by
    intro y hy
    obtain ⟨x, _, rfl⟩ := List.mem_map.1 hy
    exact pev_bd (by omega) _ _
  have h1 := (lag_itp h hn hx hy).unique h hn hx (Itp.own hf hl)
  rw [← pev_trim p f z, ← h1, pev_lag]
  apply fsum_ext
  intro i hi
  have h2 : i < (xs.map (pev p f)).length := by rw [List.length_map]; exact hi
  rw [co_wts p xs z hi, fmul_comm, co_get h2, List.getElem_map, co_get hi]
theorem wts_one {p : Int} (h : GoodI p) {xs : List Int} (hn : xs.Nodup) (hx : El p xs) (h0 : 0 < xs.length) (z : Int) : fsum p (co (wts p xs z)) xs.length = 1 := by
  have hp := h.two
  have h1 := wts_value h hn hx (El.one (p := p) (by omega)) (by rw [List.length_singleton]; omega) z
  rw [pev_one (by omega)] at h1
  rw [← h1]
  apply fsum_ext
  intro i hi
  have hb := pev_bd (p := p) (by omega) (base p xs i) z
  rw [co_wts p xs z hi, pev_one (by omega), fmul_one p _ hb.1 hb.2]
/-- The weights are fixed by what they do. -/
theorem wts_unique {p : Int} (h : GoodI p) {xs ws : List Int} {z : Int} (hn : xs.Nodup) (hx : El p xs) (hw : El p ws) (hl : ws.length = xs.length)
    (he : ∀ f, El p f → f.length ≤ xs.length → fsum p (fun i => fmul p (co ws i) (pev p f (co xs i))) xs.length = pev p f z) : ws = wts p xs z := by
  have hp := h.two
  apply list_ext (by rw [hl, wts_len])
  intro j
  by_cases hj : j < xs.length
  · have h1 := he (base p xs j) (base_el (by omega) _ _) (base_len p xs hj)
    have hb := hw.co (show 0 < p by omega) j
    rw [fsum_ext (g := fun i => if i = j then co ws j else 0) xs.length (fun i hi => by
      by_cases e : i = j
      · subst e; rw [if_pos rfl, base_self h hn hx hi, fmul_one p _ hb.1 hb.2]
      · rw [if_neg e, base_other hi e, fmul_zero]),
      fsum_one (j := j) (by omega) (by rw [if_pos rfl]; exact hb) (fun i hi => if_neg hi), if_pos hj, if_pos rfl] at h1
    rw [co_wts p xs z hj, h1]
  · rw [co_fin ws j (by omega), co_fin (wts p xs z) j (by rw [wts_len]; omega)]

/-! ### Loops of the reference -/
/-- The factors that have come behind k rounds. -/
def oth (xs : List Int) (i k : Nat) : List Int := (xs.take k).eraseIdx i
theorem oth_zero (xs : List Int) (i : Nat) : oth xs i 0 = [] := rfl
theorem oth_all (xs : List Int) (i : Nat) : oth xs i xs.length = xs.eraseIdx i := by unfold oth; rw [List.take_length]
theorem oth_here {xs : List Int} {i : Nat} (hi : i < xs.length) : oth xs i (i + 1) = oth xs i i := by
  unfold oth
  have hl : (xs.take i).length = i := by rw [List.length_take]; omega
  rw [List.take_add_one, List.getElem?_eq_getElem hi, List.eraseIdx_append_of_length_le (by omega), hl, Nat.sub_self, List.eraseIdx_of_length_le (l := xs.take i) (by omega)]
  simp
theorem oth_next {xs : List Int} {i k : Nat} {x : Int} (hx : xs[k]? = some x) (hk : k ≠ i) : oth xs i (k + 1) = oth xs i k ++ [x] := by
  unfold oth
  have hlt := (List.getElem?_eq_some_iff.1 hx).1
  have hl : (xs.take k).length = k := by rw [List.length_take]; omega
  rw [List.take_add_one, hx]
  rcases (show k < i ∨ i < k by omega) with h | h
  · rw [List.eraseIdx_of_length_le (by simp; omega), List.eraseIdx_of_length_le (by omega)]; rfl
  · rw [List.eraseIdx_append_of_lt_length (by omega)]; rfl
/-- Whether all are different, by comparing each with those ahead of it. -/
theorem nodup_take {xs : List Int} {k : Nat} {x : Int} (hx : xs[k]? = some x) : (xs.take (k + 1)).Nodup ↔ (xs.take k).Nodup ∧ x ∉ xs.take k := by
  rw [List.take_add_one, hx]
  show (xs.take k ++ [x]).Nodup ↔ _
  rw [List.nodup_append]
  constructor
  · rintro ⟨h1, _, h3⟩
    exact ⟨h1, fun h => h3 x h x (by simp) rfl⟩
  · rintro ⟨h1, h2⟩
    refine ⟨h1, by simp, fun a ha b hb e => ?_⟩
    rw [List.mem_singleton] at hb
    exact h2 (by rw [← hb, ← e]; exact ha)

/-! ### Powers -/
def pows (p x : Int) (n : Nat) : List Int := (List.range n).map fun k : Nat => x ^ k % p
theorem pows_len (p x : Int) (n : Nat) : (pows p x n).length = n := by unfold pows; simp
theorem pows_sum (p x : Int) (f : List Int) : ∀ n, n ≤ f.length → fsum p (fun k => fmul p (co (pows p x f.length) k) (co f k)) n = evp x (co f) n % p
  | 0, _ => (Int.zero_emod p).symm
  | n + 1, h => by
    show fadd p (fsum p _ n) (fmul p (co (pows p x f.length) n) (co f n)) = _
    rw [pows_sum p x f n (by omega), show co (pows p x f.length) n = x ^ n % p from by unfold pows; rw [co_map, if_pos (by omega)], fmul_comm]
    exact evp_next p x (co f) n
theorem pows_value (p x : Int) (f : List Int) : fsum p (fun k => fmul p (co (pows p x f.length) k) (co f k)) f.length = pev p f x := by
  rw [pows_sum p x f f.length (Nat.le_refl _), pev_evp]
end PolyMath
