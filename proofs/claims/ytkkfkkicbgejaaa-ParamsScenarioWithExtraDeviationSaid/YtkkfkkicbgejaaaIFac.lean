/- No Go: products of differences; the basis polynomials as quotients of the product of all factors; points as pairs. No conditions. -/
import Derived.Test.YtkkfkkicbgejaaaIMath
namespace PolyMath
open FieldMath

/-- The factor x - c. -/
def lin (p c : Int) : List Int := [fneg p c, 1]
theorem pev_linN (p c z : Int) : pev p (lin p c) z = fsub p z c := by
  show (fneg p c + z * (1 + z * 0)) % p = _
  unfold fneg fsub
  rw [Int.mul_zero, Int.add_zero, Int.mul_one, Int.emod_add_emod]; congr 1; omega
theorem lin_el {p : Int} (hp : 1 < p) (c : Int) : El p (lin p c) := by
  intro z hz
  simp only [lin, List.mem_cons, List.not_mem_nil, or_false] at hz
  rcases hz with rfl | rfl
  · exact fneg_bd p _ (by omega)
  · omega
theorem lin_tn (p c : Int) : tn (lin p c) = 1 + 1 := by simp [lin, tn]
theorem lin_len (p c : Int) : (lin p c).length = 2 := rfl

/-- A product with factors x - c. -/
def van (p : Int) : List Int → List Int → List Int
  | m, [] => m
  | m, c :: cs => van p (pmul p m (lin p c)) cs
theorem van_snoc (p : Int) : ∀ (cs m : List Int) (c : Int), van p m (cs ++ [c]) = pmul p (van p m cs) (lin p c)
  | [], _, _ => rfl
  | d :: cs, m, c => van_snoc p cs (pmul p m (lin p d)) c
theorem van_el {p : Int} (hp : 0 < p) : ∀ (cs m : List Int), El p m → El p (van p m cs)
  | [], _, h => h
  | _ :: cs, _, _ => van_el hp cs _ (pmul_el hp _ _)
theorem van_trim (p : Int) : ∀ (cs m : List Int), trim m = m → trim (van p m cs) = van p m cs
  | [], _, h => h
  | _ :: cs, _, _ => van_trim p cs _ (pmul_trim _ _ _)
theorem van_len (p : Int) : ∀ (cs m : List Int), (van p m cs).length ≤ m.length + cs.length
  | [], _ => Nat.le_refl _
  | c :: cs, m => by
    have h1 := van_len p cs (pmul p m (lin p c))
    have h2 := pmul_len p m (lin p c)
    rw [lin_len] at h2
    show (van p (pmul p m (lin p c)) cs).length ≤ _
    rw [List.length_cons]; omega
theorem van_left (p : Int) (a : List Int) : ∀ (cs m : List Int), van p (pmul p a m) cs = pmul p a (van p m cs)
  | [], _ => rfl
  | c :: cs, m => by
    show van p (pmul p (pmul p a m) (lin p c)) cs = _
    rw [pmul_assoc, van_left p a cs]; rfl
theorem van_erase (p : Int) : ∀ (cs m : List Int) (i : Nat), i < cs.length → van p m cs = pmul p (van p m (cs.eraseIdx i)) (lin p (co cs i))
  | c :: cs, m, 0, _ => by
    show van p (pmul p m (lin p c)) cs = pmul p (van p m cs) (lin p c)
    rw [pmul_comm p m, van_left, pmul_comm]
  | c :: cs, m, i + 1, h => by
    show van p (pmul p m (lin p c)) cs = pmul p (van p (pmul p m (lin p c)) (cs.eraseIdx i)) (lin p (co cs i))
    exact van_erase p cs _ i (by simpa using h)

/-- A product of differences z - k. -/
def gpr (p z : Int) : Int → List Int → Int
  | v, [] => v
  | v, k :: ks => gpr p z (fmul p v (fsub p z k)) ks
theorem gpr_snoc (p z : Int) : ∀ (ks : List Int) (v k : Int), gpr p z v (ks ++ [k]) = fmul p (gpr p z v ks) (fsub p z k)
  | [], _, _ => rfl
  | _ :: ks, _, k => gpr_snoc p z ks _ k
theorem gpr_bd {p : Int} (hp : 0 < p) (z : Int) : ∀ (ks : List Int) (v : Int), 0 ≤ v ∧ v < p → 0 ≤ gpr p z v ks ∧ gpr p z v ks < p
  | [], _, h => h
  | _ :: ks, _, _ => gpr_bd hp z ks _ (fmul_bd p _ _ hp)
theorem pev_van (p z : Int) : ∀ (ks m : List Int), pev p (van p m ks) z = gpr p z (pev p m z) ks
  | [], _ => rfl
  | k :: ks, m => by
    show pev p (van p (pmul p m (lin p k)) ks) z = gpr p z (fmul p (pev p m z) (fsub p z k)) ks
    rw [pev_van p z ks, pev_pmul, pev_linN]
theorem gpr_null (p z : Int) : ∀ ks : List Int, gpr p z 0 ks = 0
  | [] => rfl
  | k :: ks => by
    show gpr p z (fmul p 0 _) ks = 0
    rw [show fmul p 0 (fsub p z k) = 0 from by unfold fmul; rw [Int.zero_mul, Int.zero_emod]]
    exact gpr_null p z ks
theorem gpr_hit (p z : Int) : ∀ (ks : List Int) (v : Int), z ∈ ks → gpr p z v ks = 0
  | k :: ks, v, h => by
    by_cases e : z = k
    · subst e
      show gpr p z (fmul p v (fsub p z z)) ks = 0
      rw [show fsub p z z = 0 from by unfold fsub; rw [Int.sub_self, Int.zero_emod], fmul_zero]
      exact gpr_null p z ks
    · exact gpr_hit p z ks _ (by rcases List.mem_cons.1 h with h | h; exact absurd h e; exact h)
theorem fsub_pos {p z k : Int} (hz : 0 ≤ z ∧ z < p) (hk : 0 ≤ k ∧ k < p) (e : z ≠ k) : 0 < fsub p z k := by
  have h0 := fsub_bd p z k (by omega)
  rcases Int.lt_or_eq_of_le h0.1 with h | h
  · exact h
  · exfalso
    unfold fsub at h
    have h1 : (z - k) % p = 0 := h.symm
    obtain ⟨t, ht⟩ := Int.dvd_of_emod_eq_zero h1
    have h2 : t = 0 := by
      rcases (show t ≤ -1 ∨ t = 0 ∨ 1 ≤ t by omega) with h3 | h3 | h3
      · have := Int.mul_le_mul_of_nonneg_left h3 (show 0 ≤ p by omega); omega
      · exact h3
      · have := Int.mul_le_mul_of_nonneg_left h3 (show 0 ≤ p by omega); omega
    subst h2; omega
theorem gpr_pos {p z : Int} (h : GoodI p) (hz : 0 ≤ z ∧ z < p) : ∀ (ks : List Int) (v : Int), 0 < v ∧ v < p → El p ks → z ∉ ks → 0 < gpr p z v ks
  | [], _, hv, _, _ => hv.1
  | k :: ks, v, hv, he, hk => by
    have hp := h.two
    have hs := fsub_bd p z k (by omega)
    have h0 := fsub_pos hz (he k (by simp)) (fun e => hk (by rw [e]; simp))
    exact gpr_pos h hz ks _ ⟨h.fmul_ne hv.1 hv.2 h0 hs.2, (fmul_bd p _ _ (by omega)).2⟩ (fun x hx => he x (by simp [hx])) (fun hx => hk (by simp [hx]))

/-- The constant of place i. -/
def scl (p : Int) (xs : List Int) (i : Nat) : Int := finv p (gpr p (co xs i) 1 (xs.eraseIdx i))
def scls (p : Int) (xs : List Int) : List Int := (List.range xs.length).map (scl p xs)
theorem scl_bd {p : Int} (hp : 0 < p) (xs : List Int) (i : Nat) : 0 ≤ scl p xs i ∧ scl p xs i < p := fpow_bd p _ _ hp
theorem scls_len (p : Int) (xs : List Int) : (scls p xs).length = xs.length := by unfold scls; simp
theorem scls_get (p : Int) {xs : List Int} {i : Nat} (h : i < xs.length) : (scls p xs)[i]? = some (scl p xs i) := by unfold scls; simp [h]

theorem base_van {p : Int} (h : GoodI p) {xs : List Int} (hn : xs.Nodup) (hx : El p xs) {i : Nat} (hi : i < xs.length) : base p xs i = pscl p (scl p xs i) (van p [1] (xs.eraseIdx i)) := by
  have hp := h.two
  have h1 : Itp p xs ((List.range xs.length).map fun j => if j = i then 1 else 0) (base p xs i) := ⟨base_trim _ _ _, base_el (by omega) _ _, base_len p xs hi, fun j hj => by
    rw [co_map, if_pos hj]
    by_cases e : j = i
    · subst e; rw [if_pos rfl, base_self h hn hx hi]
    · rw [if_neg e, base_other hj e]⟩
  refine h1.unique h hn hx ⟨pscl_trim _ _ _, pscl_el (by omega) _ _, ?_, fun j hj => ?_⟩
  · have h2 := pscl_len p (scl p xs i) (van p [1] (xs.eraseIdx i))
    have h3 := van_len p (xs.eraseIdx i) [1]
    rw [List.length_eraseIdx_of_lt hi, List.length_singleton] at h3
    omega
  · rw [pev_pscl, pev_van, pev_one (by omega), co_map, if_pos hj]
    by_cases e : j = i
    · subst e
      rw [if_pos rfl, fmul_comm]
      exact h.inv (gpr_pos h (hx _ (co_mem hi)) _ _ (by omega) (el_erase hx _) (erase_not hn hi)) (gpr_bd (by omega) _ _ _ (by omega)).2
    · rw [if_neg e, gpr_hit p _ _ _ (erase_in hj e), fmul_zero]
theorem pscl_pscl (p y s : Int) (a : List Int) : pscl p (fmul p y s) a = pscl p y (pscl p s a) :=
  same_of (pscl_trim _ _ _) (pscl_trim _ _ _) fun n => by
    rw [co_pscl, co_pscl, co_pscl]; unfold fmul
    rw [mm (mdd p (y * s)) rfl, mm (a := y) rfl (mdd p (s * co a n)), Int.mul_assoc]
/-- What the quotient is. -/
theorem van_quot {p : Int} (h : GoodI p) {xs : List Int} {i : Nat} (hi : i < xs.length) {q r : List Int} (hd : DM p (van p [1] xs) (lin p (co xs i)) q r) : q = van p [1] (xs.eraseIdx i) := by
  have hp := h.two
  have hv := van_el (p := p) (by omega) (xs.eraseIdx i) [1] (El.one (by omega))
  have h1 := DM.make (q := van p [1] (xs.eraseIdx i)) (b := lin p (co xs i)) (r := []) hv (El.nil p) (by rw [lin_tn]; exact Nat.zero_lt_succ _)
  have e : padd p (pmul p (van p [1] (xs.eraseIdx i)) (lin p (co xs i))) [] = van p [1] xs := by
    rw [← van_erase p xs [1] i hi]
    refine same_of (padd_trim _ _ _) (van_trim _ _ _ rfl) fun n => ?_
    rw [co_padd, co_nil, Int.add_zero, (van_el (p := p) (by omega) xs [1] (El.one (by omega))).cm (by omega)]
  rw [e, van_trim _ _ _ rfl] at h1
  exact (hd.unique h (lin_el (by omega) _) h1).1
/-- A summand of the sum over the points. -/
theorem term_eq {p : Int} (h : GoodI p) {xs : List Int} (hn : xs.Nodup) (hx : El p xs) {i : Nat} (hi : i < xs.length) {q r : List Int} (hd : DM p (van p [1] xs) (lin p (co xs i)) q r) (y : Int) : pscl p (fmul p y (scl p xs i)) q = pscl p y (base p xs i) := by
  rw [van_quot h hi hd, pscl_pscl, base_van h hn hx hi]
theorem wt_eq {p : Int} (h : GoodI p) {xs : List Int} (hn : xs.Nodup) (hx : El p xs) {i : Nat} (hi : i < xs.length) (z : Int) : fmul p (scl p xs i) (gpr p z 1 (xs.eraseIdx i)) = pev p (base p xs i) z := by
  have hp := h.two
  rw [base_van h hn hx hi, pev_pscl, pev_van, pev_one (by omega)]
theorem nodup_of {xs : List Int} (h : ∀ i, i < xs.length → co xs i ∉ xs.eraseIdx i) : xs.Nodup := by
  refine List.pairwise_iff_getElem.2 fun i j hi hj hij e => ?_
  refine h i hi ?_
  rw [co_get hi, e]
  exact List.mem_eraseIdx_iff_getElem.2 ⟨j, hj, by omega, rfl⟩

/-- The entries made so far. -/
def fillL (f : Nat → Int) (N k : Nat) : List Int := (List.range N).map fun n => if n < k then f n else 0
theorem fillL_len (f : Nat → Int) (N k : Nat) : (fillL f N k).length = N := by unfold fillL; simp
theorem fillL_start (f : Nat → Int) (N : Nat) : fillL f N 0 = List.replicate N 0 := by
  rw [← map_zero 1]; exact map_ext fun n _ => by rw [if_neg (by omega), Int.zero_emod]
theorem fillL_get (f : Nat → Int) (N k n : Nat) (h : n < N) : (fillL f N k)[n]? = some (if n < k then f n else 0) := map_get (fun n => if n < k then f n else 0) h
theorem fillL_set (f : Nat → Int) (N k : Nat) : (fillL f N k).set k (f k) = fillL f N (k + 1) :=
  map_set N k (by rw [if_pos (by omega)]) fun n hn => by
    by_cases h : n < k
    · rw [if_pos h, if_pos (by omega)]
    · rw [if_neg h, if_neg (by omega)]
theorem fillL_done (f : Nat → Int) (N : Nat) : fillL f N N = (List.range N).map f := map_ext fun n hn => by rw [if_pos hn]
/-- Entries that are replaced one by one. -/
def mixL (f g : Nat → Int) (N k : Nat) : List Int := (List.range N).map fun n => if n < k then f n else g n
theorem mixL_len (f g : Nat → Int) (N k : Nat) : (mixL f g N k).length = N := by unfold mixL; simp
theorem mixL_start (f g : Nat → Int) (N : Nat) : mixL f g N 0 = (List.range N).map g := map_ext fun n _ => by rw [if_neg (by omega)]
theorem mixL_get (f g : Nat → Int) (N k n : Nat) (h : n < N) : (mixL f g N k)[n]? = some (if n < k then f n else g n) := map_get (fun n => if n < k then f n else g n) h
theorem mixL_set (f g : Nat → Int) (N k : Nat) : (mixL f g N k).set k (f k) = mixL f g N (k + 1) :=
  map_set N k (by rw [if_pos (by omega)]) fun n hn => by
    by_cases h : n < k
    · rw [if_pos h, if_pos (by omega)]
    · rw [if_neg h, if_neg (by omega)]
theorem mixL_done (f g : Nat → Int) (N : Nat) : mixL f g N N = (List.range N).map f := map_ext fun n hn => by rw [if_pos hn]
theorem range_co (xs : List Int) : (List.range xs.length).map (co xs) = xs := list_ext (by simp) fun i => by
  rw [co_map]
  by_cases h : i < xs.length
  · rw [if_pos h]
  · rw [if_neg h, co_fin xs i (by omega)]

/-! ### Points -/
def px (ps : List (Int × Int)) : List Int := ps.map Prod.fst
def py (ps : List (Int × Int)) : List Int := ps.map Prod.snd
theorem px_len (ps : List (Int × Int)) : (px ps).length = ps.length := by unfold px; simp
theorem py_len (ps : List (Int × Int)) : (py ps).length = ps.length := by unfold py; simp
theorem px_at {ps : List (Int × Int)} {i : Nat} {x y : Int} (h : ps[i]? = some (x, y)) : co (px ps) i = x := co_at (by unfold px; rw [List.getElem?_map, h]; rfl)
theorem py_at {ps : List (Int × Int)} {i : Nat} {x y : Int} (h : ps[i]? = some (x, y)) : co (py ps) i = y := co_at (by unfold py; rw [List.getElem?_map, h]; rfl)
theorem px_get {ps : List (Int × Int)} {i : Nat} {x y : Int} (h : ps[i]? = some (x, y)) : (px ps)[i]? = some x := by unfold px; rw [List.getElem?_map, h]; rfl
theorem px_zip {xs : List Int} {f : Int → Int} : px (xs.map fun x => (x, f x)) = xs := by unfold px; rw [List.map_map]; exact List.map_id' xs
theorem py_zip {xs : List Int} {f : Int → Int} : py (xs.map fun x => (x, f x)) = xs.map f := by unfold py; rw [List.map_map]; rfl
theorem px_snoc (ps : List (Int × Int)) (x y : Int) : px (ps ++ [(x, y)]) = px ps ++ [x] := by unfold px; simp
theorem py_snoc (ps : List (Int × Int)) (x y : Int) : py (ps ++ [(x, y)]) = py ps ++ [y] := by unfold py; simp
/-- The polynomial through the points. -/
def thru (p : Int) (ps : List (Int × Int)) : List Int := lag p (px ps) (py ps) ps.length
theorem thru_itp {p : Int} (h : GoodI p) {ps : List (Int × Int)} (hn : (px ps).Nodup) (hx : El p (px ps)) (hy : El p (py ps)) : Itp p (px ps) (py ps) (thru p ps) := by
  unfold thru; rw [← px_len]; exact lag_itp h hn hx hy
end PolyMath
