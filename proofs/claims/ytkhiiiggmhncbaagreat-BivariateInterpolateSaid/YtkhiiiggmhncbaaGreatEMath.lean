/- Symmetric bivariate polynomials, with no Go in sight: columns, the row at a point, values, exchange of the two variables, matrices that rows fit, rows that agree, translations by a polynomial that vanishes at some points. Conditions: p one of the primes, square matrices of its field, distinct points, as said. -/
import Derived.Test.YtkhiiiggmhncbaaGreatMA
import Derived.Test.YtkhiiiggmhncbaaGreatMD
namespace MatMath
open FieldMath PolyMath

/-- A column. -/
def colm (S : List (List Int)) (j : Nat) : List Int := (List.range S.length).map fun i => mx S i j
theorem colm_len (S : List (List Int)) (j : Nat) : (colm S j).length = S.length := by unfold colm; simp
theorem mx_fin (S : List (List Int)) {i : Nat} (h : S.length ≤ i) (j : Nat) : mx S i j = 0 := by unfold mx; rw [List.getElem?_eq_none h]; rfl
theorem co_colm (S : List (List Int)) (j i : Nat) : co (colm S j) i = mx S i j := by
  unfold colm
  rw [co_map]
  by_cases h : i < S.length
  · rw [if_pos h]
  · rw [if_neg h, mx_fin S (by omega)]
/-- The row at x. -/
def brow (p : Int) (S : List (List Int)) (x : Int) : List Int := (List.range S.length).map fun j => pev p (colm S j) x
theorem brow_len (p : Int) (S : List (List Int)) (x : Int) : (brow p S x).length = S.length := by unfold brow; simp
theorem co_brow (p : Int) (S : List (List Int)) (x : Int) {j : Nat} (h : j < S.length) : co (brow p S x) j = pev p (colm S j) x := by unfold brow; rw [co_map, if_pos h]
/-- The values of all rows at y. -/
def bcol (p : Int) (S : List (List Int)) (y : Int) : List Int := (List.range S.length).map fun j => pev p (ro S j) y
theorem bcol_len (p : Int) (S : List (List Int)) (x : Int) : (bcol p S x).length = S.length := by unfold bcol; simp
theorem co_bcol (p : Int) (S : List (List Int)) (x : Int) {j : Nat} (h : j < S.length) : co (bcol p S x) j = pev p (ro S j) x := by unfold bcol; rw [co_map, if_pos h]
theorem mem_range_map {α : Type} {f : Nat → α} {N : Nat} {x : α} (h : x ∈ (List.range N).map f) : ∃ i, i < N ∧ x = f i := by
  obtain ⟨i, hi, rfl⟩ := List.mem_map.1 h
  exact ⟨i, List.mem_range.1 hi, rfl⟩
theorem brow_el {p : Int} (hp : 0 < p) (S : List (List Int)) (x : Int) : El p (brow p S x) := fun z hz => by
  obtain ⟨i, _, rfl⟩ := mem_range_map hz
  exact pev_bd hp _ _
theorem bcol_el {p : Int} (hp : 0 < p) (S : List (List Int)) (x : Int) : El p (bcol p S x) := fun z hz => by
  obtain ⟨i, _, rfl⟩ := mem_range_map hz
  exact pev_bd hp _ _
theorem Mat.colm_el {p : Int} {N L : Nat} {S : List (List Int)} (h : Mat p N L S) (hp : 0 < p) (j : Nat) : El p (colm S j) := fun z hz => by
  obtain ⟨i, _, rfl⟩ := mem_range_map hz
  exact h.bd hp _ _

theorem evf_same (x : Int) : ∀ (N : Nat) {f g : Nat → Int}, (∀ i, i < N → f i = g i) → evf x N f = evf x N g
  | 0, _, _, _ => rfl
  | N + 1, f, g, h => by rw [evf_succ, evf_succ, h 0 (by omega), evf_same x N (f := fun i => f (i + 1)) (g := fun i => g (i + 1)) fun i hi => h (i + 1) (by omega)]
theorem evf_modN {p : Int} (x : Int) : ∀ (N : Nat) {f g : Nat → Int}, (∀ i, i < N → f i % p = g i % p) → evf x N f % p = evf x N g % p
  | 0, _, _, _ => rfl
  | N + 1, f, g, h => by rw [evf_succ, evf_succ]; exact ma (h 0 (by omega)) (mm rfl (evf_modN x N (f := fun i => f (i + 1)) (g := fun i => g (i + 1)) fun i hi => h (i + 1) (by omega)))
/-- The two variables may be exchanged. -/
theorem evf_comm (x y : Int) (n : Nat) : ∀ (m : Nat) (F : Nat → Nat → Int), evf y m (fun j => evf x n fun i => F i j) = evf x n (fun i => evf y m fun j => F i j)
  | 0, _ => (evf_null x n).symm
  | m + 1, F => by
    rw [evf_succ, evf_comm x y n m (fun i j => F i (j + 1)), ← evf_mul, ← evf_add]
    rfl
theorem pev_evf (p : Int) (a : List Int) (x : Int) {n : Nat} (h : a.length ≤ n) : pev p a x = evf x n (co a) % p := by unfold pev; rw [evf_to (co_fin a) h]
theorem pev_congr (p : Int) {a b : List Int} (h : ∀ i, co a i % p = co b i % p) (x : Int) : pev p a x = pev p b x := by
  rw [pev_evf p a x (Nat.le_max_left a.length b.length), pev_evf p b x (Nat.le_max_right a.length b.length)]
  exact evf_mod x _ h
theorem pev_at0 {p : Int} (a : List Int) : pev p a 0 = co a 0 % p := by
  rw [pev_evf p a 0 (Nat.le_succ a.length), evf_succ, Int.zero_mul, Int.add_zero]

/-- S(x, y), as a polynomial in either variable. -/
theorem bev_swap {p : Int} {S : List (List Int)} {n : Nat} (h : Mat p n n S) (x y : Int) : pev p (brow p S x) y = pev p (bcol p S y) x := by
  have hl := h.rows
  rw [pev_evf p (brow p S x) y (n := n) (by rw [brow_len]; omega), pev_evf p (bcol p S y) x (n := n) (by rw [bcol_len]; omega)]
  have e1 : evf y n (co (brow p S x)) % p = evf y n (fun j => evf x n fun i => mx S i j) % p := evf_modN y n fun j hj => by
    rw [co_brow p S x (by omega), pev_evf p (colm S j) x (n := n) (by rw [colm_len]; omega), mdd]
    exact congrArg (· % p) (evf_same x n fun i _ => co_colm S j i)
  have e2 : evf x n (co (bcol p S y)) % p = evf x n (fun i => evf y n fun j => mx S i j) % p := evf_modN x n fun i hi => by
    rw [co_bcol p S y (by omega), pev_evf p (ro S i) y (n := n) (by rw [(h.ro hi).1]; omega), mdd]
    exact congrArg (· % p) (evf_same y n fun j _ => rfl)
  rw [e1, e2, evf_comm]

/-- Symmetric. -/
def Sym (S : List (List Int)) : Prop := ∀ i, i < S.length → ∀ j, j < i → mx S i j = mx S j i
instance (S : List (List Int)) : Decidable (Sym S) := by unfold Sym; infer_instance
theorem Sym.at_ {S : List (List Int)} (h : Sym S) {i j : Nat} (hi : i < S.length) (hj : j < S.length) : mx S i j = mx S j i := by
  rcases Nat.lt_trichotomy i j with e | e | e
  · exact (h j hj i e).symm
  · rw [e]
  · exact h i hi j e
theorem sym_iff {p : Int} {n : Nat} {S : List (List Int)} (h : Mat p n n S) : Sym S ↔ ∀ j, j < n → ro S j = colm S j := by
  have hl := h.rows
  constructor
  · intro hs j hj
    refine list_ext (by rw [colm_len, (h.ro hj).1, hl]) fun i => ?_
    rw [co_colm, ← mx_ro]
    by_cases hi : i < n
    · exact hs.at_ (by omega) (by omega)
    · rw [mx_fin S (i := i) (by omega), mx_ro]
      exact co_fin _ i (by rw [(h.ro hj).1]; omega)
  · intro hc i hi j hji
    have := hc i (by omega)
    rw [mx_ro, this, co_colm]
theorem Sym.row {p : Int} {n : Nat} {S : List (List Int)} (h : Mat p n n S) (hs : Sym S) (x : Int) : brow p S x = bcol p S x := by
  have hl := h.rows
  unfold brow bcol
  refine List.map_congr_left fun j hj => ?_
  rw [(sym_iff h).1 hs j (by have := List.mem_range.1 hj; omega)]
theorem Sym.swap {p : Int} {n : Nat} {S : List (List Int)} (h : Mat p n n S) (hs : Sym S) (x y : Int) : pev p (brow p S x) y = pev p (brow p S y) x := by
  rw [bev_swap h, ← hs.row h]

/-- Polynomials that agree at as many points as they have coefficients. -/
theorem same_all {p : Int} (hg : GoodI p) {xs a b : List Int} (hn : xs.Nodup) (hx : El p xs) (ha : El p a) (hb : El p b) (la : a.length ≤ xs.length) (lb : b.length ≤ xs.length) (he : ∀ i, i < xs.length → pev p a (co xs i) = pev p b (co xs i)) (i : Nat) : co a i = co b i := by
  have h := agree hg hn hx ha.trim hb.trim (trim_trim a) (trim_trim b) (by rw [trim_length]; have := tn_le a; omega) (by rw [trim_length]; have := tn_le b; omega) fun x hxm => by
    obtain ⟨k, hk, rfl⟩ := mem_co hxm
    rw [pev_trim, pev_trim]
    exact he k hk
  rw [← co_trim a, ← co_trim b, h]

/-- The columns (as rows) of a matrix whose rows at the points are the given ones. -/
structure FitC (p : Int) (xs : List Int) (rows : List (List Int)) (n : Nat) (C : List (List Int)) : Prop where
  mat : Mat p n n C
  at_ : ∀ j, j < n → ∀ i, i < n → pev p (ro C j) (co xs i) = mx rows i j
theorem FitC.unique {p : Int} (hg : GoodI p) {xs : List Int} {rows C D : List (List Int)} {n : Nat} (hn : xs.Nodup) (hx : El p xs) (hl : xs.length = n) (h1 : FitC p xs rows n C) (h2 : FitC p xs rows n D) : C = D := by
  refine rows_ext (by rw [h1.mat.rows, h2.mat.rows]) fun j hj => ?_
  have hj' : j < n := by rw [h1.mat.rows] at hj; exact hj
  have r1 := h1.mat.ro hj'
  have r2 := h2.mat.ro hj'
  exact list_ext (by rw [r1.1, r2.1]) (same_all hg hn hx r1.2 r2.2 (by omega) (by omega) fun i hi => by rw [h1.at_ j hj' i (by omega), h2.at_ j hj' i (by omega)])
theorem FitC.row {p : Int} {xs : List Int} {rows C : List (List Int)} {n : Nat} (h : FitC p xs rows n C) {i : Nat} (hi : i < n) (hr : (ro rows i).length = n) : bcol p C (co xs i) = ro rows i := by
  have hl := h.mat.rows
  refine list_ext (by rw [bcol_len, hl, hr]) fun j => ?_
  by_cases hj : j < n
  · rw [co_bcol p C _ (by omega), h.at_ j hj i hi, mx_ro]
  · rw [co_fin _ j (by rw [bcol_len]; omega), co_fin _ j (by omega)]
/-- Padded with zeros. -/
def padL (n : Nat) (f : List Int) : List Int := (List.range n).map fun k => co f k
theorem padL_len (n : Nat) (f : List Int) : (padL n f).length = n := by unfold padL; simp
theorem co_padL {n : Nat} {f : List Int} (h : f.length ≤ n) (k : Nat) : co (padL n f) k = co f k := by
  unfold padL
  rw [co_map]
  by_cases hk : k < n
  · rw [if_pos hk]
  · rw [if_neg hk, co_fin f k (by omega)]
theorem padL_el {p : Int} (hp : 0 < p) {n : Nat} {f : List Int} (h : El p f) : El p (padL n f) := fun z hz => by
  obtain ⟨i, _, rfl⟩ := mem_range_map hz
  exact h.co hp i
/-- The points of column j. -/
def cpts (xs : List Int) (rows : List (List Int)) (n j : Nat) : List (Int × Int) := (List.range n).map fun i => (co xs i, mx rows i j)
theorem cpts_len (xs : List Int) (rows : List (List Int)) (n j : Nat) : (cpts xs rows n j).length = n := by unfold cpts; simp
theorem px_cpts (xs : List Int) (rows : List (List Int)) (n j : Nat) : px (cpts xs rows n j) = (List.range n).map fun i => co xs i := by unfold px cpts; rw [List.map_map]; rfl
theorem py_cpts (xs : List Int) (rows : List (List Int)) (n j : Nat) : py (cpts xs rows n j) = (List.range n).map fun i => mx rows i j := by unfold py cpts; rw [List.map_map]; rfl
theorem range_co (xs : List Int) {n : Nat} (h : n ≤ xs.length) : ((List.range n).map fun i => co xs i) = xs.take n := by
  refine list_ext (by rw [List.length_map, List.length_range, List.length_take]; omega) fun i => ?_
  rw [co_map]
  by_cases hi : i < n
  · rw [if_pos hi]; unfold co; rw [List.getElem?_take, if_pos hi]
  · rw [if_neg hi, co_fin _ i (by rw [List.length_take]; omega)]
/-- What the code finds: each column by interpolation. -/
def fitL (p : Int) (xs : List Int) (rows : List (List Int)) (n : Nat) : List (List Int) := (List.range n).map fun j => padL n (thru p (cpts xs rows n j))
theorem fitL_len (p : Int) (xs : List Int) (rows : List (List Int)) (n : Nat) : (fitL p xs rows n).length = n := by unfold fitL; simp
theorem fitL_ro (p : Int) (xs : List Int) (rows : List (List Int)) {n j : Nat} (h : j < n) : ro (fitL p xs rows n) j = padL n (thru p (cpts xs rows n j)) := ro_map _ h
theorem fitL_fit {p : Int} (hg : GoodI p) {xs : List Int} {rows : List (List Int)} {n : Nat} (hn : xs.Nodup) (hx : El p xs) (hl : xs.length = n) (hr : ∀ i j, 0 ≤ mx rows i j ∧ mx rows i j < p) : FitC p xs rows n (fitL p xs rows n) := by
  have hp : 0 < p := by have := hg.two; omega
  have key : ∀ j, Itp p xs ((List.range n).map fun i => mx rows i j) (thru p (cpts xs rows n j)) := fun j => by
    have e : px (cpts xs rows n j) = xs := by rw [px_cpts, range_co xs (by omega), List.take_of_length_le (by omega)]
    have := thru_itp hg (ps := cpts xs rows n j) (by rw [e]; exact hn) (by rw [e]; exact hx) (by rw [py_cpts]; intro z hz; obtain ⟨i, _, rfl⟩ := mem_range_map hz; exact hr _ _)
    rw [e, py_cpts] at this
    exact this
  refine ⟨.of (fitL_len _ _ _ _) fun j hj => ?_, fun j hj i hi => ?_⟩
  · rw [fitL_ro p xs rows hj]
    exact ⟨padL_len _ _, padL_el hp (key j).fe⟩
  · rw [fitL_ro p xs rows hj, pev_ext p (co_padL (by have := (key j).fl; omega)), (key j).at_ i (by omega), co_map, if_pos hi]

/-- All rows agree pairwise. -/
def Agr (p : Int) (xs : List Int) (rows : List (List Int)) (m : Nat) : Prop := ∀ i, i < m → ∀ k, k < i → pev p (ro rows i) (co xs k) = pev p (ro rows k) (co xs i)
instance (p : Int) (xs : List Int) (rows : List (List Int)) (m : Nat) : Decidable (Agr p xs rows m) := by unfold Agr; infer_instance
theorem Agr.at_ {p : Int} {xs : List Int} {rows : List (List Int)} {m : Nat} (h : Agr p xs rows m) {i k : Nat} (hi : i < m) (hk : k < m) : pev p (ro rows i) (co xs k) = pev p (ro rows k) (co xs i) := by
  rcases Nat.lt_trichotomy i k with e | e | e
  · exact (h k hk i e).symm
  · rw [e]
  · exact h i hi k e
/-- The matrix is symmetric and all rows fit it. -/
def Fits (p : Int) (xs : List Int) (rows : List (List Int)) (n m : Nat) (C : List (List Int)) : Prop := Sym C ∧ ∀ i, n ≤ i → i < m → brow p C (co xs i) = ro rows i
theorem Fits.all {p : Int} {xs : List Int} {rows C : List (List Int)} {n m : Nat} (hF : FitC p (xs.take n) rows n C) (hr : ∀ i, i < n → (ro rows i).length = n) (h : Fits p xs rows n m C) (i : Nat) (hi : i < m) : brow p C (co xs i) = ro rows i := by
  by_cases e : n ≤ i
  · exact h.2 i e hi
  · have hin : i < n := by omega
    have := hF.row hin (hr i hin)
    rw [h.1.row hF.mat, ← this]
    unfold co
    rw [List.getElem?_take, if_pos hin]
theorem fits_agree {p : Int} (hg : GoodI p) {xs : List Int} {rows C : List (List Int)} {n m : Nat} (hnm : n ≤ m) (hm : xs.length = m) (hn : xs.Nodup) (hx : El p xs) (hF : FitC p (xs.take n) rows n C) (hr : ∀ i, i < m → (ro rows i).length = n ∧ El p (ro rows i)) :
    Fits p xs rows n m C ↔ Agr p xs rows m := by
  have hp : 0 < p := by have := hg.two; omega
  have hcl := hF.mat.rows
  have hnt : (xs.take n).Nodup := hn.sublist (List.take_sublist n xs)
  have hxt : El p (xs.take n) := fun z hz => hx z (List.mem_of_mem_take hz)
  have hlt : (xs.take n).length = n := by rw [List.length_take]; omega
  have hct : ∀ i, i < n → co (xs.take n) i = co xs i := fun i hi => by unfold co; rw [List.getElem?_take, if_pos hi]
  constructor
  · intro h i hi k hk
    rw [← h.all hF (fun i hi => (hr i (by omega)).1) i hi, ← h.all hF (fun i hi => (hr i (by omega)).1) k (by omega)]
    exact h.1.swap hF.mat _ _
  · intro h
    have hrow : ∀ i, i < n → bcol p C (co xs i) = ro rows i := fun i hi => by rw [← hct i hi]; exact hF.row hi (hr i (by omega)).1
    have hs : Sym C := by
      have h1 : ∀ i, i < n → ∀ j, co (bcol p C (co xs i)) j = co (brow p C (co xs i)) j := fun i hi =>
        same_all hg hnt hxt (bcol_el hp _ _) (brow_el hp _ _) (by rw [bcol_len]; omega) (by rw [brow_len]; omega) fun k hk => by
          have hk' : k < n := by omega
          rw [hct k hk', hrow i hi, h.at_ (i := i) (k := k) (by omega) (by omega), ← hrow k hk', ← bev_swap hF.mat]
      refine (sym_iff hF.mat).2 fun j hj => ?_
      refine list_ext (by rw [colm_len, (hF.mat.ro hj).1, hcl]) (same_all hg hnt hxt (hF.mat.ro hj).2 (hF.mat.colm_el hp j) (by rw [(hF.mat.ro hj).1]; omega) (by rw [colm_len]; omega) fun i hi => ?_)
      have hi' : i < n := by omega
      have := h1 i hi' j
      rw [co_bcol p C _ (by omega), co_brow p C _ (by omega)] at this
      rw [hct i hi']
      exact this
    refine ⟨hs, fun i hi hm' => ?_⟩
    refine list_ext (by rw [brow_len, (hr i hm').1, hcl]) (same_all hg hnt hxt (brow_el hp _ _) (hr i hm').2 (by rw [brow_len]; omega) (by rw [(hr i hm').1]; omega) fun k hk => ?_)
    have hk' : k < n := by omega
    rw [hct k hk', hs.swap hF.mat, hs.row hF.mat, hrow k hk', h.at_ (i := k) (k := i) (by omega) hm']
end MatMath
