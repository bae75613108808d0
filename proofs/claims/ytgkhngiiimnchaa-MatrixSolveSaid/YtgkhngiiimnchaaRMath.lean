/- What the answers of package matrix mean, with no walk in sight: rank, determinant, product, transpose, solutions, inverse on lists of rows. Conditions: a supported prime, words of its field, rectangular matrices where said. -/
import Derived.Test.YtgkhngiiimnchaaROpen
namespace Go.Proofs.Ytgkhngiiimnchaa
open PolyMath FieldMath MatMath

section
variable {p : Int}
/-! ### Sizes -/
theorem _root_.MatMath.Mat.isRect {N L : Nat} {A : List (List Int)} (h : Mat p N L A) : rect A = true := rect_iff.2 fun i hi => by
  rw [h.rows] at hi
  unfold ncol
  rw [(h.ro hi).1, (h.ro (i := 0) (by omega)).1]
theorem _root_.MatMath.Mat.cols {N L : Nat} {A : List (List Int)} (h : Mat p N L A) (hN : 0 < N) : ncol A = L := (h.ro hN).1
theorem _root_.MatMath.Mat.els {N L : Nat} {A : List (List Int)} (h : Mat p N L A) : ∀ r ∈ A, El p r := fun r hr => (h.row r hr).2
theorem _root_.MatMath.Mat.sized {N L : Nat} {A : List (List Int)} (h : Mat p N L A) (h1 : N ≤ 100) (h2 : L ≤ 100) : Sized A := .of (by rw [h.rows]; exact h1) fun r hr => by rw [(h.row r hr).1]; exact h2
theorem _root_.MatMath.Mat.eqv {N L : Nat} {A B : List (List Int)} (hp : 0 < p) (hA : Mat p N L A) (hB : Mat p N L B) (h : ∀ r c, r < N → c < L → mx A r c % p = mx B r c % p) : A = B :=
  rows_ext (by rw [hA.rows, hB.rows]) fun i hi => by
    rw [hA.rows] at hi
    refine list_ext (by rw [(hA.ro hi).1, (hB.ro hi).1]) fun c => ?_
    by_cases hc : c < L
    · have h1 := h i c hi hc
      have b1 := hA.bd hp i c
      have b2 := hB.bd hp i c
      rw [small b1.1 b1.2, small b2.1 b2.2] at h1
      exact h1
    · rw [co_fin _ c (by rw [(hA.ro hi).1]; omega), co_fin _ c (by rw [(hB.ro hi).1]; omega)]

/-! ### Rank and determinant -/
theorem rnk_rr (hg : GoodI p) {A : List (List Int)} (hr : rect A = true) (hE : ∀ r ∈ A, El p r) : ∃ pv, RR p A.length (ncol A) (mx A) (rnk p A) pv := by
  have h := elim_ok hg (mat_of hr hE) (ncol A)
  obtain ⟨e, h1, _⟩ := h.re
  exact ⟨_, e, _, h1, h.ech⟩
theorem dtm_det (hg : GoodI p) {A : List (List Int)} (hr : squ A = true) (hE : ∀ r ∈ A, El p r) : dtm p A = det A.length (mx A) % p := by
  have hp := hg.two
  obtain ⟨q1, q2, q3⟩ := squ_iff.1 hr
  have h := elim_ok hg (mat_of q3 hE) A.length
  obtain ⟨e, h1, h2⟩ := h.re
  have hd := h.db
  unfold dtm
  rcases det_cases (by omega) h1 h.ech with ⟨hs, h0⟩ | ⟨hs, h0, _⟩
  · rw [if_pos hs, h0]
  · rw [if_neg (by omega)]
    have e1 : (elim p A A.length).d * (e * det A.length (mx A)) % p = det A.length (mx A) % p := by
      rw [← Int.mul_assoc, Int.mul_comm (elim p A A.length).d e, Int.mul_emod, h2, Int.one_mul, mdd]
    rw [← e1, Int.mul_emod, h0, Int.mul_one, mdd]
    exact (small hd.1 hd.2).symm
theorem dtm_bd (hg : GoodI p) {A : List (List Int)} (hr : squ A = true) (hE : ∀ r ∈ A, El p r) : 0 ≤ dtm p A ∧ dtm p A < p := by
  have := hg.two
  rw [dtm_det hg hr hE]; exact md _ _ (by omega)
theorem dtm_zero (hg : GoodI p) {A : List (List Int)} (hr : squ A = true) (hE : ∀ r ∈ A, El p r) : dtm p A = 0 ↔ rnk p A < A.length := by
  have hp := hg.two
  obtain ⟨q1, q2, q3⟩ := squ_iff.1 hr
  have h := elim_ok hg (mat_of q3 hE) A.length
  obtain ⟨e, h1, _⟩ := h.re
  rw [dtm_det hg hr hE]
  unfold rnk
  rw [← q2]
  rcases det_cases (by omega) h1 h.ech with ⟨hs, h0⟩ | ⟨hs, h0, _⟩
  · exact ⟨fun _ => hs, fun _ => h0⟩
  · refine ⟨fun h5 => ?_, fun h5 => by omega⟩
    rw [Int.mul_emod, h5, Int.mul_zero, Int.zero_emod] at h0
    cases h0

/-! ### Products -/
theorem mulM_mx {A : List (List Int)} (B : List (List Int)) {l r c : Nat} (hr : r < A.length) (hl : (ro A r).length = l) (hc : c < ncol B) : mx (mulM p A B) r c = mat l (mx A) (mx B) r c % p := by
  rw [mx_ro, mulM_ro p B hr]
  unfold mulR
  rw [co_map, if_pos hc, hl]; rfl
theorem mulM_sq (hp : 0 < p) {A B : List (List Int)} (ha : squ A = true) (hb : squ B = true) (hn : ncol A = B.length) : squ (mulM p A B) = true := by
  obtain ⟨a1, a2, a3⟩ := squ_iff.1 ha
  obtain ⟨b1, b2, b3⟩ := squ_iff.1 hb
  have hM := mulM_mat (p := p) hp A B
  exact squ_iff.2 ⟨by rw [mulM_len]; exact a1, by rw [mulM_len, hM.cols a1]; omega, hM.isRect⟩
theorem mul_assoc_rows (hp : 0 < p) {A B C : List (List Int)} (ha : rect A = true) (hb : rect B = true) (h1 : ncol A = B.length) (hB : 0 < B.length) : mulM p (mulM p A B) C = mulM p A (mulM p B C) := by
  have hA : 0 < A.length := ncol_pos (by omega)
  have hAB := mulM_mat (p := p) hp A B
  have hBC := mulM_mat (p := p) hp B C
  have hL := mulM_mat (p := p) hp (mulM p A B) C
  have hR := mulM_mat (p := p) hp A (mulM p B C)
  rw [mulM_len] at hL
  rw [hBC.cols hB] at hR
  refine Mat.eqv hp hL hR fun r c hr hc => ?_
  have ra := rect_iff.1 ha r hr
  rw [mulM_mx C (l := ncol B) (by rw [mulM_len]; exact hr) (hAB.ro hr).1 hc, mulM_mx (mulM p B C) (l := B.length) hr (by rw [ra, h1]) (by rw [hBC.cols hB]; exact hc)]
  rw [mdd, mdd]
  have e1 : mat (ncol B) (mx (mulM p A B)) (mx C) r c % p = mat (ncol B) (mat B.length (mx A) (mx B)) (mx C) r c % p := sg_mod _ fun j hj => mm (by rw [mulM_mx B (l := B.length) hr (by rw [ra, h1]) hj, mdd]) rfl
  have e2 : mat B.length (mx A) (mx (mulM p B C)) r c % p = mat B.length (mx A) (mat (ncol B) (mx B) (mx C)) r c % p := sg_mod _ fun j hj => mm rfl (by rw [mulM_mx C (l := ncol B) hj (rect_iff.1 hb j hj) hc, mdd])
  rw [e1, e2, mat_assoc]
theorem rank_mul (hg : GoodI p) {A B : List (List Int)} (ha : rect A = true) (hb : rect B = true) (eA : ∀ r ∈ A, El p r) (eB : ∀ r ∈ B, El p r) (h1 : ncol A = B.length) : rnk p (mulM p A B) ≤ rnk p A ∧ rnk p (mulM p A B) ≤ rnk p B := by
  have hp := hg.two
  have hM := mulM_mat (p := p) (by omega) A B
  obtain ⟨pM, rM⟩ := rnk_rr hg hM.isRect hM.els
  obtain ⟨pA, rA⟩ := rnk_rr hg ha eA
  obtain ⟨pB, rB⟩ := rnk_rr hg hb eB
  by_cases h0 : 0 < A.length
  · rw [mulM_len, hM.cols h0] at rM
    rw [h1] at rA
    have e : ∀ r c, r < A.length → c < ncol B → mx (mulM p A B) r c % p = mat B.length (mx A) (mx B) r c % p := fun r c hr hc => by
      rw [mulM_mx B (l := B.length) hr (by rw [rect_iff.1 ha r hr, h1]) hc, mdd]
    exact ⟨rank_left hg e rM rA, rank_right (by omega) e rM rB⟩
  · have := rM.rows
    rw [mulM_len] at this
    omega
theorem det_mulM (hg : GoodI p) {A B : List (List Int)} (ha : squ A = true) (hb : squ B = true) (eA : ∀ r ∈ A, El p r) (eB : ∀ r ∈ B, El p r) (h1 : ncol A = B.length) : dtm p (mulM p A B) = fmul p (dtm p A) (dtm p B) := by
  have hp := hg.two
  obtain ⟨a1, a2, a3⟩ := squ_iff.1 ha
  obtain ⟨b1, b2, b3⟩ := squ_iff.1 hb
  have hM := mulM_mat (p := p) (by omega) A B
  rw [dtm_det hg (mulM_sq (by omega) ha hb h1) hM.els, dtm_det hg ha eA, dtm_det hg hb eB, mulM_len]
  have hBA : B.length = A.length := by omega
  rw [hBA]
  have e : ∀ r c, r < A.length → c < A.length → mx (mulM p A B) r c % p = mat A.length (mx A) (mx B) r c % p := fun r c hr hc => by
    rw [mulM_mx B (l := A.length) hr (by rw [rect_iff.1 a3 r hr]; omega) (by omega), mdd]
  rw [det_mod _ e, MatMath.det_mul hg]
  unfold fmul
  rw [← Int.mul_emod]

/-! ### The transpose -/
theorem trn_mat {N L : Nat} {A : List (List Int)} (hp : 0 < p) (h : Mat p N L A) (hN : 0 < N) : Mat p L N (trn A) := .of (by rw [trn_len, h.cols hN]) fun i hi => by
  rw [trn_ro (by rw [h.cols hN]; exact hi)]
  refine ⟨by simp [h.rows], fun x hx => ?_⟩
  obtain ⟨j, _, rfl⟩ := List.mem_map.1 hx
  exact h.bd hp j i
theorem trn_mx {A : List (List Int)} {r c : Nat} (hr : r < ncol A) (hc : c < A.length) : mx (trn A) r c = mx A c r := by
  rw [mx_ro, trn_ro hr, co_map, if_pos hc]
theorem trn_rank (hg : GoodI p) {A : List (List Int)} (hr : rect A = true) (hE : ∀ r ∈ A, El p r) (h0 : 0 < A.length) (h1 : 0 < ncol A) : rnk p A = rnk p (trn A) ∧ rnk p A ≤ A.length ∧ rnk p A ≤ ncol A := by
  have hp := hg.two
  have hT := trn_mat (p := p) (by omega) (mat_of hr hE) h0
  obtain ⟨pA, rA⟩ := rnk_rr hg hr hE
  obtain ⟨pT, rT⟩ := rnk_rr hg hT.isRect hT.els
  rw [trn_len, hT.cols h1] at rT
  obtain ⟨d, B, t1, t2⟩ := rT
  obtain ⟨s, pv, hs⟩ := rr_ex hg (ncol A) A.length (tr (mx A))
  have e := rr_left (A := mx (trn A)) (M := tr (mx A)) (by omega) (fun r c hr hc => by rw [trn_mx hr hc]; rfl) t1 t2 hs
  have e2 := rank_tr hg rA hs
  exact ⟨by rw [e2, e.1], rA.rows, rA.cols⟩
theorem trn_squ {A : List (List Int)} (hr : rect A = true) (hE : ∀ r ∈ A, El p r) (hp : 0 < p) (h0 : 0 < A.length) (h1 : 0 < ncol A) : squ (trn A) = squ A := by
  have hT := trn_mat (p := p) hp (mat_of hr hE) h0
  rw [Bool.eq_iff_iff, squ_iff, squ_iff, trn_len, hT.cols h1]
  constructor
  · rintro ⟨_, e, _⟩; exact ⟨h0, e.symm, hr⟩
  · rintro ⟨_, e, _⟩; exact ⟨h1, e.symm, hT.isRect⟩
theorem trn_det (hg : GoodI p) {A : List (List Int)} (hr : squ A = true) (hE : ∀ r ∈ A, El p r) : dtm p (trn A) = dtm p A := by
  have hp := hg.two
  obtain ⟨q1, q2, q3⟩ := squ_iff.1 hr
  have hT := trn_mat (p := p) (by omega) (mat_of q3 hE) q1
  rw [dtm_det hg (by rw [trn_squ q3 hE (by omega) q1 (by omega)]; exact hr) hT.els, dtm_det hg hr hE, trn_len, ← q2]
  rw [det_mod (p := p) A.length (B := tr (mx A)) (fun r c hr hc => by rw [trn_mx (by omega) hc]; rfl)]
  exact det_tr hg _ _

/-! ### Solutions -/
theorem _root_.MatMath.RE.colsOf {m : Nat} {d : Int} {A B : Nat → Nat → Int} (h : RE p m d A B) (f : Nat → Nat) : RE p m d (fun r c => A r (f c)) (fun r c => B r (f c)) := by
  induction h with
  | same h => exact .same fun r c hr => h r (f c) hr
  | @swap A r s hr hs hne =>
    have := RE.swap (p := p) (A := fun r c => A r (f c)) hr hs hne
    refine cast ?_ this
    congr 1 <;> (funext i c; unfold upd; split <;> first | rfl | (split <;> rfl))
  | @scale A r k k' hr hk =>
    have := RE.scale (p := p) (A := fun r c => A r (f c)) hr hk
    refine cast ?_ this
    congr 1 <;> (funext i c; unfold upd; split <;> rfl)
  | @add A r s k hr hs hne =>
    have := RE.add (p := p) (A := fun r c => A r (f c)) (k := k) hr hs hne
    refine cast ?_ this
    congr 1 <;> (funext i c; unfold upd; split <;> rfl)
  | trans _ _ i1 i2 => exact i1.trans i2
theorem _root_.MatMath.Ech.congN {m n s : Nat} {B C : Nat → Nat → Int} {pv : Nat → Nat} (h : Ech p m n B s pv) (e : ∀ r c, r < m → c < n → C r c % p = B r c % p) : Ech p m n C s pv :=
  ⟨h.len, h.lt, h.inc, fun i r hi hr => by rw [e r _ hr (h.lt i hi)]; exact h.unit i r hi hr,
    fun i r c hi hir hr hc => by rw [e r c hr (Nat.lt_trans hc (h.lt i hi))]; exact h.low i r c hi hir hr hc, fun r c h1 h2 h3 => by rw [e r c h2 h3]; exact h.rest r c h1 h2 h3⟩
/-- The elimination of the rows with one word more, as a system. -/
theorem aug_re (hg : GoodI p) {A : List (List Int)} {b : List Int} (hr : rect A = true) (hE : ∀ r ∈ A, El p r) (hb : El p b) :
    ∃ e B, RE p A.length e (aug (ncol A) (mx A) (co b)) B ∧ Ech p A.length (ncol A) B (elim p (augL A b) (ncol A)).pv.length (fun i => (elim p (augL A b) (ncol A)).pv.getD i 0) ∧ (∀ r, B r (ncol A) = mx (elim p (augL A b) (ncol A)).R r (ncol A)) ∧ Mat p A.length (ncol A + 1) (elim p (augL A b) (ncol A)).R := by
  have hp := hg.two
  have hm := augL_mat (p := p) (by omega) (mat_of hr hE) hb
  have h := elim_ok hg hm (ncol A)
  obtain ⟨e, h1, _⟩ := h.re
  refine ⟨1 * e * 1, fun r c => mx (elim p (augL A b) (ncol A)).R r (min c (ncol A)), ?_, h.ech.congN fun r c _ hc => by rw [show min c (ncol A) = c by omega], fun r => by show mx _ r (min (ncol A) (ncol A)) = _; rw [Nat.min_self], h.mat⟩
  have h2 := (RE.same (A := aug (ncol A) (mx A) (co b)) (B := fun r c => mx (augL A b) r (min c (ncol A))) fun r c hr' => ?_).trans (h1.colsOf fun c => min c (ncol A))
  · rw [Int.one_mul]; exact h2
  · congr 1
    have hl : (ro A r).length = ncol A := rect_iff.1 hr r hr'
    unfold aug
    show _ = co (ro (augL A b) r) (min c (ncol A))
    unfold augL
    rw [augK_ro b _ hr', if_pos hr']
    by_cases hc : c < ncol A
    · rw [if_pos hc, show min c (ncol A) = c by omega, mx_ro]
      unfold co; rw [List.getElem?_append_left (by omega)]
    · rw [if_neg hc, show min c (ncol A) = ncol A by omega]
      show co b r = (ro A r ++ [co b r])[ncol A]?.getD 0
      rw [List.getElem?_append_right (by omega), show ncol A - (ro A r).length = 0 by omega]; rfl
theorem solF_co {S : ES} {n : Nat} : ∀ i, (∀ a b, a < b → b < i → S.pv.getD a 0 < S.pv.getD b 0) → (∀ a, a < i → S.pv.getD a 0 < n) → ∀ j, co (solF S n i) j = bsol i (fun a => S.pv.getD a 0) (fun a => mx S.R a n) j
  | 0, _, _, j => by
    show co (List.replicate n 0) j = 0
    unfold co
    rw [List.getElem?_replicate]
    split <;> rfl
  | i + 1, hi, hl, j => by
    have ih := solF_co i (fun a b h1 h2 => hi a b h1 (by omega)) (fun a h => hl a (by omega)) j
    show co ((solF S n i).set (S.pv.getD i 0) (mx S.R i n)) j = sg i (fun a => if S.pv.getD a 0 = j then mx S.R a n else 0) + (if S.pv.getD i 0 = j then mx S.R i n else 0)
    by_cases e : S.pv.getD i 0 = j
    · subst e
      have h0 : bsol i (fun a => S.pv.getD a 0) (fun a => mx S.R a n) (S.pv.getD i 0) = 0 := bsol_else _ fun a ha e => by have := hi a i ha (by omega); omega
      have h0' : sg i (fun a => if S.pv.getD a 0 = S.pv.getD i 0 then mx S.R a n else 0) = 0 := h0
      rw [h0', if_pos rfl, Int.zero_add]
      exact co_at (List.getElem?_set_self (by rw [solF_len]; exact hl i (by omega)))
    · rw [if_neg e, Int.add_zero]
      unfold co
      rw [List.getElem?_set_ne e]
      exact ih
theorem solF_el {S : ES} {n N L : Nat} (hp : 0 < p) (h : Mat p N L S.R) : ∀ i, El p (solF S n i)
  | 0 => fun x hx => by have := List.eq_of_mem_replicate hx; omega
  | i + 1 => fun x hx => by
    rcases List.mem_or_eq_of_mem_set hx with h1 | h1
    · exact solF_el hp h i x h1
    · subst h1; exact h.bd hp i n
/-- m applied to x is b. -/
theorem app_sol {A : List (List Int)} {b x : List Int} (hr : rect A = true) (hb : El p b) (hp : 0 < p) (hn : A.length = b.length) : app p A x = b ↔ Sol p A.length (ncol A) (mx A) (co b) (co x) := by
  constructor
  · intro h r hr'
    have h1 : co (app p A x) r = co b r := by rw [h]
    unfold app at h1
    rw [co_map, if_pos hr'] at h1
    unfold dot at h1
    rw [rect_iff.1 hr r hr'] at h1
    rw [← h1, mdd]; rfl
  · intro h
    refine list_ext (by rw [app_len, hn]) fun r => ?_
    unfold app
    rw [co_map]
    by_cases hr' : r < A.length
    · rw [if_pos hr']
      unfold dot
      rw [rect_iff.1 hr r hr']
      have h1 := h r hr'
      rw [hb.cm hp r] at h1
      exact h1
    · rw [if_neg hr', co_fin b r (by omega)]
theorem slv_some (hg : GoodI p) {A : List (List Int)} {b x : List Int} (hr : rect A = true) (hE : ∀ r ∈ A, El p r) (hb : El p b) (hn : A.length = b.length) (h : slv p A b = some x) : app p A x = b ∧ x.length = ncol A ∧ El p x := by
  have hp := hg.two
  obtain ⟨e, B, h1, h2, h3, h4⟩ := aug_re hg hr hE hb
  unfold slv at h
  split at h
  · cases h
  · rename_i hf
    injection h with h
    have hf' : fnd (elim p (augL A b) (ncol A)).R (elim p (augL A b) (ncol A)).pv.length (ncol A) = none := by
      cases hq : fnd (elim p (augL A b) (ncol A)).R (elim p (augL A b) (ncol A)).pv.length (ncol A) with
      | none => rfl
      | some q => rw [hq] at hf; exact absurd rfl hf
    subst h
    refine ⟨(app_sol hr hb (by omega) hn).2 ?_, solF_len _ _ _, solF_el (by omega) h4 _⟩
    have hs := solve_ok h1 h2 fun r hs hr' => by rw [h3, fnd_none.1 hf' r hs (by rw [h4.rows]; exact hr'), Int.zero_emod]
    intro r hr'
    have := hs r hr'
    rw [← this]
    congr 1
    exact sg_congr _ fun j _ => by
      rw [solF_co _ h2.inc h2.lt]
      congr 1
      exact sg_congr _ fun a _ => by dsimp only; rw [h3]
theorem slv_none (hg : GoodI p) {A : List (List Int)} {b : List Int} (hr : rect A = true) (hE : ∀ r ∈ A, El p r) (hb : El p b) (h : slv p A b = none) :
    (∀ x : Nat → Int, ¬ Sol p A.length (ncol A) (mx A) (co b) x) ∧ ∃ y : Nat → Int, (∀ c, c < ncol A → sg A.length (fun i => mx A i c * y i) % p = 0) ∧ sg A.length (fun i => co b i * y i) % p = 1 := by
  have hp := hg.two
  obtain ⟨e, B, h1, h2, h3, h4⟩ := aug_re hg hr hE hb
  unfold slv at h
  split at h
  · rename_i hf
    obtain ⟨q, hq⟩ := Option.isSome_iff_exists.1 hf
    obtain ⟨f1, f2, _⟩ := fnd_some.1 hq
    rw [h4.rows] at f1
    have hb2 := h4.bd (p := p) (by omega) ((elim p (augL A b) (ncol A)).pv.length + q) (ncol A)
    have h5 : B ((elim p (augL A b) (ncol A)).pv.length + q) (ncol A) % p ≠ 0 := by rw [h3, small hb2.1 hb2.2]; exact f2
    exact ⟨fun x => solve_no h1 h2 (by omega) f1 h5 x, solve_witness hg h1 h2 (by omega) f1 h5⟩
  · cases h
/-- Where there is a solution, Solve finds one. -/
theorem slv_ex (hg : GoodI p) {A : List (List Int)} {b : List Int} (hr : rect A = true) (hE : ∀ r ∈ A, El p r) (hb : El p b) (hn : A.length = b.length) {x : Nat → Int} (hx : Sol p A.length (ncol A) (mx A) (co b) x) : ∃ y, slv p A b = some y ∧ app p A y = b ∧ y.length = ncol A ∧ El p y := by
  cases h : slv p A b with
  | none => exact absurd hx ((slv_none hg hr hE hb h).1 x)
  | some y => exact ⟨y, rfl, slv_some hg hr hE hb hn h⟩
theorem dot_comm {a b : List Int} (h : a.length = b.length) : dot p a b = dot p b a := by
  unfold dot; rw [h]; congr 1
  exact sg_congr _ fun j _ => Int.mul_comm _ _

/-! ### The inverse -/
theorem unitL_co (n i c : Nat) (hc : c < n) : co (unitL n i) c = one i c := by
  unfold unitL one
  by_cases e : i = c
  · subst e; rw [if_pos rfl]; exact co_at (List.getElem?_set_self (by simpa using hc))
  · rw [if_neg e]; unfold co; rw [List.getElem?_set_ne e, List.getElem?_replicate, if_pos hc]; rfl
theorem unitL_fin (n i c : Nat) (hc : ¬ c < n) : co (unitL n i) c = 0 := co_fin _ c (by rw [unitL_len]; omega)
theorem oneL_mat (hp : 1 < p) (n : Nat) : Mat p n n (oneL n) := .of (oneL_len n) fun i hi => by
  have : ro (oneL n) i = unitL n i := ro_map _ hi
  rw [this]; exact ⟨unitL_len n i, unitL_el hp n i⟩
theorem oneL_mx {n r c : Nat} (hr : r < n) (hc : c < n) : mx (oneL n) r c = one r c := by
  have : ro (oneL n) r = unitL n r := ro_map _ hr
  rw [mx_ro, this, unitL_co n r c hc]
theorem agi_re (hg : GoodI p) {A : List (List Int)} (hr : squ A = true) (hE : ∀ r ∈ A, El p r) :
    ∃ e, RE p A.length e (augI A.length (mx A)) (mx (elim p (agiL A) A.length).R) ∧ Ech p A.length A.length (mx (elim p (agiL A) A.length).R) (elim p (agiL A) A.length).pv.length (fun i => (elim p (agiL A) A.length).pv.getD i 0) ∧ Mat p A.length (A.length + A.length) (elim p (agiL A) A.length).R := by
  have hp := hg.two
  obtain ⟨q1, q2, q3⟩ := squ_iff.1 hr
  have hm0 := mat_of q3 hE
  rw [← q2] at hm0
  have h := elim_ok hg (agiL_mat (p := p) (by omega) hm0) A.length
  obtain ⟨e, h1, _⟩ := h.re
  refine ⟨_, (RE.same (A := augI A.length (mx A)) (B := mx (agiL A)) fun r c hr' => ?_).trans h1, h.ech, h.mat⟩
  congr 1
  unfold augI
  rw [mx_ro (agiL A)]
  unfold agiL
  rw [agiK_ro _ hr', if_pos hr']
  have hl := (hm0.ro hr').1
  by_cases hc : c < A.length
  · rw [if_pos hc, mx_ro]
    unfold co; rw [List.getElem?_append_left (by omega)]
  · rw [if_neg hc]
    have e1 : co (ro A r ++ unitL A.length r) c = co (unitL A.length r) (c - A.length) := by
      unfold co; rw [List.getElem?_append_right (by omega), hl]
    rw [e1]
    by_cases h2 : c - A.length < A.length
    · rw [unitL_co _ _ _ h2]
    · rw [unitL_fin _ _ _ h2, one_ne (by omega)]
theorem invM_rank (hg : GoodI p) {A : List (List Int)} (hr : squ A = true) (hE : ∀ r ∈ A, El p r) : (elim p (agiL A) A.length).pv.length = rnk p A := by
  have hp := hg.two
  obtain ⟨q1, q2, q3⟩ := squ_iff.1 hr
  obtain ⟨e, h1, h2, _⟩ := agi_re hg hr hE
  obtain ⟨pA, rA⟩ := rnk_rr hg q3 hE
  rw [← q2] at rA
  exact (rr_left (M := mx A) (by omega) (fun r c _ hc => by unfold augI; rw [if_pos hc]) h1 h2 rA).1
theorem invM_none (hg : GoodI p) {A : List (List Int)} (hr : squ A = true) (hE : ∀ r ∈ A, El p r) (h : invM p A = none) : dtm p A = 0 := by
  unfold invM at h
  split at h
  · rename_i hs
    rw [invM_rank hg hr hE] at hs
    exact (dtm_zero hg hr hE).2 hs
  · cases h
theorem invM_some (hg : GoodI p) {A X : List (List Int)} (hr : squ A = true) (hE : ∀ r ∈ A, El p r) (h : invM p A = some X) : dtm p A ≠ 0 ∧ Mat p A.length A.length X ∧ mulM p X A = oneL A.length ∧ mulM p A X = oneL A.length := by
  have hp := hg.two
  obtain ⟨q1, q2, q3⟩ := squ_iff.1 hr
  obtain ⟨e, h1, h2, h4⟩ := agi_re hg hr hE
  have hrk := invM_rank hg hr hE
  have hm0 := mat_of q3 hE
  rw [← q2] at hm0
  unfold invM at h
  split at h
  · cases h
  · rename_i hs
    injection h with h
    have hX : Mat p A.length A.length X := by
      refine .of (by rw [← h, List.length_map]; exact h4.rows) fun i hi => ?_
      have : ro X i = (ro (elim p (agiL A) A.length).R i).drop A.length := by
        rw [← h]
        exact ro_at (by rw [List.getElem?_map, ro_get (by rw [h4.rows]; exact hi)]; rfl)
      rw [this]
      exact ⟨by rw [List.length_drop, (h4.ro hi).1]; omega, El_drop (h4.ro hi).2 _⟩
    have hmx : ∀ r c, r < A.length → mx X r c = mx (elim p (agiL A) A.length).R r (A.length + c) := fun r c hr' => by
      have : ro X r = (ro (elim p (agiL A) A.length).R r).drop A.length := by
        rw [← h]
        exact ro_at (by rw [List.getElem?_map, ro_get (by rw [h4.rows]; exact hr')]; rfl)
      rw [mx_ro, mx_ro, this, co_drop]
    have hfull : (elim p (agiL A) A.length).pv.length = A.length := by have := h2.len; omega
    rw [hfull] at h2
    have hI := inv_read h1 h2
    have hI2 := inv_comm hg hI
    refine ⟨fun h0 => ?_, hX, ?_, ?_⟩
    · have := (dtm_zero hg hr hE).1 h0; omega
    · have hM := mulM_mat (p := p) (by omega) X A
      rw [hX.rows, ← q2] at hM
      refine Mat.eqv (by omega) hM (oneL_mat (by omega) _) fun r c hr' hc => ?_
      rw [mulM_mx A (l := A.length) (by rw [hX.rows]; exact hr') (hX.ro hr').1 (by omega), mdd, oneL_mx hr' hc, ← hI r c hr' hc]
      exact sg_mod _ fun j _ => mm (by rw [hmx r j hr']) rfl
    · have hM := mulM_mat (p := p) (by omega) A X
      rw [hX.cols q1] at hM
      refine Mat.eqv (by omega) hM (oneL_mat (by omega) _) fun r c hr' hc => ?_
      rw [mulM_mx X (l := A.length) hr' (hm0.ro hr').1 (by rw [hX.cols q1]; exact hc), mdd, oneL_mx hr' hc, ← hI2 r c hr' hc]
      exact sg_mod _ fun j hj => mm rfl (by rw [hmx j c hj])
end
end Go.Proofs.Ytgkhngiiimnchaa
