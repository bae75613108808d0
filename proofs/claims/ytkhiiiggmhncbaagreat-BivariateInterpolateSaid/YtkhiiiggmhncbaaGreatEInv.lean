/- The matrix of powers has an inverse, and what the inverse makes of given rows is the matrix that they fit, its columns found by interpolation. No walk. Conditions: p one of the primes, distinct points of its field, as many rows, each as long. -/
import Derived.Test.YtkhiiiggmhncbaaGreatEMath
import Derived.Test.YtkhiiiggmhncbaaGreatMC
import Derived.Test.YtkhiiiggmhncbaaGreatME
namespace Go.Proofs.YtkhiiiggmhncbaaGreat
set_option maxRecDepth 100000
open Go.RowKit PolyMath FieldMath MatMath

theorem sg_evp (x : Int) (f : Nat → Int) : ∀ n, sg n (fun k => f k * x ^ k) = evp x f n
  | 0 => rfl
  | n + 1 => by rw [sg_succ, sg_evp x f n]; rfl
theorem vm_mx (p : Int) (xs : List Int) (n : Nat) {i k : Nat} (hi : i < xs.length) (hk : k < n) : mx (vmx p xs n) i k = co xs i ^ k % p := by
  have h : (vmx p xs n)[i]? = some (pows p (co xs i) n) := by
    unfold vmx
    rw [List.getElem?_map, List.getElem?_eq_getElem hi, co_get hi]; rfl
  rw [mx_at h]
  unfold pows
  rw [co_map, if_pos hk]
theorem vm_mat {p : Int} (hp : 0 < p) {xs : List Int} {n : Nat} (hl : xs.length = n) : Mat p n n (vmx p xs n) :=
  ⟨by rw [vmx_len]; exact hl, fun r hr => by
    unfold vmx at hr
    obtain ⟨x, _, rfl⟩ := List.mem_map.1 hr
    refine ⟨pows_len _ _ _, fun z hz => ?_⟩
    unfold pows at hz
    obtain ⟨k, _, rfl⟩ := mem_range_map hz
    exact md _ _ hp⟩
/-- Values as sums. -/
theorem vm_sum {p : Int} (xs : List Int) {n : Nat} {i : Nat} (hi : i < xs.length) (f : Nat → Int) : sg n (fun k => mx (vmx p xs n) i k * f k) % p = evf (co xs i) n f % p := by
  rw [← evp_eq, ← sg_evp]
  refine sg_mod n fun k hk => ?_
  rw [vm_mx p xs n hi hk, Int.mul_comm (f k)]
  exact mm (mdd _ _) rfl
theorem vm_inv {p : Int} (hg : GoodI p) {xs : List Int} {n : Nat} (hn : xs.Nodup) (hx : El p xs) (hl : xs.length = n) (h0 : 0 < n) :
    ∃ X, invM p (vmx p xs n) = some X ∧ Mat p n n X ∧ ∀ r c, r < n → c < n → mat n (mx (vmx p xs n)) (mx X) r c % p = one r c % p := by
  have hp1 : 1 < p := by have := hg.two; omega
  have hm := vm_mat (p := p) (by omega) hl
  have hsq : squ (vmx p xs n) = true := squ_iff.2 ⟨by rw [vmx_len]; omega, by rw [hm.cols h0]; exact hm.rows, hm.isRect⟩
  have hne : invM p (vmx p xs n) ≠ none := fun e => by
    have h1 := invM_none hg hsq hm.els e
    rw [dtm_det hg hsq hm.els, hm.rows] at h1
    have h2 := det_mul hg (n := n) (mx (vmx p xs n)) (fun k i => co (base p xs i) k)
    have h3 : det n (mat n (mx (vmx p xs n)) fun k i => co (base p xs i) k) % p = 1 := by
      rw [← small (p := p) (a := 1) (by omega) hp1, ← det_one n]
      refine det_mod n fun r c hr hc => ?_
      show sg n (fun k => mx (vmx p xs n) r k * co (base p xs c) k) % p = _
      rw [vm_sum xs (by omega), ← pev_evf p (base p xs c) _ (by have := base_len p xs (i := c) (by omega); omega)]
      by_cases e : r = c
      · subst e
        rw [base_self hg hn hx (by omega), one_same]
        exact (small (by omega) hp1).symm
      · rw [base_other (by omega) e, one_ne e, Int.zero_emod]
    rw [h3] at h2
    have h4 := mm (p := p) (b := 0) (h1.trans (Int.zero_emod p).symm) (rfl : det n (fun k i => co (base p xs i) k) % p = det n (fun k i => co (base p xs i) k) % p)
    rw [Int.zero_mul, Int.zero_emod] at h4
    rw [h4] at h2
    cases h2
  obtain ⟨X, hX⟩ := Option.ne_none_iff_exists'.1 hne
  have h2 := invM_some hg hsq hm.els hX
  rw [hm.rows] at h2
  refine ⟨X, hX, h2.2.1, fun r c hr hc => ?_⟩
  have h3 := mulM_mx (p := p) (A := vmx p xs n) X (l := n) (r := r) (c := c) (by rw [hm.rows]; exact hr) (hm.ro hr).1 (by rw [h2.2.1.cols h0]; exact hc)
  rw [h2.2.2.2, oneL_mx hr hc] at h3
  rw [← h3]
  unfold one
  split
  · exact (small (by omega) hp1).symm
  · exact (Int.zero_emod p).symm

/-- Rows and columns exchanged. -/
def colsM (D : List (List Int)) (n : Nat) : List (List Int) := (List.range n).map fun j => colm D j
theorem colsM_ro (D : List (List Int)) {n j : Nat} (h : j < n) : ro (colsM D n) j = colm D j := ro_map _ h
theorem colsM_fit {p : Int} (hg : GoodI p) {xs : List Int} {rows X : List (List Int)} {n : Nat} (hl : xs.length = n) (h0 : 0 < n) (hR : Mat p n n rows) (hX : Mat p n n X) (hi : ∀ r c, r < n → c < n → mat n (mx (vmx p xs n)) (mx X) r c % p = one r c % p) :
    Mat p n n (mulM p X rows) ∧ FitC p xs rows n (colsM (mulM p X rows) n) := by
  have hp : 0 < p := by have := hg.two; omega
  have hD : Mat p n n (mulM p X rows) := .of (by rw [mulM_len]; exact hX.rows) fun i hi => by
    rw [mulM_ro p rows (by rw [hX.rows]; exact hi), hR.cols h0]
    unfold mulR
    refine ⟨by simp, fun z hz => ?_⟩
    obtain ⟨c, _, rfl⟩ := mem_range_map hz
    exact md _ _ hp
  refine ⟨hD, .of (by unfold colsM; simp) fun j hj => ?_, fun j hj i hi' => ?_⟩
  · rw [colsM_ro _ hj]
    exact ⟨by rw [colm_len]; exact hD.rows, hD.colm_el hp j⟩
  · rw [colsM_ro _ hj, pev_evf p (colm (mulM p X rows) j) _ (n := n) (by rw [colm_len, hD.rows]; exact Nat.le_refl _), ← vm_sum xs (by omega)]
    have e1 : sg n (fun k => mx (vmx p xs n) i k * co (colm (mulM p X rows) j) k) % p = mat n (mx (vmx p xs n)) (mat n (mx X) (mx rows)) i j % p := sg_mod n fun k hk => by
      rw [co_colm, mulM_mx rows (l := n) (by rw [hX.rows]; exact hk) (hX.ro hk).1 (by rw [hR.cols h0]; exact hj)]
      exact mm rfl (mdd _ _)
    have hb := hR.bd hp i j
    rw [e1, ← mat_assoc, ← small hb.1 hb.2]
    have e2 : mat n (mat n (mx (vmx p xs n)) (mx X)) (mx rows) i j % p = mat n one (mx rows) i j % p := sg_mod n fun k hk => mm (hi i k hi' hk) rfl
    rw [e2]
    refine congrArg (· % p) ?_
    show sg n (fun k => one i k * mx rows k j) = _
    rw [sg_one (j := i) n hi' fun k _ hk => by rw [one_ne (fun e => hk e.symm), Int.zero_mul], one_same, Int.one_mul]
theorem colsM_sym {p : Int} {D : List (List Int)} {n : Nat} (hD : Mat p n n D) : Sym (colsM D n) ↔ Sym D := by
  have hl := hD.rows
  have h : ∀ i j, i < n → mx (colsM D n) i j = mx D j i := fun i j hi => by rw [mx_ro, colsM_ro D hi, co_colm]
  have hc : (colsM D n).length = n := by unfold colsM; simp
  constructor
  · intro hs i hi j hj
    have := hs i (by omega) j hj
    rw [h i j (by omega), h j i (by omega)] at this
    exact this.symm
  · intro hs i hi j hj
    rw [h i j (by omega), h j i (by omega)]
    exact (hs i (by omega) j hj).symm
theorem colsM_same {p : Int} {D : List (List Int)} {n : Nat} (hD : Mat p n n D) (h : Sym D) : colsM D n = D := by
  have hl := hD.rows
  refine rows_ext (by unfold colsM; simp; omega) fun j hj => ?_
  have hj' : j < n := by unfold colsM at hj; simpa using hj
  rw [colsM_ro D hj']
  exact ((sym_iff hD).1 h j hj').symm
end Go.Proofs.YtkhiiiggmhncbaaGreat
