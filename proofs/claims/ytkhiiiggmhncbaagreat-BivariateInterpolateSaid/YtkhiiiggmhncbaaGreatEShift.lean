/- Translations of a symmetric matrix by d Z(x) Z(y), with no Go in sight: Z from its zeros, rows, secrets, the way back, two matrices with the same rows; sums of matrices. Conditions: p one of the primes, square matrices of its field, distinct points that are not 0, as said. -/
import Derived.Test.YtkhiiiggmhncbaaGreatEMath
namespace MatMath
open FieldMath PolyMath

/-- The polynomial times 1 + n x, one coefficient more. -/
def zst (p : Int) (z : List Int) (n : Int) : List Int := (List.range (z.length + 1)).map fun k => if k = 0 then co z 0 else fadd p (co z k) (fmul p n (co z (k - 1)))
theorem zst_len (p : Int) (z : List Int) (n : Int) : (zst p z n).length = z.length + 1 := by unfold zst; simp
theorem co_zst (p : Int) (z : List Int) (n : Int) {k : Nat} (h : k < z.length + 1) : co (zst p z n) k = if k = 0 then co z 0 else fadd p (co z k) (fmul p n (co z (k - 1))) := by unfold zst; rw [co_map, if_pos h]
theorem zst_el {p : Int} (hp : 0 < p) {z : List Int} (hz : El p z) (n : Int) : El p (zst p z n) := fun x hx => by
  obtain ⟨i, _, rfl⟩ := mem_range_map hx
  split
  · exact hz.co hp 0
  · exact fadd_bd p _ _ hp
theorem evf_shift (x : Int) (f : Nat → Int) (N : Nat) : evf x (N + 1) (fun k => if k = 0 then 0 else f (k - 1)) = x * evf x N f := by
  rw [evf_succ, if_pos rfl, Int.zero_add]
  exact congrArg (x * ·) (evf_same x N fun i _ => by rw [if_neg (Nat.succ_ne_zero i)]; rfl)
theorem pev_zst {p : Int} (z : List Int) (n x : Int) : pev p (zst p z n) x = fmul p (pev p z x) (1 + n * x) := by
  rw [pev_evf p (zst p z n) x (n := z.length + 1) (by rw [zst_len]; exact Nat.le_refl _)]
  have e : evf x (z.length + 1) (co (zst p z n)) % p = evf x (z.length + 1) (fun k => co z k + n * (if k = 0 then 0 else co z (k - 1))) % p := evf_modN x _ fun k hk => by
    rw [co_zst p z n hk]
    by_cases h : k = 0
    · subst h; rw [if_pos rfl, if_pos rfl, Int.mul_zero, Int.add_zero]
    · rw [if_neg h, if_neg h]
      unfold fadd fmul
      rw [mdd]
      exact ma rfl (mdd _ _)
  rw [e, evf_add, evf_mul, evf_shift, evf_to (co_fin z) (Nat.le_succ _)]
  show _ = pev p z x * (1 + n * x) % p
  unfold pev
  rw [show evf x z.length (co z) + n * (x * evf x z.length (co z)) = evf x z.length (co z) * (1 + n * x) from by rw [Int.mul_add, Int.mul_one]; exact congrArg (_ + ·) ((Int.mul_assoc n x _).symm.trans (Int.mul_comm (n * x) _))]
  exact mm (mdd _ _).symm rfl
/-- Z: 1 at 0, and 0 at the points. -/
def vanz (p : Int) : List Int → List Int → List Int
  | z, [] => z
  | z, x :: xs => vanz p (zst p z (fsub p 0 (fpow p x (p - 2)))) xs
theorem vanz_snoc (p : Int) : ∀ (xs z : List Int) (x : Int), vanz p z (xs ++ [x]) = zst p (vanz p z xs) (fsub p 0 (fpow p x (p - 2)))
  | [], _, _ => rfl
  | y :: xs, z, x => vanz_snoc p xs (zst p z (fsub p 0 (fpow p y (p - 2)))) x
theorem vanz_len (p : Int) : ∀ (xs z : List Int), (vanz p z xs).length = z.length + xs.length
  | [], _ => rfl
  | x :: xs, z => by
    show (vanz p (zst p z _) xs).length = _
    rw [vanz_len p xs, zst_len, List.length_cons]; omega
theorem vanz_el {p : Int} (hp : 0 < p) : ∀ (xs z : List Int), El p z → El p (vanz p z xs)
  | [], _, h => h
  | _ :: xs, _, h => vanz_el hp xs _ (zst_el hp h _)
theorem vanz_zero (p : Int) : ∀ (xs z : List Int), co (vanz p z xs) 0 = co z 0
  | [], _ => rfl
  | x :: xs, z => by
    show co (vanz p (zst p z _) xs) 0 = _
    rw [vanz_zero p xs, co_zst p z _ (Nat.succ_pos _), if_pos rfl]
theorem vanz_stay {p : Int} (x : Int) : ∀ (xs z : List Int), pev p z x = 0 → pev p (vanz p z xs) x = 0
  | [], _, h => h
  | y :: xs, z, h => vanz_stay x xs _ (by rw [pev_zst, h]; unfold fmul; rw [Int.zero_mul, Int.zero_emod])
theorem vanz_hit {p : Int} (hg : GoodI p) {x : Int} : ∀ (xs z : List Int), (∀ y ∈ xs, 0 < y ∧ y < p) → x ∈ xs → pev p (vanz p z xs) x = 0
  | y :: xs, z, h, hx => by
    by_cases e : x = y
    · subst e
      refine vanz_stay x xs _ ?_
      have hb := h x (List.mem_cons_self)
      have hi := hg.inv hb.1 hb.2
      rw [pev_zst]
      unfold fmul at hi ⊢
      have h2 : (1 + fsub p 0 (fpow p x (p - 2)) * x) % p = 0 := by
        have e1 : (fsub p 0 (fpow p x (p - 2)) * x) % p = (-(x * fpow p x (p - 2))) % p := by
          unfold fsub
          rw [Int.zero_sub, Int.mul_comm x]
          exact (mm (mdd _ _) rfl).trans (by rw [Int.neg_mul])
        have e2 : (-(x * fpow p x (p - 2))) % p = (-1) % p := by
          have : (0 - x * fpow p x (p - 2)) % p = (0 - 1) % p := ms rfl (hi.trans (small (by omega) (by have := hg.two; omega)).symm)
          simpa using this
        have := ma (p := p) (a := 1) (b := 1) rfl (e1.trans e2)
        simpa using this
      exact (mm (p := p) rfl (h2.trans (Int.zero_emod p).symm)).trans (by rw [Int.mul_zero, Int.zero_emod])
    · exact vanz_hit hg xs _ (fun z hz => h z (List.mem_cons_of_mem _ hz)) (by
        rcases List.mem_cons.1 hx with h1 | h1
        · exact absurd h1 e
        · exact h1)

/-- S(x, y) + d Z(x) Z(y). -/
def trl (p : Int) (S : List (List Int)) (d : Int) (Z : List Int) : List (List Int) := (List.range S.length).map fun i => (List.range S.length).map fun j => fadd p (mx S i j) (fmul p (fmul p d (co Z i)) (co Z j))
theorem trl_len (p : Int) (S : List (List Int)) (d : Int) (Z : List Int) : (trl p S d Z).length = S.length := by unfold trl; simp
theorem trl_mx (p : Int) (S : List (List Int)) (d : Int) (Z : List Int) {i j : Nat} (hi : i < S.length) (hj : j < S.length) : mx (trl p S d Z) i j = fadd p (mx S i j) (fmul p (fmul p d (co Z i)) (co Z j)) := by
  rw [mx_ro]
  unfold trl
  rw [ro_map _ hi, co_map, if_pos hj]
theorem trl_mat {p : Int} (hp : 0 < p) (S : List (List Int)) (d : Int) (Z : List Int) : Mat p S.length S.length (trl p S d Z) := .of (trl_len p S d Z) fun i hi => by
  unfold trl
  rw [ro_map _ hi]
  refine ⟨by simp, fun z hz => ?_⟩
  obtain ⟨j, _, rfl⟩ := mem_range_map hz
  exact fadd_bd p _ _ hp
theorem trl_sum (p s d a b : Int) : fadd p s (fmul p (fmul p d a) b) = (s + d * a * b) % p := by
  unfold fadd fmul
  exact ma rfl ((mdd _ _).trans (mm (mdd _ _) rfl))
theorem trl_sum2 (p s d a b : Int) : fadd p s (fmul p d (fmul p a b)) = fadd p s (fmul p (fmul p d a) b) := by rw [fmul_assoc]
theorem trl_sym (p : Int) {S : List (List Int)} (h : Sym S) (d : Int) (Z : List Int) : Sym (trl p S d Z) := fun i hi j hj => by
  rw [trl_len] at hi
  rw [trl_mx p S d Z hi (by omega), trl_mx p S d Z (by omega) hi, h i hi j hj, fmul_assoc, fmul_assoc, fmul_comm p (co Z i)]
theorem trl_col {p : Int} (S : List (List Int)) (d : Int) (Z : List Int) (hZ : Z.length = S.length) {j : Nat} (hj : j < S.length) (x : Int) : pev p (colm (trl p S d Z) j) x = (pev p (colm S j) x + d * co Z j * pev p Z x) % p := by
  have e : evf x S.length (co (colm (trl p S d Z) j)) % p = evf x S.length (fun i => mx S i j + d * co Z j * co Z i) % p := evf_modN x _ fun i hi => by
    rw [co_colm, trl_mx p S d Z hi hj, trl_sum, mdd, Int.mul_assoc, Int.mul_assoc, Int.mul_comm (co Z i)]
  rw [pev_evf p (colm (trl p S d Z) j) x (n := S.length) (by rw [colm_len, trl_len]; exact Nat.le_refl _), e, evf_add, evf_mul, pev_evf p (colm S j) x (n := S.length) (by rw [colm_len]; exact Nat.le_refl _), pev_evf p Z x (n := S.length) (by omega)]
  refine ma ?_ (mm rfl (mdd _ _).symm)
  rw [mdd]
  exact congrArg (· % p) (evf_same x _ fun i _ => (co_colm S j i).symm)
theorem trl_row {p : Int} (hp : 0 < p) (S : List (List Int)) (d : Int) (Z : List Int) (hZ : Z.length = S.length) {x : Int} (hx : pev p Z x = 0) : brow p (trl p S d Z) x = brow p S x := by
  unfold brow
  rw [trl_len]
  refine List.map_congr_left fun j hj => ?_
  rw [trl_col S d Z hZ (List.mem_range.1 hj), hx, Int.mul_zero, Int.add_zero]
  exact small (pev_bd hp _ _).1 (pev_bd hp _ _).2
theorem bev_zero {p : Int} (hp : 0 < p) {S : List (List Int)} {n : Nat} (h : Mat p n n S) (h0 : 0 < n) : pev p (brow p S 0) 0 = mx S 0 0 := by
  rw [pev_at0, co_brow p S 0 (by rw [h.rows]; exact h0), pev_at0, co_colm, mdd]
  exact small (h.bd hp 0 0).1 (h.bd hp 0 0).2
theorem trl_secret {p : Int} {S : List (List Int)} {n : Nat} (h : Mat p n n S) (h0 : 0 < n) {d : Int} {Z : List Int} (hZ : co Z 0 = 1) : mx (trl p S d Z) 0 0 = fadd p (mx S 0 0) d := by
  rw [trl_mx p S d Z (by rw [h.rows]; exact h0) (by rw [h.rows]; exact h0), trl_sum, hZ, Int.mul_one, Int.mul_one]
  rfl
theorem trl_back {p : Int} (hp : 0 < p) {S : List (List Int)} {n : Nat} (h : Mat p n n S) (d : Int) (Z : List Int) : trl p (trl p S d Z) (fneg p d) Z = S := by
  have hm := trl_mat hp S d Z
  have hl := trl_len p S d Z
  refine rows_ext (by rw [trl_len, trl_len]) fun i hi => ?_
  have hi' : i < S.length := by rw [trl_len, trl_len] at hi; exact hi
  have e1 := (trl_mat hp (trl p S d Z) (fneg p d) Z).ro (i := i) (by rw [hl]; exact hi')
  have e2 := h.ro (i := i) (by rw [← h.rows]; exact hi')
  have hn := h.rows
  refine list_ext (by rw [e1.1, e2.1, hl, hn]) fun j => ?_
  by_cases hj : j < S.length
  · rw [← mx_ro, ← mx_ro, trl_mx p _ _ Z (by rw [hl]; exact hi') (by rw [hl]; exact hj), trl_mx p S d Z hi' hj, trl_sum, trl_sum]
    have hb := h.bd hp i j
    have e : (fneg p d * co Z i * co Z j) % p = (-(d * co Z i * co Z j)) % p := by
      unfold fneg
      rw [← Int.neg_mul, ← Int.neg_mul]
      exact mm (mm (mdd _ _) rfl) rfl
    have := ma (p := p) (mdd p (mx S i j + d * co Z i * co Z j)) e
    rw [this, show mx S i j + d * co Z i * co Z j + -(d * co Z i * co Z j) = mx S i j from by omega]
    exact small hb.1 hb.2
  · rw [co_fin _ j (by rw [e1.1, hl]; omega), co_fin _ j (by rw [e2.1, ← hn]; omega)]

/-- Two symmetric matrices with the same rows at all but one as many points. -/
theorem trl_unique {p : Int} (hg : GoodI p) {S O : List (List Int)} {n : Nat} {xs : List Int} (hS : Mat p n n S) (hO : Mat p n n O) (h0 : 0 < n) (sO : Sym O) (sS : Sym S) (hn : xs.Nodup) (hx : ∀ x ∈ xs, 0 < x ∧ x < p) (hl : xs.length + 1 = n)
    (he : ∀ i, i < xs.length → brow p O (co xs i) = brow p S (co xs i)) : trl p S (fsub p (mx O 0 0) (mx S 0 0)) (vanz p [1] xs) = O := by
  have hp : 0 < p := by have := hg.two; omega
  have hp1 : 1 < p := by have := hg.two; omega
  obtain ⟨Z, hZ⟩ : ∃ Z, vanz p [1] xs = Z := ⟨_, rfl⟩
  have zl : Z.length = n := by rw [← hZ, vanz_len]; simp; omega
  have ze : El p Z := by rw [← hZ]; exact vanz_el hp xs _ (El.one hp1)
  have z0 : co Z 0 = 1 := by rw [← hZ, vanz_zero]; rfl
  have zz : ∀ x ∈ xs, pev p Z x = 0 := fun x hm => by rw [← hZ]; exact vanz_hit hg xs _ hx hm
  rw [hZ]
  have lS := hS.rows
  have lO := hO.rows
  -- 0 and the points
  have hns : ((0 : Int) :: xs).Nodup := List.nodup_cons.2 ⟨fun hm => by have := (hx 0 hm).1; omega, hn⟩
  have hxs : El p ((0 : Int) :: xs) := fun x hm => by
    rcases List.mem_cons.1 hm with e | e
    · subst e; omega
    · have := hx x e; omega
  have c0 : ∀ a : Int, co (a :: xs) 0 = a := fun _ => rfl
  -- each column of the difference is a multiple of Z
  have key : ∀ i j, i < n → j < n → (mx O i j - mx S i j) % p = (mx O 0 j - mx S 0 j) * co Z i % p := fun i j hi hj => by
    obtain ⟨c, hc⟩ : ∃ c, (mx O 0 j - mx S 0 j) % p = c := ⟨_, rfl⟩
    have h1 := same_all hg hns hxs (a := psub p (colm O j) (colm S j)) (b := pscl p c Z) (psub_el hp _ _) (pscl_el hp _ _)
      (by have := psub_len p (colm O j) (colm S j); rw [colm_len, colm_len] at this; simp; omega) (by have := pscl_len p c Z; simp; omega) (fun k hk => by
        match k, hk with
        | 0, _ =>
          rw [c0, pev_at0, pev_at0, co_psub, co_pscl, co_colm, co_colm, z0, Int.mul_one, mdd, mdd, ← hc, mdd]
        | k + 1, hk =>
          have hk' : k < xs.length := by simpa using hk
          rw [PolyMath.co_succ, pev_psub, pev_pscl, zz _ (co_mem hk')]
          have hk2 : co (brow p O (co xs k)) j = co (brow p S (co xs k)) j := by rw [he k hk']
          rw [co_brow p O _ (by omega), co_brow p S _ (by omega)] at hk2
          rw [hk2]
          unfold fsub fmul
          rw [Int.sub_self, Int.mul_zero]) i
    rw [co_psub, co_pscl, co_colm, co_colm] at h1
    rw [h1, ← hc]
    exact mm (mdd _ _) rfl
  refine rows_ext (by rw [trl_len, lS, lO]) fun i hi => ?_
  have hi' : i < n := by rw [trl_len] at hi; omega
  have e1 := (trl_mat hp S (fsub p (mx O 0 0) (mx S 0 0)) Z).ro (i := i) (by omega)
  have e2 := hO.ro hi'
  refine list_ext (by rw [e1.1, e2.1, lS]) fun j => ?_
  by_cases hj : j < n
  · rw [← mx_ro, ← mx_ro, trl_mx p S _ Z (by omega) (by omega), trl_sum]
    have hb := hO.bd hp i j
    have h1 := key i j hi' hj
    have h2 := key j 0 hj h0
    rw [sO.at_ (i := j) (j := 0) (by omega) (by omega), sS.at_ (i := j) (j := 0) (by omega) (by omega)] at h2
    have h3 : (fsub p (mx O 0 0) (mx S 0 0) * co Z i * co Z j) % p = (mx O i j - mx S i j) % p := by
      rw [h1]
      have e3 : ((mx O 0 0 - mx S 0 0) * co Z j * co Z i) % p = ((mx O 0 j - mx S 0 j) * co Z i) % p := mm h2.symm rfl
      rw [← e3, Int.mul_assoc, Int.mul_comm (co Z i), ← Int.mul_assoc]
      unfold fsub
      exact mm (mm (mdd _ _) rfl) rfl
    have := ma (p := p) (a := mx S i j) (b := mx S i j) rfl h3
    rw [this, show mx S i j + (mx O i j - mx S i j) = mx O i j from by omega]
    exact small hb.1 hb.2
  · rw [co_fin _ j (by rw [e1.1, lS]; omega), co_fin _ j (by rw [e2.1]; omega)]

/-- The sum of two matrices. -/
def addS (p : Int) (S O : List (List Int)) : List (List Int) := (List.range S.length).map fun i => (List.range S.length).map fun j => fadd p (mx S i j) (mx O i j)
theorem addS_len (p : Int) (S O : List (List Int)) : (addS p S O).length = S.length := by unfold addS; simp
theorem addS_mat {p : Int} (hp : 0 < p) (S O : List (List Int)) : Mat p S.length S.length (addS p S O) := .of (addS_len p S O) fun i hi => by
  unfold addS
  rw [ro_map _ hi]
  refine ⟨by simp, fun z hz => ?_⟩
  obtain ⟨j, _, rfl⟩ := mem_range_map hz
  exact fadd_bd p _ _ hp
theorem addS_mx (p : Int) (S O : List (List Int)) {i j : Nat} (hi : i < S.length) (hj : j < S.length) : mx (addS p S O) i j = fadd p (mx S i j) (mx O i j) := by
  rw [mx_ro]
  unfold addS
  rw [ro_map _ hi, co_map, if_pos hj]
theorem addS_row {p : Int} (S O : List (List Int)) (h : O.length = S.length) (x : Int) {j : Nat} (hj : j < S.length) : co (brow p (addS p S O) x) j = fadd p (co (brow p S x) j) (co (brow p O x) j) := by
  rw [co_brow p _ x (by rw [addS_len]; exact hj), co_brow p S x hj, co_brow p O x (by omega)]
  have e : evf x S.length (co (colm (addS p S O) j)) % p = evf x S.length (fun i => mx S i j + mx O i j) % p := evf_modN x _ fun i hi => by
    rw [co_colm, addS_mx p S O hi hj]; unfold fadd; rw [mdd]
  rw [pev_evf p (colm (addS p S O) j) x (n := S.length) (by rw [colm_len, addS_len]; exact Nat.le_refl _), e, evf_add, pev_evf p (colm S j) x (n := S.length) (by rw [colm_len]; exact Nat.le_refl _), pev_evf p (colm O j) x (n := S.length) (by rw [colm_len]; omega)]
  unfold fadd
  refine ma ?_ ?_
  · rw [mdd]; exact congrArg (· % p) (evf_same x _ fun i _ => (co_colm S j i).symm)
  · rw [mdd]; exact congrArg (· % p) (evf_same x _ fun i _ => (co_colm O j i).symm)
/-- The shares lie on the first row. -/
theorem share_row {p : Int} (hp : 0 < p) {S : List (List Int)} {n : Nat} (h : Mat p n n S) (hs : Sym S) (h0 : 0 < n) (x : Int) : co (brow p S x) 0 = pev p (brow p S 0) x ∧ co (brow p S 0) 0 = mx S 0 0 := by
  have hl := h.rows
  refine ⟨?_, ?_⟩
  · rw [hs.swap h, pev_at0]
    exact (small ((brow_el hp S x).co hp 0).1 ((brow_el hp S x).co hp 0).2).symm
  · rw [co_brow p S 0 (by omega), pev_at0, co_colm]
    exact small (h.bd hp 0 0).1 (h.bd hp 0 0).2
end MatMath
