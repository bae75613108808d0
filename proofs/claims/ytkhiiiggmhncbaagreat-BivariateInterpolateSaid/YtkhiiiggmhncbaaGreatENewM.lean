/- Symmetric matrices that are filled pair by pair, with no Go in sight; the places of the pairs in row-major order; New's matrix. Conditions: as said. -/
import Derived.Test.YtkhiiiggmhncbaaGreatEMath
namespace MatMath
open FieldMath PolyMath

/-- The places ahead of row i of the upper half. -/
def tri (n : Nat) : Nat → Nat
  | 0 => 0
  | i + 1 => tri n i + (n - i)
theorem tri_mono (n : Nat) : ∀ (k i : Nat), tri n i ≤ tri n (i + k)
  | 0, _ => Nat.le_refl _
  | k + 1, i => Nat.le_trans (tri_mono n k i) (Nat.le_add_right _ _)
theorem tri_lt {n i j : Nat} (hij : i ≤ j) (hj : j < n) : tri n i + (j - i) < tri n n := by
  have h := tri_mono n (n - (i + 1)) (i + 1)
  rw [show i + 1 + (n - (i + 1)) = n from by omega] at h
  have : tri n (i + 1) = tri n i + (n - i) := rfl
  omega
theorem tri_all : ∀ n, n ≤ 20 → tri n n = n + n * (n - 1) / 2 := by decide
theorem tri_ge {n i : Nat} (h : 0 < i) : n ≤ tri n i := by
  have h1 := tri_mono n (i - 1) 1
  rw [show 1 + (i - 1) = i from by omega] at h1
  have : tri n 1 = 0 + (n - 0) := rfl
  omega

/-- A symmetric matrix of which only some pairs are filled. -/
def mkL (n : Nat) (v : Nat → Nat → Int) (D : Nat → Nat → Bool) : List (List Int) := (List.range n).map fun a => (List.range n).map fun b => if D (min a b) (max a b) = true then v (min a b) (max a b) else 0
theorem mkL_len (n : Nat) (v : Nat → Nat → Int) (D : Nat → Nat → Bool) : (mkL n v D).length = n := by unfold mkL; simp
theorem mkL_ro (v : Nat → Nat → Int) (D : Nat → Nat → Bool) {n a : Nat} (h : a < n) : ro (mkL n v D) a = (List.range n).map fun b => if D (min a b) (max a b) = true then v (min a b) (max a b) else 0 := ro_map _ h
theorem mkL_row (v : Nat → Nat → Int) (D : Nat → Nat → Bool) {n a : Nat} (h : a < n) : (ro (mkL n v D) a).length = n := by rw [mkL_ro v D h]; simp
theorem mkL_mx (v : Nat → Nat → Int) (D : Nat → Nat → Bool) {n a b : Nat} (ha : a < n) (hb : b < n) : mx (mkL n v D) a b = if D (min a b) (max a b) = true then v (min a b) (max a b) else 0 := by rw [mx_ro, mkL_ro v D ha, co_map, if_pos hb]
theorem mkL_ext {n : Nat} (v : Nat → Nat → Int) {D D' : Nat → Nat → Bool} (h : ∀ a b, a ≤ b → b < n → D a b = D' a b) : mkL n v D = mkL n v D' := by
  unfold mkL
  refine List.map_congr_left fun a ha => List.map_congr_left fun b hb => ?_
  have ha := List.mem_range.1 ha
  have hb := List.mem_range.1 hb
  rw [h (min a b) (max a b) (by omega) (by omega)]
theorem mkL_val {n : Nat} {v v' : Nat → Nat → Int} (D : Nat → Nat → Bool) (h : ∀ a b, a ≤ b → b < n → v a b = v' a b) : mkL n v D = mkL n v' D := by
  unfold mkL
  refine List.map_congr_left fun a ha => List.map_congr_left fun b hb => ?_
  have ha := List.mem_range.1 ha
  have hb := List.mem_range.1 hb
  rw [h (min a b) (max a b) (by omega) (by omega)]
theorem mkL_zero (n : Nat) (v : Nat → Nat → Int) : mkL n v (fun _ _ => false) = (List.range n).map fun _ => List.replicate n 0 := by
  unfold mkL
  refine List.map_congr_left fun a _ => ?_
  show (List.range n).map (fun _ => (0 : Int)) = _
  rw [List.map_const', List.length_range]
theorem mkL_sym (n : Nat) (v : Nat → Nat → Int) (D : Nat → Nat → Bool) : Sym (mkL n v D) := fun i hi j hj => by
  rw [mkL_len] at hi
  rw [mkL_mx v D hi (by omega), mkL_mx v D (by omega) hi, Nat.min_comm, Nat.max_comm]
theorem co_setL (r : List Int) {j : Nat} (hj : j < r.length) (u : Int) (b : Nat) : co (r.set j u) b = if b = j then u else co r b := by
  unfold co
  by_cases e : b = j
  · subst e; rw [List.getElem?_set_self hj, if_pos rfl]; rfl
  · rw [List.getElem?_set_ne (fun q => e q.symm), if_neg e]
/-- One more pair. -/
def more (D : Nat → Nat → Bool) (i j : Nat) : Nat → Nat → Bool := fun a b => D a b || (decide (a = i) && decide (b = j))
theorem mkL_put {n i j : Nat} (v : Nat → Nat → Int) (D : Nat → Nat → Bool) (hij : i ≤ j) (hj : j < n) :
    ((mkL n v D).set i ((ro (mkL n v D) i).set j (v i j))).set j ((ro ((mkL n v D).set i ((ro (mkL n v D) i).set j (v i j))) j).set i (v i j)) = mkL n v (more D i j) := by
  have hi : i < n := by omega
  have hl := mkL_len n v D
  have r0 : ∀ a, a < n → (ro (mkL n v D) a).length = n := fun a ha => mkL_row v D ha
  have r1 : ∀ a, a < n → (ro ((mkL n v D).set i ((ro (mkL n v D) i).set j (v i j))) a).length = n := fun a ha => by
    rw [ro_set (by omega)]
    split
    · rw [List.length_set, r0 i hi]
    · exact r0 a ha
  refine rows_ext (by rw [List.length_set, List.length_set, hl, mkL_len]) fun a ha => ?_
  have ha' : a < n := by rw [List.length_set, List.length_set, hl] at ha; exact ha
  have hR : (ro (((mkL n v D).set i ((ro (mkL n v D) i).set j (v i j))).set j ((ro ((mkL n v D).set i ((ro (mkL n v D) i).set j (v i j))) j).set i (v i j))) a).length = n := by
    rw [ro_set (by rw [List.length_set]; omega)]
    split
    · rw [List.length_set, r1 j hj]
    · exact r1 a ha'
  refine list_ext (by rw [hR, mkL_row v _ ha']) fun b => ?_
  by_cases hb : b < n
  · have e2 : co (ro (mkL n v (more D i j)) a) b = if more D i j (min a b) (max a b) = true then v (min a b) (max a b) else 0 := mkL_mx v (more D i j) ha' hb
    have e0 : ∀ c, c < n → co (ro (mkL n v D) c) b = if D (min c b) (max c b) = true then v (min c b) (max c b) else 0 := fun c hc => mkL_mx v D hc hb
    have e1 : ∀ c, c < n → co (ro ((mkL n v D).set i ((ro (mkL n v D) i).set j (v i j))) c) b = if c = i ∧ b = j then v i j else if D (min c b) (max c b) = true then v (min c b) (max c b) else 0 := fun c hc => by
      rw [ro_set (by omega)]
      by_cases hci : c = i
      · subst hci
        rw [if_pos rfl, co_setL _ (by rw [r0 c hc]; exact hj), e0 c hc]
        by_cases hbj : b = j
        · rw [if_pos hbj, if_pos ⟨rfl, hbj⟩]
        · rw [if_neg hbj, if_neg (show ¬(c = c ∧ b = j) from fun h => hbj h.2)]
      · rw [if_neg hci, if_neg (show ¬(c = i ∧ b = j) from fun h => hci h.1), e0 c hc]
    rw [e2, ro_set (by rw [List.length_set]; omega)]
    have key : (if (a = j ∧ b = i) ∨ (a = i ∧ b = j) then v i j else if D (min a b) (max a b) = true then v (min a b) (max a b) else 0) = if more D i j (min a b) (max a b) = true then v (min a b) (max a b) else 0 := by
      by_cases h : (a = j ∧ b = i) ∨ (a = i ∧ b = j)
      · have hm : min a b = i ∧ max a b = j := by omega
        rw [if_pos h, hm.1, hm.2, if_pos (by unfold more; simp)]
      · have hm : ¬ (min a b = i ∧ max a b = j) := by omega
        rw [if_neg h]
        have : more D i j (min a b) (max a b) = D (min a b) (max a b) := by
          unfold more
          rw [← Bool.decide_and, decide_eq_false hm, Bool.or_false]
        rw [this]
    rw [← key]
    by_cases haj : a = j
    · subst haj
      rw [if_pos rfl, co_setL _ (by rw [r1 a ha']; exact hi), e1 a ha']
      by_cases hbi : b = i
      · rw [if_pos hbi, if_pos (.inl ⟨rfl, hbi⟩)]
      · rw [if_neg hbi]
        by_cases h2 : a = i ∧ b = a
        · rw [if_pos h2, if_pos (.inr h2)]
        · rw [if_neg h2, if_neg (show ¬((a = a ∧ b = i) ∨ (a = i ∧ b = a)) from fun h => h.elim (fun h => hbi h.2) h2)]
    · rw [if_neg haj, e1 a ha']
      by_cases h2 : a = i ∧ b = j
      · rw [if_pos h2, if_pos (.inr h2)]
      · rw [if_neg h2, if_neg (show ¬((a = j ∧ b = i) ∨ (a = i ∧ b = j)) from fun h => h.elim (fun h => haj h.1) h2)]
  · rw [co_fin _ b (by rw [hR]; omega), co_fin _ b (by rw [mkL_row v _ ha']; omega)]

/-- The entry at a pair, of the list of all entries of the upper half. -/
def valU (n : Nat) (U : List Int) (a b : Nat) : Int := co U (tri n a + (b - a))
/-- New's matrix. -/
def newL (first rest : List Int) : List (List Int) := mkL first.length (valU first.length (first ++ rest)) fun _ _ => true
/-- The rows ahead of i, and of row i what lies ahead of j. -/
def codeD (i j a b : Nat) : Bool := decide (a < i) || (decide (a = i) && decide (b < j))
theorem codeD_start (n : Nat) (v : Nat → Nat → Int) : mkL n v (codeD 0 0) = mkL n v (fun _ _ => false) := mkL_ext v fun a b _ _ => by unfold codeD; simp
theorem codeD_begin {n i : Nat} (v : Nat → Nat → Int) : mkL n v (codeD i i) = mkL n v (codeD i 0) := mkL_ext v fun a b h _ => by
  unfold codeD
  congr 1
  by_cases e : a = i
  · subst e; simp; omega
  · simp [e]
theorem codeD_next {n i j : Nat} (v : Nat → Nat → Int) : mkL n v (more (codeD i j) i j) = mkL n v (codeD i (j + 1)) := mkL_ext v fun a b _ _ => by
  unfold more codeD
  rw [Bool.eq_iff_iff]
  simp
  omega
theorem codeD_end {n i : Nat} (v : Nat → Nat → Int) : mkL n v (codeD i n) = mkL n v (codeD (i + 1) 0) := mkL_ext v fun a b _ hb => by
  unfold codeD
  rw [Bool.eq_iff_iff]
  simp
  omega
theorem codeD_all (n : Nat) (v : Nat → Nat → Int) : mkL n v (codeD n 0) = mkL n v fun _ _ => true := mkL_ext v fun a b h hb => by
  unfold codeD
  rw [Bool.eq_iff_iff]
  simp
  omega
/-- Of the first row what lies ahead of i, and the other rows ahead of k with of row k what lies ahead of j. -/
def refD (i k j a b : Nat) : Bool := (decide (a = 0) && decide (b < i)) || (decide (0 < a) && decide (a < k)) || (decide (0 < a) && decide (a = k) && decide (b < j))
theorem refD_start (n : Nat) (v : Nat → Nat → Int) : mkL n v (refD 0 0 0) = mkL n v (fun _ _ => false) := mkL_ext v fun a b _ _ => by unfold refD; simp
theorem refD_first {n i : Nat} (v : Nat → Nat → Int) : mkL n v (more (refD i i 0) 0 i) = mkL n v (refD (i + 1) i i) := mkL_ext v fun a b h _ => by
  unfold more refD
  rw [Bool.eq_iff_iff]
  simp
  omega
theorem refD_next {n i j : Nat} (hi : 0 < i) (v : Nat → Nat → Int) : mkL n v (more (refD (i + 1) i j) i j) = mkL n v (refD (i + 1) i (j + 1)) := mkL_ext v fun a b _ _ => by
  unfold more refD
  rw [Bool.eq_iff_iff]
  simp
  omega
theorem refD_end {n i j : Nat} (hj : i = 0 ∨ j = n) (v : Nat → Nat → Int) : mkL n v (refD (i + 1) i j) = mkL n v (refD (i + 1) (i + 1) 0) := mkL_ext v fun a b h hb => by
  unfold refD
  rw [Bool.eq_iff_iff]
  simp
  omega
theorem refD_all (n : Nat) (v : Nat → Nat → Int) : mkL n v (refD n n 0) = mkL n v fun _ _ => true := mkL_ext v fun a b h hb => by
  unfold refD
  rw [Bool.eq_iff_iff]
  simp
  omega
/-- Where the entry lies. -/
theorem valU_first (first rest : List Int) {b : Nat} (h : b < first.length) : valU first.length (first ++ rest) 0 b = co first b := by
  unfold valU
  show co _ (0 + (b - 0)) = _
  rw [Nat.zero_add, Nat.sub_zero]
  unfold co
  rw [List.getElem?_append_left h]
theorem valU_rest (first rest : List Int) {a : Nat} (b : Nat) (h : 0 < a) : valU first.length (first ++ rest) a b = co rest (tri first.length a - first.length + (b - a)) := by
  have := tri_ge (n := first.length) h
  unfold valU co
  rw [List.getElem?_append_right (by omega), show tri first.length a + (b - a) - first.length = tri first.length a - first.length + (b - a) from by omega]
end MatMath
