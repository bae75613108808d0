/- What the deviations of a round make of messages, as functions with no Go in sight; the consequences that the laws name. No conditions. -/
import Derived.Test.YtbhphamfkhccpaaFMath
namespace PartyMath
open FieldMath PolyMath

/-- The word that stands behind a deviation; e is the echoed word. -/
def wrd (p kind k x e : Int) : Int := if kind = 1 then k % p else if kind = 2 then fadd p x (k % p) else if kind = 3 then fadd p x (fmul p (k % p) e) else x
/-- A message behind a deviation. -/
def told (p : Int) (d : Dv) (l : List Int) (e : Int) : List Int := if d.kind = 4 then [] else if d.at_ < l.length then l.set d.at_.toNat (wrd p d.kind d.k (co l d.at_.toNat) e) else l
/-- The word that an echo repeats. -/
def ech (cor : List Int) (d : Dv) (heard : List Int) : Int := if d.kind = 3 ∧ d.of_ ∉ cor then co heard d.src.toNat else 0
/-- Whether a deviation is effective in the round. -/
def eff (cor : List Int) (r : Int) (d : Dv) : Bool := decide (d.rnd = r) && decide (d.frm ∈ cor)
/-- Whether a deviation applies to the message to party j. -/
def cnc (d : Dv) (j : Int) : Bool := decide (j ≠ d.frm ∧ (d.to = 0 ∨ d.to = j))
def eM (cor : List Int) (d : Dv) (out : Nat → Nat → List Int) : Int := ech cor d (out (d.of_ - 1).toNat (d.frm - 1).toNat)
def eB (cor : List Int) (d : Dv) (out : Nat → List Int) : Int := ech cor d (out (d.of_ - 1).toNat)
/-- One deviation, at the first k receivers. -/
def stM (p : Int) (d : Dv) (e : Int) (k : Nat) (M : Nat → Nat → List Int) : Nat → Nat → List Int := fun i j => if ((i : Int) + 1 = d.frm ∧ j < k) ∧ cnc d ((j : Int) + 1) = true then told p d (M i j) e else M i j
def fM (p : Int) (cor : List Int) (N : Nat) (D : List Dv) (out M : Nat → Nat → List Int) : Nat → Nat → List Int := D.foldl (fun M d => stM p d (eM cor d out) N M) M
def stB (p : Int) (d : Dv) (e : Int) (M : Nat → List Int) : Nat → List Int := fun i => if (i : Int) + 1 = d.frm then told p d (M i) e else M i
def fB (p : Int) (cor : List Int) (D : List Dv) (out M : Nat → List Int) : Nat → List Int := D.foldl (fun M d => stB p d (eB cor d out) M) M
/-- The messages of a round behind its deviations. -/
def msF (p : Int) (cor : List Int) (N : Nat) (r : Int) (ds : List Dv) (out : Nat → Nat → List Int) : Nat → Nat → List Int := fM p cor N (ds.filter (eff cor r)) out out
def bcF (p : Int) (cor : List Int) (r : Int) (ds : List Dv) (out : Nat → List Int) : Nat → List Int := fB p cor (ds.filter (eff cor r)) out out

/-! ### One thing replaced -/
def up {α : Type} (f : Nat → α) (i : Nat) (x : α) : Nat → α := fun j => if j = i then x else f j
def up2 {α : Type} (f : Nat → Nat → α) (i j : Nat) (x : α) : Nat → Nat → α := fun a b => if a = i ∧ b = j then x else f a b
theorem up_at {α : Type} (f : Nat → α) (i : Nat) (x : α) : up f i x i = x := if_pos rfl
theorem up_else {α : Type} (f : Nat → α) {i j : Nat} (x : α) (h : j ≠ i) : up f i x j = f j := if_neg h
theorem up2_row {α : Type} (f : Nat → Nat → α) (i j : Nat) (x : α) : up2 f i j x i = up (f i) j x := by
  funext b; unfold up2 up; by_cases h : b = j <;> simp [h]
theorem up2_else {α : Type} (f : Nat → Nat → α) {i j a b : Nat} (x : α) (h : ¬ (a = i ∧ b = j)) : up2 f i j x a b = f a b := if_neg h
theorem up2_at {α : Type} (f : Nat → Nat → α) (i j : Nat) (x : α) : up2 f i j x i j = x := if_pos ⟨rfl, rfl⟩
theorem up2_far {α : Type} (f : Nat → Nat → α) {i a : Nat} (j : Nat) (x : α) (h : a ≠ i) : up2 f i j x a = f a := by
  funext b; unfold up2; rw [if_neg (fun e => h e.1)]
theorem map_up {α : Type} (f : Nat → α) (N i : Nat) (x : α) : ((List.range N).map f).set i x = (List.range N).map (up f i x) := by
  refine List.ext_getElem? fun j => ?_
  rw [List.getElem?_set]
  by_cases h : i = j
  · subst h
    rw [if_pos rfl, List.length_map, List.length_range, List.getElem?_map]
    by_cases hi : i < N
    · rw [if_pos hi, List.getElem?_range hi]; simp [up]
    · rw [if_neg hi, List.getElem?_eq_none (by simp; omega)]; rfl
  · rw [if_neg h, List.getElem?_map, List.getElem?_map]
    by_cases hj : j < N
    · rw [List.getElem?_range hj]; simp [up, Ne.symm h]
    · rw [List.getElem?_eq_none (by simp; omega)]; rfl
theorem get_map {α : Type} (f : Nat → α) {N i : Nat} (h : i < N) : ((List.range N).map f)[i]? = some (f i) := by
  rw [List.getElem?_map, List.getElem?_range h]; rfl
/-- The list at a place, or nothing. -/
def rAt (rows : List (List Int)) (i : Nat) : List Int := rows[i]?.getD []
def rAt2 (M : List (List (List Int))) (i j : Nat) : List Int := rAt (M[i]?.getD []) j
theorem rAt_at {rows : List (List Int)} {i : Nat} {r : List Int} (h : rows[i]? = some r) : rAt rows i = r := by unfold rAt; rw [h]; rfl

/-! ### The steps of the loops -/
theorem stM_zero (p : Int) (d : Dv) (e : Int) (M : Nat → Nat → List Int) : stM p d e 0 M = M := by
  funext i j; unfold stM; rw [if_neg (fun h => absurd h.1.2 (Nat.not_lt_zero _))]
theorem stM_at (p : Int) (d : Dv) (e : Int) (k i : Nat) (M : Nat → Nat → List Int) : stM p d e k M i k = M i k := by
  unfold stM; rw [if_neg (fun h => absurd h.1.2 (Nat.lt_irrefl _))]
theorem stM_yes {p : Int} {d : Dv} {e : Int} {k f : Nat} {M : Nat → Nat → List Int} (hf : (f : Int) + 1 = d.frm) (h : cnc d ((k : Int) + 1) = true) : stM p d e (k + 1) M = up2 (stM p d e k M) f k (told p d (M f k) e) := by
  funext i j
  unfold up2
  by_cases hij : i = f ∧ j = k
  · obtain ⟨rfl, rfl⟩ := hij
    rw [if_pos ⟨rfl, rfl⟩]
    unfold stM
    rw [if_pos ⟨⟨hf, Nat.lt_succ_self _⟩, h⟩]
  · rw [if_neg hij]
    unfold stM
    by_cases h1 : ((i : Int) + 1 = d.frm ∧ j < k) ∧ cnc d ((j : Int) + 1) = true
    · rw [if_pos h1, if_pos ⟨⟨h1.1.1, by omega⟩, h1.2⟩]
    · rw [if_neg h1, if_neg (fun h2 => h1 ⟨⟨h2.1.1, by
        have e1 : i = f := by have := h2.1.1; omega
        have e2 : j ≠ k := fun e2 => hij ⟨e1, e2⟩
        have := h2.1.2; omega⟩, h2.2⟩)]
theorem stM_no {p : Int} {d : Dv} {e : Int} {k : Nat} {M : Nat → Nat → List Int} (h : cnc d ((k : Int) + 1) = false) : stM p d e (k + 1) M = stM p d e k M := by
  funext i j
  unfold stM
  by_cases h1 : ((i : Int) + 1 = d.frm ∧ j < k) ∧ cnc d ((j : Int) + 1) = true
  · rw [if_pos h1, if_pos ⟨⟨h1.1.1, by omega⟩, h1.2⟩]
  · rw [if_neg h1, if_neg (fun h2 => h1 ⟨⟨h2.1.1, by
      have e2 : j ≠ k := fun e2 => by subst e2; rw [h2.2] at h; cases h
      have := h2.1.2; omega⟩, h2.2⟩)]
theorem stB_up {p : Int} {d : Dv} {e : Int} {f : Nat} {M : Nat → List Int} (hf : (f : Int) + 1 = d.frm) : stB p d e M = up M f (told p d (M f) e) := by
  funext i
  unfold stB up
  by_cases h : i = f
  · subst h; rw [if_pos hf, if_pos rfl]
  · rw [if_neg (by omega), if_neg h]
theorem fM_next {p : Int} {cor : List Int} {N : Nat} {D : List Dv} {out M : Nat → Nat → List Int} {k : Nat} {d : Dv} (h : D[k]? = some d) : fM p cor N (D.take (k + 1)) out M = stM p d (eM cor d out) N (fM p cor N (D.take k) out M) := by
  unfold fM; rw [List.take_add_one, h, List.foldl_append]; rfl
theorem fB_next {p : Int} {cor : List Int} {D : List Dv} {out M : Nat → List Int} {k : Nat} {d : Dv} (h : D[k]? = some d) : fB p cor (D.take (k + 1)) out M = stB p d (eB cor d out) (fB p cor (D.take k) out M) := by
  unfold fB; rw [List.take_add_one, h, List.foldl_append]; rfl
theorem filter_yes {q : Dv → Bool} {ds : List Dv} {k : Nat} {d : Dv} (h : ds[k]? = some d) (hq : q d = true) : (ds.take (k + 1)).filter q = (ds.take k).filter q ++ [d] := by
  rw [List.take_add_one, h, List.filter_append]; simp [hq]
theorem filter_no {q : Dv → Bool} {ds : List Dv} {k : Nat} {d : Dv} (h : ds[k]? = some d) (hq : q d = false) : (ds.take (k + 1)).filter q = (ds.take k).filter q := by
  rw [List.take_add_one, h, List.filter_append]; simp [hq]
theorem msF_yes {p : Int} {cor : List Int} {N : Nat} {r : Int} {ds : List Dv} {out : Nat → Nat → List Int} {k : Nat} {d : Dv} (h : ds[k]? = some d) (hq : eff cor r d = true) : msF p cor N r (ds.take (k + 1)) out = stM p d (eM cor d out) N (msF p cor N r (ds.take k) out) := by
  unfold msF fM; rw [filter_yes h hq, List.foldl_append]; rfl
theorem msF_no {p : Int} {cor : List Int} {N : Nat} {r : Int} {ds : List Dv} {out : Nat → Nat → List Int} {k : Nat} {d : Dv} (h : ds[k]? = some d) (hq : eff cor r d = false) : msF p cor N r (ds.take (k + 1)) out = msF p cor N r (ds.take k) out := by
  unfold msF; rw [filter_no h hq]
theorem bcF_yes {p : Int} {cor : List Int} {r : Int} {ds : List Dv} {out : Nat → List Int} {k : Nat} {d : Dv} (h : ds[k]? = some d) (hq : eff cor r d = true) : bcF p cor r (ds.take (k + 1)) out = stB p d (eB cor d out) (bcF p cor r (ds.take k) out) := by
  unfold bcF fB; rw [filter_yes h hq, List.foldl_append]; rfl
theorem bcF_no {p : Int} {cor : List Int} {r : Int} {ds : List Dv} {out : Nat → List Int} {k : Nat} {d : Dv} (h : ds[k]? = some d) (hq : eff cor r d = false) : bcF p cor r (ds.take (k + 1)) out = bcF p cor r (ds.take k) out := by
  unfold bcF; rw [filter_no h hq]

/-! ### Words stay words, and messages short -/
/-- Words of the field, at most twenty. -/
def Okm (p : Int) (l : List Int) : Prop := El p l ∧ l.length ≤ 20
theorem el_set {p : Int} {l : List Int} (h : El p l) {i : Nat} {x : Int} (hx : 0 ≤ x ∧ x < p) : El p (l.set i x) := fun z hz => by
  rcases List.mem_or_eq_of_mem_set hz with h1 | rfl
  · exact h z h1
  · exact hx
theorem el_co {p : Int} (hp : 0 < p) {l : List Int} (h : El p l) (i : Nat) : 0 ≤ co l i ∧ co l i < p := by
  by_cases hi : i < l.length
  · rw [co_get hi]; exact h _ (List.getElem_mem hi)
  · have e : co l i = 0 := by unfold co; rw [List.getElem?_eq_none (by omega)]; rfl
    rw [e]; omega
theorem wrd_bd {p : Int} (hp : 0 < p) {kind k x e : Int} (hx : 0 ≤ x ∧ x < p) : 0 ≤ wrd p kind k x e ∧ wrd p kind k x e < p := by
  unfold wrd fadd
  split
  · exact ⟨Int.emod_nonneg _ (by omega), Int.emod_lt_of_pos _ hp⟩
  · split
    · exact ⟨Int.emod_nonneg _ (by omega), Int.emod_lt_of_pos _ hp⟩
    · split
      · exact ⟨Int.emod_nonneg _ (by omega), Int.emod_lt_of_pos _ hp⟩
      · exact hx
theorem told_ok {p : Int} (hp : 0 < p) (d : Dv) {l : List Int} (e : Int) (h : Okm p l) : Okm p (told p d l e) := by
  unfold told
  split
  · exact ⟨(fun z hz => by cases hz), Nat.zero_le _⟩
  · split
    · exact ⟨el_set h.1 (wrd_bd hp (el_co hp h.1 _)), by rw [List.length_set]; exact h.2⟩
    · exact h
def Fin2 (p : Int) (M : Nat → Nat → List Int) : Prop := ∀ i j, Okm p (M i j)
def Fin1 (p : Int) (M : Nat → List Int) : Prop := ∀ i, Okm p (M i)
theorem stM_ok {p : Int} (hp : 0 < p) (d : Dv) (e : Int) (k : Nat) {M : Nat → Nat → List Int} (h : Fin2 p M) : Fin2 p (stM p d e k M) := fun i j => by
  unfold stM
  split
  · exact told_ok hp d e (h i j)
  · exact h i j
theorem stB_ok {p : Int} (hp : 0 < p) (d : Dv) (e : Int) {M : Nat → List Int} (h : Fin1 p M) : Fin1 p (stB p d e M) := fun i => by
  unfold stB
  split
  · exact told_ok hp d e (h i)
  · exact h i
theorem fM_ok {p : Int} (hp : 0 < p) (cor : List Int) (N : Nat) (out : Nat → Nat → List Int) : ∀ (D : List Dv) {M : Nat → Nat → List Int}, Fin2 p M → Fin2 p (fM p cor N D out M)
  | [], _, h => h
  | d :: D, _, h => fM_ok hp cor N out D (stM_ok hp d _ N h)
theorem fB_ok {p : Int} (hp : 0 < p) (cor : List Int) (out : Nat → List Int) : ∀ (D : List Dv) {M : Nat → List Int}, Fin1 p M → Fin1 p (fB p cor D out M)
  | [], _, h => h
  | d :: D, _, h => fB_ok hp cor out D (stB_ok hp d _ h)

/-! ### Message by message -/
/-- Whether a deviation applies to the message from party i + 1 to party j + 1. -/
def hit (N i j : Nat) (d : Dv) : Bool := decide (((i : Int) + 1 = d.frm ∧ j < N) ∧ cnc d ((j : Int) + 1) = true)
theorem fM_point (p : Int) (cor : List Int) (N : Nat) (out : Nat → Nat → List Int) (i j : Nat) : ∀ (D : List Dv) (M : Nat → Nat → List Int), fM p cor N D out M i j = (D.filter (hit N i j)).foldl (fun l d => told p d l (eM cor d out)) (M i j)
  | [], _ => rfl
  | d :: D, M => by
    show fM p cor N D out (stM p d (eM cor d out) N M) i j = _
    rw [fM_point p cor N out i j D]
    by_cases h : hit N i j d = true
    · rw [List.filter_cons_of_pos h]
      have : stM p d (eM cor d out) N M i j = told p d (M i j) (eM cor d out) := by unfold stM; rw [if_pos (of_decide_eq_true h)]
      rw [this]; rfl
    · rw [List.filter_cons_of_neg h]
      have : stM p d (eM cor d out) N M i j = M i j := by unfold stM; rw [if_neg (fun h' => h (decide_eq_true h'))]
      rw [this]
theorem fB_point (p : Int) (cor : List Int) (out : Nat → List Int) (i : Nat) : ∀ (D : List Dv) (M : Nat → List Int), fB p cor D out M i = (D.filter (fun d => decide ((i : Int) + 1 = d.frm))).foldl (fun l d => told p d l (eB cor d out)) (M i)
  | [], _ => rfl
  | d :: D, M => by
    show fB p cor D out (stB p d (eB cor d out) M) i = _
    rw [fB_point p cor out i D]
    by_cases h : (i : Int) + 1 = d.frm
    · rw [List.filter_cons_of_pos (by simpa using h)]
      have : stB p d (eB cor d out) M i = told p d (M i) (eB cor d out) := by unfold stB; rw [if_pos h]
      rw [this]; rfl
    · rw [List.filter_cons_of_neg (by simpa using h)]
      have : stB p d (eB cor d out) M i = M i := by unfold stB; rw [if_neg h]
      rw [this]
theorem filter_none {q : Dv → Bool} {D : List Dv} (h : ∀ d ∈ D, q d = false) : D.filter q = [] := by
  rw [List.filter_eq_nil_iff]
  exact fun d hd => by rw [h d hd]; simp
theorem eff_frm {cor : List Int} {r : Int} {d : Dv} (h : eff cor r d = true) : d.rnd = r ∧ d.frm ∈ cor := by
  unfold eff at h
  rw [Bool.and_eq_true, decide_eq_true_eq, decide_eq_true_eq] at h
  exact h
/-- An honest party's messages, and what a party sends to itself, are unchanged. -/
theorem msF_honest (p : Int) {cor : List Int} (N : Nat) (r : Int) (ds : List Dv) (out : Nat → Nat → List Int) {i : Nat} (j : Nat) (h : ((i : Int) + 1) ∉ cor) : msF p cor N r ds out i j = out i j := by
  unfold msF
  rw [fM_point, filter_none]
  · rfl
  · intro d hd
    have := (eff_frm (List.mem_filter.1 hd).2).2
    refine decide_eq_false fun h' => h ?_
    rw [h'.1.1]; exact this
theorem msF_self (p : Int) (cor : List Int) (N : Nat) (r : Int) (ds : List Dv) (out : Nat → Nat → List Int) (i : Nat) : msF p cor N r ds out i i = out i i := by
  unfold msF
  rw [fM_point, filter_none]
  · rfl
  · intro d _
    refine decide_eq_false fun h' => ?_
    have := of_decide_eq_true h'.2
    exact this.1 h'.1.1
theorem bcF_honest (p : Int) {cor : List Int} (r : Int) (ds : List Dv) (out : Nat → List Int) {i : Nat} (h : ((i : Int) + 1) ∉ cor) : bcF p cor r ds out i = out i := by
  unfold bcF
  rw [fB_point, filter_none]
  · rfl
  · intro d hd
    have := (eff_frm (List.mem_filter.1 hd).2).2
    refine decide_eq_false fun h' => h ?_
    rw [h']; exact this
/-- Deviations of other rounds have no effect. -/
theorem eff_round (cor : List Int) (r : Int) (ds : List Dv) : (ds.filter (fun d => decide (d.rnd = r))).filter (eff cor r) = ds.filter (eff cor r) := by
  rw [List.filter_filter]
  refine List.filter_congr fun d _ => ?_
  unfold eff
  cases decide (d.rnd = r) <;> simp
theorem msF_round (p : Int) (cor : List Int) (N : Nat) (r : Int) (ds : List Dv) (out : Nat → Nat → List Int) : msF p cor N r (ds.filter (fun d => decide (d.rnd = r))) out = msF p cor N r ds out := by unfold msF; rw [eff_round]
theorem bcF_round (p : Int) (cor : List Int) (r : Int) (ds : List Dv) (out : Nat → List Int) : bcF p cor r (ds.filter (fun d => decide (d.rnd = r))) out = bcF p cor r ds out := by unfold bcF; rw [eff_round]
theorem msF_nil (p : Int) (cor : List Int) (N : Nat) (r : Int) (out : Nat → Nat → List Int) : msF p cor N r [] out = out := rfl
theorem bcF_nil (p : Int) (cor : List Int) (r : Int) (out : Nat → List Int) : bcF p cor r [] out = out := rfl
/-- The order of deviations of different parties does not matter. -/
def kfst (k : Int) (ds : List Dv) : List Dv := ds.filter (fun d => decide (d.frm = k)) ++ ds.filter (fun d => decide (d.frm ≠ k))
theorem filter_kfst {q : Dv → Bool} {a : Int} (h : ∀ d, q d = true → d.frm = a) (k : Int) (ds : List Dv) : (kfst k ds).filter q = ds.filter q := by
  unfold kfst
  rw [List.filter_append, List.filter_filter, List.filter_filter]
  by_cases e : a = k
  · rw [filter_none (q := fun d => q d && decide (d.frm ≠ k)) (fun d _ => by
      cases hq : q d with
      | false => rfl
      | true => rw [Bool.true_and]; exact decide_eq_false (fun h' => h' ((h d hq).trans e))), List.append_nil]
    refine List.filter_congr fun d _ => ?_
    cases hq : q d with
    | false => rfl
    | true => rw [Bool.true_and]; exact decide_eq_true ((h d hq).trans e)
  · rw [filter_none (q := fun d => q d && decide (d.frm = k)) (fun d _ => by
      cases hq : q d with
      | false => rfl
      | true => rw [Bool.true_and]; exact decide_eq_false (fun h' => e ((h d hq).symm.trans h'))), List.nil_append]
    refine List.filter_congr fun d _ => ?_
    cases hq : q d with
    | false => rfl
    | true => rw [Bool.true_and]; exact decide_eq_true (fun h' => e ((h d hq).symm.trans h'))
theorem msF_order (p : Int) (cor : List Int) (N : Nat) (r : Int) (k : Int) (ds : List Dv) (out : Nat → Nat → List Int) : msF p cor N r (kfst k ds) out = msF p cor N r ds out := by
  funext i j
  unfold msF
  rw [fM_point, fM_point, List.filter_filter, List.filter_filter, filter_kfst (a := (i : Int) + 1)]
  intro d hd
  rw [Bool.and_eq_true] at hd
  exact (of_decide_eq_true hd.1).1.1.symm
theorem bcF_order (p : Int) (cor : List Int) (r : Int) (k : Int) (ds : List Dv) (out : Nat → List Int) : bcF p cor r (kfst k ds) out = bcF p cor r ds out := by
  funext i
  unfold bcF
  rw [fB_point, fB_point, List.filter_filter, List.filter_filter, filter_kfst (a := (i : Int) + 1)]
  intro d hd
  rw [Bool.and_eq_true] at hd
  exact (of_decide_eq_true hd.1).symm
/-- What corrupted parties send does not depend on what honest parties send to each other. -/
theorem foldl_same {α : Type} {f g : α → Dv → α} : ∀ (D : List Dv) (x : α), (∀ d ∈ D, ∀ y, f y d = g y d) → D.foldl f x = D.foldl g x
  | [], _, _ => rfl
  | d :: D, x, h => by
    rw [List.foldl_cons, List.foldl_cons, h d (List.mem_cons_self ..)]
    exact foldl_same D _ fun d' hd' => h d' (List.mem_cons_of_mem _ hd')
theorem msF_local {p : Int} {cor : List Int} {N : Nat} {r : Int} {ds : List Dv} {out out' : Nat → Nat → List Int} (hpos : ∀ x ∈ cor, 1 ≤ x) (hof : ∀ d ∈ ds, d.kind = 3 → 1 ≤ d.of_ ∧ d.of_ ≤ N) (hN : ∀ x ∈ cor, x ≤ N)
    (h : ∀ i j : Nat, i < N → j < N → ((i : Int) + 1 ∈ cor ∨ (j : Int) + 1 ∈ cor) → out' i j = out i j) {i j : Nat} (hi : i < N) (hj : j < N) (hc : (i : Int) + 1 ∈ cor) : msF p cor N r ds out' i j = msF p cor N r ds out i j := by
  unfold msF
  rw [fM_point, fM_point, h i j hi hj (.inl hc)]
  refine foldl_same _ _ fun d hd y => ?_
  have h1 := List.mem_filter.1 (List.mem_filter.1 hd).1
  have h2 := (eff_frm h1.2).2
  have h3 := hpos _ h2
  have h5 := hN _ h2
  have e : eM cor d out' = eM cor d out := by
    unfold eM ech
    by_cases hk : d.kind = 3 ∧ d.of_ ∉ cor
    · have h4 := hof d h1.1 hk.1
      rw [if_pos hk, if_pos hk, h _ _ (by omega) (by omega) (.inr (by rw [show (((d.frm - 1).toNat : Nat) : Int) + 1 = d.frm by omega]; exact h2))]
    · rw [if_neg hk, if_neg hk]
  rw [e]
/-- Added and taken away. -/
theorem set_self {l : List Int} {i : Nat} (h : i < l.length) : l.set i (co l i) = l := by
  refine List.ext_getElem? fun j => ?_
  rw [List.getElem?_set]
  by_cases e : i = j
  · subst e; rw [if_pos rfl, if_pos h, List.getElem?_eq_getElem h, co_get h]
  · rw [if_neg e]
theorem told_back {p : Int} (hp : 0 < p) {x y : Dv} {l : List Int} (e e' : Int) (hx : x.kind = 2) (hy : y.kind = 2) (ha : y.at_ = x.at_) (h0 : 0 ≤ x.at_) (hk : 0 ≤ x.k ∧ x.k < p) (hk' : y.k = (p - x.k) % p) (h : El p l) : told p y (told p x l e) e' = l := by
  have hx4 : ¬ x.kind = 4 := by omega
  have hy4 : ¬ y.kind = 4 := by omega
  by_cases hl : x.at_ < l.length
  · have e1 : told p x l e = l.set x.at_.toNat (fadd p (co l x.at_.toNat) (x.k % p)) := by
      unfold told wrd; rw [if_neg hx4, if_pos hl, hx]; rfl
    have hn : x.at_.toNat < l.length := by omega
    rw [e1]
    unfold told wrd
    rw [if_neg hy4, ha, List.length_set, if_pos hl, hy, if_neg (by decide), if_pos rfl, List.set_set]
    have e2 : co (l.set x.at_.toNat (fadd p (co l x.at_.toNat) (x.k % p))) x.at_.toNat = fadd p (co l x.at_.toNat) (x.k % p) := by
      unfold co; rw [List.getElem?_set_self hn]; rfl
    rw [e2]
    have hb := el_co hp h x.at_.toNat
    have e3 : fadd p (fadd p (co l x.at_.toNat) (x.k % p)) (y.k % p) = co l x.at_.toNat := by
      unfold fadd
      rw [hk', Int.emod_emod, Int.emod_add_emod, Int.add_emod_emod, show co l x.at_.toNat + x.k % p + (p - x.k) = co l x.at_.toNat + (x.k % p - x.k) + p by omega, Int.emod_eq_of_lt hk.1 hk.2, Int.sub_self, Int.add_zero, Int.add_emod_right]
      exact Int.emod_eq_of_lt hb.1 hb.2
    rw [e3, set_self hn]
  · have e1 : told p x l e = l := by unfold told; rw [if_neg hx4, if_neg hl]
    rw [e1]
    unfold told
    rw [if_neg hy4, ha, if_neg hl]
theorem msF_back {p : Int} (hp : 0 < p) {cor : List Int} (N : Nat) {r : Int} (ds : List Dv) {x y : Dv} {out : Nat → Nat → List Int} (ho : Fin2 p out) (hx : x.kind = 2) (hy : y.kind = 2) (ha : y.at_ = x.at_) (h0 : 0 ≤ x.at_) (hk : 0 ≤ x.k ∧ x.k < p) (hk' : y.k = (p - x.k) % p)
    (hf : y.frm = x.frm) (ht : y.to = x.to) (hr : y.rnd = x.rnd) : msF p cor N r (ds ++ [x, y]) out = msF p cor N r ds out := by
  unfold msF
  rw [List.filter_append]
  by_cases he : eff cor r x = true
  · have he' : eff cor r y = true := by unfold eff at he ⊢; rw [hf, hr]; exact he
    rw [show [x, y].filter (eff cor r) = [x, y] by simp [List.filter, he, he']]
    unfold fM
    rw [List.foldl_append]
    have hF := fM_ok hp cor N out (ds.filter (eff cor r)) ho
    unfold fM at hF
    generalize List.foldl (fun M d => stM p d (eM cor d out) N M) out (ds.filter (eff cor r)) = M at *
    funext i j
    show stM p y _ N (stM p x _ N M) i j = M i j
    unfold stM
    have hcc : cnc y = cnc x := by funext q; unfold cnc; rw [hf, ht]
    rw [hcc, hf]
    by_cases hq : ((i : Int) + 1 = x.frm ∧ j < N) ∧ cnc x ((j : Int) + 1) = true
    · rw [if_pos hq, if_pos hq]
      exact told_back hp _ _ hx hy ha h0 hk hk' (hF i j).1
    · rw [if_neg hq, if_neg hq]
  · have he' : ¬ eff cor r y = true := by unfold eff at he ⊢; rw [hf, hr]; exact he
    rw [show [x, y].filter (eff cor r) = [] by simp [List.filter, he, he'], List.append_nil]
theorem bcF_back {p : Int} (hp : 0 < p) {cor : List Int} {r : Int} (ds : List Dv) {x y : Dv} {out : Nat → List Int} (ho : Fin1 p out) (hx : x.kind = 2) (hy : y.kind = 2) (ha : y.at_ = x.at_) (h0 : 0 ≤ x.at_) (hk : 0 ≤ x.k ∧ x.k < p) (hk' : y.k = (p - x.k) % p)
    (hf : y.frm = x.frm) (hr : y.rnd = x.rnd) : bcF p cor r (ds ++ [x, y]) out = bcF p cor r ds out := by
  unfold bcF
  rw [List.filter_append]
  by_cases he : eff cor r x = true
  · have he' : eff cor r y = true := by unfold eff at he ⊢; rw [hf, hr]; exact he
    rw [show [x, y].filter (eff cor r) = [x, y] by simp [List.filter, he, he']]
    unfold fB
    rw [List.foldl_append]
    have hF := fB_ok hp cor out (ds.filter (eff cor r)) ho
    unfold fB at hF
    generalize List.foldl (fun M d => stB p d (eB cor d out) M) out (ds.filter (eff cor r)) = M at *
    funext i
    show stB p y _ (stB p x _ M) i = M i
    unfold stB
    rw [hf]
    by_cases hq : (i : Int) + 1 = x.frm
    · rw [if_pos hq, if_pos hq]
      exact told_back hp _ _ hx hy ha h0 hk hk' (hF i).1
    · rw [if_neg hq, if_neg hq]
  · have he' : ¬ eff cor r y = true := by unfold eff at he ⊢; rw [hf, hr]; exact he
    rw [show [x, y].filter (eff cor r) = [] by simp [List.filter, he, he'], List.append_nil]
/-- A final drop. -/
theorem msF_drop {p : Int} {cor : List Int} {N : Nat} {r : Int} (ds : List Dv) {z : Dv} (out : Nat → Nat → List Int) (hz : z.kind = 4) (ht : z.to = 0) (he : eff cor r z = true) {i j : Nat} (hi : (i : Int) + 1 = z.frm) (hj : j < N) (hij : j ≠ i) : msF p cor N r (ds ++ [z]) out i j = [] := by
  unfold msF
  rw [List.filter_append, show [z].filter (eff cor r) = [z] by simp [List.filter, he]]
  unfold fM
  rw [List.foldl_append]
  show stM p z _ N _ i j = []
  unfold stM
  rw [if_pos ⟨⟨hi, hj⟩, decide_eq_true ⟨by omega, .inl ht⟩⟩]
  unfold told
  rw [if_pos hz]
theorem bcF_drop {p : Int} {cor : List Int} {r : Int} (ds : List Dv) {z : Dv} (out : Nat → List Int) (hz : z.kind = 4) (he : eff cor r z = true) {i : Nat} (hi : (i : Int) + 1 = z.frm) : bcF p cor r (ds ++ [z]) out i = [] := by
  unfold bcF
  rw [List.filter_append, show [z].filter (eff cor r) = [z] by simp [List.filter, he]]
  unfold fB
  rw [List.foldl_append]
  show stB p z _ _ i = []
  unfold stB
  rw [if_pos hi]
  unfold told
  rw [if_pos hz]
end PartyMath
