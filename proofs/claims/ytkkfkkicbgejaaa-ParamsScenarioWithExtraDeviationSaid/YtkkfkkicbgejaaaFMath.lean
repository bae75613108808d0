/- Parties 1, .., n, coalitions, their extension, the polynomial that vanishes on it; deviations: with no Go in sight. Conditions: p one of the primes where said. -/
import Derived.Test.YtkkfkkicbgejaaaIFac
namespace PartyMath
open FieldMath PolyMath

/-- The parties 1, .., n. -/
def ps (n : Nat) : List Int := (List.range n).map fun k : Nat => (k : Int) + 1
theorem ps_succ (n : Nat) : ps (n + 1) = ps n ++ [(n : Int) + 1] := by unfold ps; rw [List.range_succ, List.map_append]; rfl
theorem ps_len (n : Nat) : (ps n).length = n := by unfold ps; simp
theorem mem_ps {n : Nat} {i : Int} : i ∈ ps n ↔ 1 ≤ i ∧ i ≤ n := by
  unfold ps
  rw [List.mem_map]
  constructor
  · rintro ⟨k, hk, rfl⟩
    have := List.mem_range.1 hk
    omega
  · rintro ⟨h1, h2⟩
    exact ⟨(i - 1).toNat, List.mem_range.2 (by omega), by omega⟩
theorem ps_lt : ∀ n, (ps n).Pairwise (· < ·)
  | 0 => List.Pairwise.nil
  | n + 1 => by
    rw [ps_succ, List.pairwise_append]
    refine ⟨ps_lt n, List.pairwise_singleton _ _, fun a ha b hb => ?_⟩
    have := mem_ps.1 ha
    rw [List.mem_singleton] at hb
    omega
/-- Those of the first n parties for which f says so. -/
def sel (f : Int → Bool) (n : Nat) : List Int := (ps n).filter f
theorem sel_succ (f : Int → Bool) (n : Nat) : sel f (n + 1) = if f ((n : Int) + 1) then sel f n ++ [(n : Int) + 1] else sel f n := by
  unfold sel
  rw [ps_succ, List.filter_append]
  by_cases h : f ((n : Int) + 1) = true
  · rw [if_pos h, List.filter_cons_of_pos h]; rfl
  · rw [if_neg h, List.filter_cons_of_neg h]; simp
theorem sel_yes {f : Int → Bool} {n : Nat} (h : f ((n : Int) + 1) = true) : sel f (n + 1) = sel f n ++ [(n : Int) + 1] := by rw [sel_succ, if_pos h]
theorem sel_no {f : Int → Bool} {n : Nat} (h : f ((n : Int) + 1) = false) : sel f (n + 1) = sel f n := by rw [sel_succ, if_neg (by rw [h]; simp)]
theorem mem_sel {f : Int → Bool} {n : Nat} {i : Int} : i ∈ sel f n ↔ (1 ≤ i ∧ i ≤ n) ∧ f i = true := by unfold sel; rw [List.mem_filter, mem_ps]
theorem sel_lt (f : Int → Bool) (n : Nat) : (sel f n).Pairwise (· < ·) := (ps_lt n).filter _
theorem sel_len (f : Int → Bool) (n : Nat) : (sel f n).length ≤ n := by have := List.length_filter_le f (ps n); rw [ps_len] at this; exact this
theorem sel_ext {f g : Int → Bool} {n : Nat} (h : ∀ i : Int, 1 ≤ i → i ≤ n → f i = g i) : sel f n = sel g n := by
  unfold sel
  exact List.filter_congr fun i hi => by have := mem_ps.1 hi; exact h i this.1 this.2
theorem sel_not (f : Int → Bool) : ∀ n, (sel f n).length + (sel (fun i => !f i) n).length = n
  | 0 => rfl
  | n + 1 => by
    have ih := sel_not f n
    rw [sel_succ, sel_succ]
    cases h : f ((n : Int) + 1) <;> simp <;> omega
theorem sel_or (f g : Int → Bool) (h : ∀ i, f i = true → g i = false) : ∀ n, (sel (fun i => f i || g i) n).length = (sel f n).length + (sel g n).length
  | 0 => rfl
  | n + 1 => by
    have ih := sel_or f g h n
    rw [sel_succ, sel_succ, sel_succ]
    cases hf : f ((n : Int) + 1) with
    | true => rw [h _ hf]; simp; omega
    | false => cases hg : g ((n : Int) + 1) <;> simp <;> omega
/-- Two ascending lists with the same members are equal. -/
theorem asc_ext : ∀ {xs ys : List Int}, xs.Pairwise (· < ·) → ys.Pairwise (· < ·) → (∀ i, i ∈ xs ↔ i ∈ ys) → xs = ys
  | [], [], _, _, _ => rfl
  | [], y :: ys, _, _, h => absurd ((h y).2 (List.mem_cons_self ..)) List.not_mem_nil
  | x :: xs, [], _, _, h => absurd ((h x).1 (List.mem_cons_self ..)) List.not_mem_nil
  | x :: xs, y :: ys, hx, hy, h => by
    rw [List.pairwise_cons] at hx hy
    have e : x = y := by
      rcases List.mem_cons.1 ((h x).1 (List.mem_cons_self ..)) with h1 | h1
      · exact h1
      · rcases List.mem_cons.1 ((h y).2 (List.mem_cons_self ..)) with h2 | h2
        · exact h2.symm
        · have := hx.1 y h2; have := hy.1 x h1; omega
    subst e
    rw [asc_ext hx.2 hy.2 fun i => ?_]
    constructor
    · intro hi
      rcases List.mem_cons.1 ((h i).1 (List.mem_cons_of_mem _ hi)) with h1 | h1
      · have := hx.1 i hi; omega
      · exact h1
    · intro hi
      rcases List.mem_cons.1 ((h i).2 (List.mem_cons_of_mem _ hi)) with h1 | h1
      · have := hy.1 i hi; omega
      · exact h1

/-- Ascending from above l, up to n. -/
def asc (n : Int) : Int → List Int → Bool
  | _, [] => true
  | l, x :: xs => decide (l + 1 ≤ x ∧ x ≤ n) && asc n x xs
theorem asc_iff (n : Int) : ∀ (xs : List Int) (l : Int), asc n l xs = true ↔ (∀ x ∈ xs, l < x ∧ x ≤ n) ∧ xs.Pairwise (· < ·)
  | [], l => by simp [asc]
  | x :: xs, l => by
    unfold asc
    rw [Bool.and_eq_true, decide_eq_true_eq, asc_iff n xs x, List.pairwise_cons]
    constructor
    · rintro ⟨⟨h1, h2⟩, h3, h4⟩
      exact ⟨fun y hy => by
        rcases List.mem_cons.1 hy with rfl | hy
        · omega
        · have := h3 y hy; omega, fun y hy => (h3 y hy).1, h4⟩
    · rintro ⟨h1, h2, h3⟩
      have hx := h1 x (List.mem_cons_self ..)
      exact ⟨by omega, fun y hy => ⟨h2 y hy, (h1 y (List.mem_cons_of_mem _ hy)).2⟩, h3⟩
/-- The last of the first k numbers, or 0. -/
def lst (xs : List Int) (k : Nat) : Int := if k = 0 then 0 else co xs (k - 1)
theorem lst_succ (xs : List Int) (k : Nat) : lst xs (k + 1) = co xs k := by unfold lst; rw [if_neg (Nat.succ_ne_zero k)]; rfl
theorem asc_snoc (n : Int) : ∀ (xs : List Int) (l x : Int), asc n l (xs ++ [x]) = (asc n l xs && decide ((xs.getLast?.getD l) + 1 ≤ x ∧ x ≤ n))
  | [], l, x => by show (decide (l + 1 ≤ x ∧ x ≤ n) && true) = (true && decide (l + 1 ≤ x ∧ x ≤ n)); rw [Bool.and_true, Bool.true_and]
  | y :: xs, l, x => by
    show (decide (l + 1 ≤ y ∧ y ≤ n) && asc n y (xs ++ [x])) = _
    rw [asc_snoc n xs y x, ← Bool.and_assoc]
    congr 3
    cases xs with
    | nil => rfl
    | cons z zs => simp [List.getLast?_eq_some_getLast]
theorem last_take {xs : List Int} : ∀ {k : Nat}, k ≤ xs.length → (xs.take k).getLast?.getD 0 = lst xs k
  | 0, _ => by simp [lst]
  | k + 1, h => by
    rw [lst_succ, List.take_add_one, List.getElem?_eq_getElem (show k < xs.length by omega), co_get (show k < xs.length by omega), Option.toList_some, List.getLast?_concat]
    rfl
theorem asc_next {xs : List Int} {n : Int} {k : Nat} {x : Int} (h : xs[k]? = some x) : asc n 0 (xs.take (k + 1)) = (asc n 0 (xs.take k) && decide (lst xs k + 1 ≤ x ∧ x ≤ n)) := by
  have hk := (List.getElem?_eq_some_iff.1 h).1
  rw [List.take_add_one, h]
  show asc n 0 (xs.take k ++ [x]) = _
  rw [asc_snoc, last_take (by omega)]
theorem asc_cut {n : Int} : ∀ {xs : List Int} {l : Int} (k : Nat), asc n l xs = true → asc n l (xs.take k) = true
  | [], _, _, _ => by simp [asc]
  | _ :: _, _, 0, _ => by simp [asc]
  | x :: xs, l, k + 1, h => by
    rw [List.take_succ_cons]
    unfold asc at h ⊢
    rw [Bool.and_eq_true] at h ⊢
    exact ⟨h.1, asc_cut k h.2⟩
theorem asc_bad {xs : List Int} {n : Int} {k : Nat} (h : asc n 0 (xs.take k) = false) : asc n 0 xs = false := by
  cases e : asc n 0 xs with
  | false => rfl
  | true => rw [asc_cut k e] at h; cases h
theorem asc_sel (f : Int → Bool) (n : Nat) : asc n 0 (sel f n) = true := (asc_iff _ _ _).2 ⟨fun x hx => by have := (mem_sel.1 hx).1; omega, sel_lt f n⟩
/-- An ascending list of parties is the list of its members. -/
theorem asc_own {n : Nat} {xs : List Int} (h : asc n 0 xs = true) : sel (fun i => decide (i ∈ xs)) n = xs := by
  have h1 := (asc_iff _ _ _).1 h
  refine asc_ext (sel_lt _ n) h1.2 fun i => ?_
  rw [mem_sel, decide_eq_true_eq]
  constructor
  · exact fun h => h.2
  · intro hi; have := h1.1 i hi; exact ⟨by omega, hi⟩

/-- The parties outside. -/
def hon (xs : List Int) (n : Nat) : List Int := sel (fun i => decide (i ∉ xs)) n
theorem mem_hon {xs : List Int} {n : Nat} {i : Int} : i ∈ hon xs n ↔ (1 ≤ i ∧ i ≤ n) ∧ i ∉ xs := by unfold hon; rw [mem_sel, decide_eq_true_eq]
theorem hon_len {n : Nat} {xs : List Int} (h : asc n 0 xs = true) : xs.length + (hon xs n).length = n := by
  have h1 := sel_not (fun i => decide (i ∈ xs)) n
  rw [asc_own h] at h1
  have h2 : hon xs n = sel (fun i => !decide (i ∈ xs)) n := by
    unfold hon; congr 1; funext i; rw [decide_not]
  rw [h2]; exact h1
/-- Whether party i is a member, or one of the m smallest others. -/
def inE (xs : List Int) (n m : Nat) (i : Int) : Bool := decide (i ∈ xs) || decide (i ∈ (hon xs n).take m)
/-- The extension by the m smallest others. -/
def ext (xs : List Int) (n m : Nat) : List Int := sel (inE xs n m) n
theorem take_sel {n m : Nat} {xs : List Int} : sel (fun i => decide (i ∈ (hon xs n).take m)) n = (hon xs n).take m :=
  asc_ext (sel_lt _ n) ((sel_lt _ n).sublist (List.take_sublist m _)) fun i => by
    rw [mem_sel, decide_eq_true_eq]
    exact ⟨fun h => h.2, fun h => ⟨(mem_hon.1 (List.mem_of_mem_take h)).1, h⟩⟩
theorem ext_len {n m : Nat} {xs : List Int} (h : asc n 0 xs = true) (hm : xs.length + m ≤ n) : (ext xs n m).length = xs.length + m := by
  unfold ext inE
  rw [sel_or _ _ fun i hi => by
    rw [decide_eq_true_eq] at hi
    exact decide_eq_false fun h => (mem_hon.1 (List.mem_of_mem_take h)).2 hi]
  rw [asc_own h, take_sel, List.length_take]
  have := hon_len h
  omega
theorem ext_zero {n : Nat} {xs : List Int} (h : asc n 0 xs = true) : ext xs n 0 = xs := by
  unfold ext inE
  rw [← asc_own h]
  refine sel_ext fun i _ _ => ?_
  rw [asc_own h]
  simp
theorem mem_ext {xs : List Int} {n m : Nat} {i : Int} : i ∈ ext xs n m ↔ (1 ≤ i ∧ i ≤ n) ∧ inE xs n m i = true := mem_sel
theorem ext_in {xs : List Int} {n m : Nat} {i : Int} (h1 : 1 ≤ i) (h2 : i ≤ n) (h : i ∈ xs) : i ∈ ext xs n m := mem_ext.2 ⟨⟨h1, h2⟩, by unfold inE; rw [decide_eq_true h]; rfl⟩
/-- A party that is none of the list extends it just if fewer than m others are smaller. -/
theorem hon_split (xs : List Int) (k : Nat) : ∀ d, ∃ r, hon xs (k + d) = hon xs k ++ r ∧ ∀ i ∈ r, (k : Int) < i
  | 0 => ⟨[], by simp, fun i h => by cases h⟩
  | d + 1 => by
    obtain ⟨r, h1, h2⟩ := hon_split xs k d
    by_cases h : (((k + d : Nat) : Int) + 1) ∈ xs
    · exact ⟨r, by rw [← h1]; exact sel_no (decide_eq_false (fun h' => h' h)), h2⟩
    · refine ⟨r ++ [((k + d : Nat) : Int) + 1], ?_, fun i hi => ?_⟩
      · rw [← List.append_assoc, ← h1]; exact sel_yes (decide_eq_true h)
      · rcases List.mem_append.1 hi with h3 | h3
        · exact h2 i h3
        · rw [List.mem_singleton] at h3; omega
theorem inE_next {xs : List Int} {n m k : Nat} (hk : k < n) (hx : ((k : Int) + 1) ∉ xs) : inE xs n m ((k : Int) + 1) = decide ((hon xs k).length < m) := by
  obtain ⟨r, h1, h2⟩ := hon_split xs (k + 1) (n - (k + 1))
  rw [show k + 1 + (n - (k + 1)) = n by omega] at h1
  have h3 : hon xs (k + 1) = hon xs k ++ [(k : Int) + 1] := sel_yes (decide_eq_true hx)
  unfold inE
  rw [decide_eq_false hx, Bool.false_or, h1, h3]
  rw [decide_eq_decide]
  constructor
  · intro h
    rcases Nat.lt_or_ge (hon xs k).length m with h4 | h4
    · exact h4
    · exfalso
      rw [List.append_assoc, List.take_append_of_le_length h4] at h
      have := (mem_hon.1 (List.mem_of_mem_take h)).1
      omega
  · intro h
    rw [List.take_append]
    refine List.mem_append_left _ ?_
    rw [List.take_of_length_le (by simp; omega)]
    simp
theorem inE_has {xs : List Int} {n m : Nat} {i : Int} (h : i ∈ xs) : inE xs n m i = true := by unfold inE; rw [decide_eq_true h]; rfl

/-! ### The polynomial that vanishes on a list -/
/-- The factor 1 - x/k. -/
def fac (p k : Int) : List Int := [1, fneg p (finv p k)]
theorem fac_el {p : Int} (hp : 1 < p) (k : Int) : El p (fac p k) := by
  intro z hz
  simp only [fac, List.mem_cons, List.not_mem_nil, or_false] at hz
  rcases hz with rfl | rfl
  · omega
  · exact fneg_bd p _ (by omega)
theorem pev_fac (p k x : Int) : pev p (fac p k) x = (1 - x * finv p k) % p := by
  show (1 + x * (fneg p (finv p k) + x * 0)) % p = _
  rw [Int.mul_zero, Int.add_zero]
  unfold fneg
  rw [Int.sub_eq_add_neg, ← Int.mul_neg]
  exact ma rfl (mm rfl (mdd p _))
/-- The product of the factors. -/
def vp (p : Int) : List Int → List Int → List Int
  | m, [] => m
  | m, k :: ks => vp p (pmul p m (fac p k)) ks
theorem vp_snoc (p : Int) : ∀ (ks m : List Int) (k : Int), vp p m (ks ++ [k]) = pmul p (vp p m ks) (fac p k)
  | [], _, _ => rfl
  | d :: ks, m, k => vp_snoc p ks (pmul p m (fac p d)) k
theorem vp_take (p : Int) {ks : List Int} {i : Nat} {k : Int} (h : ks[i]? = some k) : vp p [1] (ks.take (i + 1)) = pmul p (vp p [1] (ks.take i)) (fac p k) := by
  rw [List.take_add_one, h]
  exact vp_snoc p (ks.take i) [1] k
theorem vp_el {p : Int} (hp : 0 < p) : ∀ (ks m : List Int), El p m → El p (vp p m ks)
  | [], _, h => h
  | _ :: ks, _, _ => vp_el hp ks _ (pmul_el hp _ _)
theorem vp_trim (p : Int) : ∀ (ks m : List Int), trim m = m → trim (vp p m ks) = vp p m ks
  | [], _, h => h
  | _ :: ks, _, _ => vp_trim p ks _ (pmul_trim _ _ _)
theorem vp_len (p : Int) : ∀ (ks m : List Int), (vp p m ks).length ≤ m.length + ks.length
  | [], _ => Nat.le_refl _
  | k :: ks, m => by
    have h1 := vp_len p ks (pmul p m (fac p k))
    have h2 := pmul_len p m (fac p k)
    rw [show (fac p k).length = 2 from rfl] at h2
    show (vp p (pmul p m (fac p k)) ks).length ≤ _
    rw [List.length_cons]; omega
theorem vp_zero {p : Int} (hp : 1 < p) : ∀ (ks m : List Int), pev p m 0 = 1 → pev p (vp p m ks) 0 = 1
  | [], _, h => h
  | k :: ks, m, h => vp_zero hp ks _ (by
    rw [pev_pmul, h, pev_fac, Int.zero_mul, Int.sub_zero]
    unfold fmul
    rw [Int.one_mul, mdd]; exact small (by omega) hp)
theorem vp_stay {p : Int} (x : Int) : ∀ (ks m : List Int), pev p m x = 0 → pev p (vp p m ks) x = 0
  | [], _, h => h
  | k :: ks, m, h => vp_stay x ks _ (by rw [pev_pmul, h]; unfold fmul; rw [Int.zero_mul, Int.zero_emod])
theorem vp_hit {p : Int} (h : GoodI p) {x : Int} : ∀ (ks m : List Int), (∀ k ∈ ks, 0 < k ∧ k < p) → x ∈ ks → pev p (vp p m ks) x = 0
  | k :: ks, m, hb, hx => by
    by_cases e : x = k
    · subst e
      have hk := hb x (List.mem_cons_self ..)
      have hi : (x * finv p x) % p = 1 := h.inv hk.1 hk.2
      refine vp_stay x ks _ ?_
      have h2 := h.two
      rw [pev_pmul, pev_fac]
      have e0 : (1 - x * finv p x) % p = 0 := (ms (p := p) (a := 1) (b := 1) rfl (hi.trans (small (by omega) (by omega)).symm)).trans (by rw [Int.sub_self, Int.zero_emod])
      rw [e0]
      unfold fmul
      rw [Int.mul_zero, Int.zero_emod]
    · exact vp_hit h ks _ (fun y hy => hb y (List.mem_cons_of_mem _ hy)) (by
        rcases List.mem_cons.1 hx with h1 | h1
        · exact absurd h1 e
        · exact h1)
/-- The points of interpolation: 1 at 0, 0 at each of the list. -/
def vpts (ks : List Int) : List (Int × Int) := (0, 1) :: ks.map fun k => (k, 0)
theorem vpts_len (ks : List Int) : (vpts ks).length = ks.length + 1 := by unfold vpts; simp
theorem vpts_px (ks : List Int) : px (vpts ks) = 0 :: ks := by unfold vpts px; simp [List.map_map, Function.comp_def]
theorem vpts_snoc (ks : List Int) (k : Int) : vpts (ks ++ [k]) = vpts ks ++ [(k, 0)] := by unfold vpts; simp
theorem vpts_py (ks : List Int) : py (vpts ks) = 1 :: ks.map fun _ => 0 := by unfold vpts py; simp [List.map_map, Function.comp_def]
/-- A list of places: different, between 0 and p. -/
structure Plc (p : Int) (ks : List Int) : Prop where
  nd : ks.Nodup
  bd : ∀ k ∈ ks, 0 < k ∧ k < p
theorem Plc.nodup {p : Int} {ks : List Int} (h : Plc p ks) : (px (vpts ks)).Nodup := by
  rw [vpts_px, List.nodup_cons]
  exact ⟨fun hm => by have := (h.bd 0 hm).1; omega, h.nd⟩
theorem Plc.ex {p : Int} {ks : List Int} (h : Plc p ks) (hp : 1 < p) : El p (px (vpts ks)) := by
  rw [vpts_px]
  intro x hx
  rcases List.mem_cons.1 hx with rfl | hx
  · omega
  · have := h.bd x hx; omega
theorem vpts_ey {p : Int} (hp : 1 < p) (ks : List Int) : El p (py (vpts ks)) := by
  rw [vpts_py]
  intro x hx
  rcases List.mem_cons.1 hx with rfl | hx
  · omega
  · obtain ⟨k, _, rfl⟩ := List.mem_map.1 hx; omega
theorem vp_itp {p : Int} (h : GoodI p) {ks : List Int} (hk : Plc p ks) : Itp p (px (vpts ks)) (py (vpts ks)) (vp p [1] ks) where
  ft := vp_trim _ _ _ rfl
  fe := vp_el (by have := h.two; omega) _ _ (El.one (by have := h.two; omega))
  fl := by have := vp_len p ks [1]; rw [vpts_px, List.length_cons]; rw [List.length_singleton] at this; omega
  at_ := fun i hi => by
    have h2 := h.two
    rw [vpts_px, List.length_cons] at hi
    rw [vpts_px, vpts_py]
    cases i with
    | zero => exact vp_zero (by omega) ks [1] (pev_one (by omega) 0)
    | succ i =>
      have e1 : co (0 :: ks) (i + 1) = co ks i := rfl
      have e2 : co (1 :: ks.map fun _ => (0 : Int)) (i + 1) = 0 := by
        show co (ks.map fun _ => (0 : Int)) i = 0
        rw [co_get (show i < (ks.map fun _ => (0 : Int)).length by rw [List.length_map]; omega), List.getElem_map]
      rw [e1, e2]
      exact vp_hit h ks [1] hk.bd (co_mem (by omega))
theorem thru_vp {p : Int} (h : GoodI p) {ks : List Int} (hk : Plc p ks) : thru p (vpts ks) = vp p [1] ks := by
  have h2 := h.two
  exact (thru_itp h hk.nodup (hk.ex (by omega)) (vpts_ey (by omega) ks)).unique h hk.nodup (hk.ex (by omega)) (vp_itp h hk)
theorem vp_tn {p : Int} (h : GoodI p) {ks : List Int} (hk : Plc p ks) : tn (vp p [1] ks) = ks.length + 1 ∧ (vp p [1] ks).length = ks.length + 1 := by
  have h2 := h.two
  have hl := vp_len p ks [1]
  rw [List.length_singleton] at hl
  have ht : tn (vp p [1] ks) = (vp p [1] ks).length := by rw [← trim_length, vp_trim _ _ _ rfl]
  have h0 : 0 < tn (vp p [1] ks) := by
    rcases Nat.eq_zero_or_pos (tn (vp p [1] ks)) with h0 | h0
    · exfalso
      rw [ht] at h0
      have e := vp_zero (p := p) (by omega) ks [1] (pev_one (by omega) 0)
      rw [List.eq_nil_of_length_eq_zero h0, pev_nil] at e
      omega
    · exact h0
  have hz := zeros_list h (vp_el (by omega) ks [1] (El.one (by omega))) h0 hk.nd (fun x hx => by have := hk.bd x hx; omega) (fun x hx => vp_hit h ks [1] hk.bd hx)
  omega
theorem vp_top {p : Int} (h : GoodI p) {ks : List Int} (hk : Plc p ks) : co (vp p [1] ks) ks.length ≠ 0 := by
  have h1 := (vp_tn h hk).1
  have := tn_top (vp p [1] ks) (by omega)
  rwa [h1] at this
/-- Its roots are the listed places alone. -/
theorem vp_root {p : Int} (h : GoodI p) {ks : List Int} (hk : Plc p ks) {x : Int} (h0 : 0 < x) (hx : x < p) : pev p (vp p [1] ks) x = 0 ↔ x ∈ ks := by
  refine ⟨fun e => ?_, vp_hit h ks [1] hk.bd⟩
  have h2 := h.two
  by_cases hm : x ∈ ks
  · exact hm
  · exfalso
    have h1 := (vp_tn h hk).1
    have hz := zeros_list h (vp_el (by omega) ks [1] (El.one (by omega))) (by omega) (L := x :: ks) (List.nodup_cons.2 ⟨hm, hk.nd⟩) (fun y hy => by
      rcases List.mem_cons.1 hy with rfl | hy
      · omega
      · have := hk.bd y hy; omega) (fun y hy => by
      rcases List.mem_cons.1 hy with rfl | hy
      · exact e
      · exact vp_hit h ks [1] hk.bd hy)
    rw [h1, List.length_cons] at hz
    omega
theorem ext_plc {p : Int} {n : Nat} (hn : (n : Int) < p) (xs : List Int) (m : Nat) : Plc p (ext xs n m) :=
  ⟨(sel_lt _ n).imp fun h e => by omega, fun k hk => by have := (mem_ext.1 hk).1; omega⟩
/-- Two extensions with one polynomial are the same. -/
theorem vp_inj {p : Int} (h : GoodI p) {n : Nat} (hn : (n : Int) < p) {as bs : List Int} {m k : Nat} (e : vp p [1] (ext as n m) = vp p [1] (ext bs n k)) : ext as n m = ext bs n k := by
  refine asc_ext (sel_lt _ n) (sel_lt _ n) fun i => ?_
  have hA := ext_plc hn as m
  have hB := ext_plc hn bs k
  constructor
  · intro hi
    have hb := hA.bd i hi
    exact (vp_root h hB hb.1 hb.2).1 (by rw [← e]; exact (vp_root h hA hb.1 hb.2).2 hi)
  · intro hi
    have hb := hB.bd i hi
    exact (vp_root h hA hb.1 hb.2).1 (by rw [e]; exact (vp_root h hB hb.1 hb.2).2 hi)

/-! ### Deviations -/
/-- Round, From, To, At, Kind, K, Of, SrcIndex. -/
structure Dv where
  rnd : Int
  frm : Int
  to : Int
  at_ : Int
  kind : Int
  k : Int
  of_ : Int
  src : Int
/-- Whether a deviation is valid. -/
def dvB (n : Int) (d : Dv) : Bool :=
  decide (0 ≤ d.rnd ∧ 0 ≤ d.at_ ∧ 0 ≤ d.src ∧ 1 ≤ d.frm ∧ d.frm ≤ n ∧ 0 ≤ d.to ∧ d.to ≤ n ∧ 1 ≤ d.kind ∧ d.kind ≤ 4 ∧ 0 ≤ d.of_ ∧ d.of_ ≤ n ∧ (d.kind = 3 → 1 ≤ d.of_))
end PartyMath
