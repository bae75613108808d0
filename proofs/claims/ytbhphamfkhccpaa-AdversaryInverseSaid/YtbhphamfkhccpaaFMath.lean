/- Parties 1, .., n, coalitions, their extension, the polynomial that vanishes on it; deviations: with no Go in sight. Conditions: p one of the primes where said. -/
import Derived.Test.YtbhphamfkhccpaaPStep
namespace PartyMath
open FieldMath PolyMath

theorem co_mem {xs : List Int} {i : Nat} (h : i < xs.length) : co xs i ∈ xs := by rw [co_get h]; exact List.getElem_mem h
/-- The parties 1, .., n. -/
def ps (n : Nat) : List Int := (List.range n).map fun k : Nat => (k : Int) + 1
theorem ps_succ (n : Nat) : ps (n + 1) = ps n ++ [(n : Int) + 1] := by unfold ps; rw [List.range_succ, List.map_append]; rfl
theorem ps_len (n : Nat) : (ps n).length = n := by unfold ps; simp
theorem mem_ps {n : Nat} {i : Int} : i ∈ ps n ↔ 1 ≤ i ∧ i ≤ n := by
  unfold ps
  rw [List.mem_map]
  constructor
  · rintro ⟨k, hk, rfl⟩
    have := List.mem_range.1 hk
    omega
  · rintro ⟨h1, h2⟩
    exact ⟨(i - 1).toNat, List.mem_range.2 (by omega), by omega⟩
theorem ps_lt : ∀ n, (ps n).Pairwise (· < ·)
  | 0 => List.Pairwise.nil
  | n + 1 => by
    rw [ps_succ, List.pairwise_append]
    refine ⟨ps_lt n, List.pairwise_singleton _ _, fun a ha b hb => ?_⟩
    have := mem_ps.1 ha
    rw [List.mem_singleton] at hb
    omega
/-- Those of the first n parties for which f says so. -/
def sel (f : Int → Bool) (n : Nat) : List Int := (ps n).filter f
theorem sel_succ (f : Int → Bool) (n : Nat) : sel f (n + 1) = if f ((n : Int) + 1) then sel f n ++ [(n : Int) + 1] else sel f n := by
  unfold sel
  rw [ps_succ, List.filter_append]
  by_cases h : f ((n : Int) + 1) = true
  · rw [if_pos h, List.filter_cons_of_pos h]; rfl
  · rw [if_neg h, List.filter_cons_of_neg h]; simp
theorem sel_yes {f : Int → Bool} {n : Nat} (h : f ((n : Int) + 1) = true) : sel f (n + 1) = sel f n ++ [(n : Int) + 1] := by rw [sel_succ, if_pos h]
theorem sel_no {f : Int → Bool} {n : Nat} (h : f ((n : Int) + 1) = false) : sel f (n + 1) = sel f n := by rw [sel_succ, if_neg (by rw [h]; simp)]
theorem mem_sel {f : Int → Bool} {n : Nat} {i : Int} : i ∈ sel f n ↔ (1 ≤ i ∧ i ≤ n) ∧ f i = true := by unfold sel; rw [List.mem_filter, mem_ps]
theorem sel_lt (f : Int → Bool) (n : Nat) : (sel f n).Pairwise (· < ·) := (ps_lt n).filter _
theorem sel_len (f : Int → Bool) (n : Nat) : (sel f n).length ≤ n := by have := List.length_filter_le f (ps n); rw [ps_len] at this; exact this
theorem sel_ext {f g : Int → Bool} {n : Nat} (h : ∀ i : Int, 1 ≤ i → i ≤ n → f i = g i) : sel f n = sel g n := by
  unfold sel
  exact List.filter_congr fun i hi => by have := mem_ps.1 hi; exact h i this.1 this.2
theorem sel_not (f : Int → Bool) : ∀ n, (sel f n).length + (sel (fun i => !f i) n).length = n
  | 0 => rfl
  | n + 1 => by
    have ih := sel_not f n
    rw [sel_succ, sel_succ]
    cases h : f ((n : Int) + 1) <;> simp <;> omega
theorem sel_or (f g : Int → Bool) (h : ∀ i, f i = true → g i = false) : ∀ n, (sel (fun i => f i || g i) n).length = (sel f n).length + (sel g n).length
  | 0 => rfl
  | n + 1 => by
    have ih := sel_or f g h n
    rw [sel_succ, sel_succ, sel_succ]
    cases hf : f ((n : Int) + 1) with
    | true => rw [h _ hf]; simp; omega
    | false => cases hg : g ((n : Int) + 1) <;> simp <;> omega
/-- Two ascending lists with the same members are equal. -/
theorem asc_ext : ∀ {xs ys : List Int}, xs.Pairwise (· < ·) → ys.Pairwise (· < ·) → (∀ i, i ∈ xs ↔ i ∈ ys) → xs = ys
  | [], [], _, _, _ => rfl
  | [], y :: ys, _, _, h => absurd ((h y).2 (List.mem_cons_self ..)) List.not_mem_nil
  | x :: xs, [], _, _, h => absurd ((h x).1 (List.mem_cons_self ..)) List.not_mem_nil
  | x :: xs, y :: ys, hx, hy, h => by
    rw [List.pairwise_cons] at hx hy
    have e : x = y := by
      rcases List.mem_cons.1 ((h x).1 (List.mem_cons_self ..)) with h1 | h1
      · exact h1
      · rcases List.mem_cons.1 ((h y).2 (List.mem_cons_self ..)) with h2 | h2
        · exact h2.symm
        · have := hx.1 y h2; have := hy.1 x h1; omega
    subst e
    rw [asc_ext hx.2 hy.2 fun i => ?_]
    constructor
    · intro hi
      rcases List.mem_cons.1 ((h i).1 (List.mem_cons_of_mem _ hi)) with h1 | h1
      · have := hx.1 i hi; omega
      · exact h1
    · intro hi
      rcases List.mem_cons.1 ((h i).2 (List.mem_cons_of_mem _ hi)) with h1 | h1
      · have := hy.1 i hi; omega
      · exact h1

/-- Ascending from above l, up to n. -/
def asc (n : Int) : Int → List Int → Bool
  | _, [] => true
  | l, x :: xs => decide (l + 1 ≤ x ∧ x ≤ n) && asc n x xs
theorem asc_iff (n : Int) : ∀ (xs : List Int) (l : Int), asc n l xs = true ↔ (∀ x ∈ xs, l < x ∧ x ≤ n) ∧ xs.Pairwise (· < ·)
  | [], l => by simp [asc]
  | x :: xs, l => by
    unfold asc
    rw [Bool.and_eq_true, decide_eq_true_eq, asc_iff n xs x, List.pairwise_cons]
    constructor
    · rintro ⟨⟨h1, h2⟩, h3, h4⟩
      exact ⟨fun y hy => by
        rcases List.mem_cons.1 hy with rfl | hy
        · omega
        · have := h3 y hy; omega, fun y hy => (h3 y hy).1, h4⟩
    · rintro ⟨h1, h2, h3⟩
      have hx := h1 x (List.mem_cons_self ..)
      exact ⟨by omega, fun y hy => ⟨h2 y hy, (h1 y (List.mem_cons_of_mem _ hy)).2⟩, h3⟩
/-- The last of the first k numbers, or 0. -/
def lst (xs : List Int) (k : Nat) : Int := if k = 0 then 0 else co xs (k - 1)
theorem lst_succ (xs : List Int) (k : Nat) : lst xs (k + 1) = co xs k := by unfold lst; rw [if_neg (Nat.succ_ne_zero k)]; rfl
theorem asc_snoc (n : Int) : ∀ (xs : List Int) (l x : Int), asc n l (xs ++ [x]) = (asc n l xs && decide ((xs.getLast?.getD l) + 1 ≤ x ∧ x ≤ n))
  | [], l, x => by show (decide (l + 1 ≤ x ∧ x ≤ n) && true) = (true && decide (l + 1 ≤ x ∧ x ≤ n)); rw [Bool.and_true, Bool.true_and]
  | y :: xs, l, x => by
    show (decide (l + 1 ≤ y ∧ y ≤ n) && asc n y (xs ++ [x])) = _
    rw [asc_snoc n xs y x, ← Bool.and_assoc]
    congr 3
    cases xs with
    | nil => rfl
    | cons z zs => simp [List.getLast?_eq_some_getLast]
theorem last_take {xs : List Int} : ∀ {k : Nat}, k ≤ xs.length → (xs.take k).getLast?.getD 0 = lst xs k
  | 0, _ => by simp [lst]
  | k + 1, h => by
    rw [lst_succ, List.take_add_one, List.getElem?_eq_getElem (show k < xs.length by omega), co_get (show k < xs.length by omega), Option.toList_some, List.getLast?_concat]
    rfl
theorem asc_next {xs : List Int} {n : Int} {k : Nat} {x : Int} (h : xs[k]? = some x) : asc n 0 (xs.take (k + 1)) = (asc n 0 (xs.take k) && decide (lst xs k + 1 ≤ x ∧ x ≤ n)) := by
  have hk := (List.getElem?_eq_some_iff.1 h).1
  rw [List.take_add_one, h]
  show asc n 0 (xs.take k ++ [x]) = _
  rw [asc_snoc, last_take (by omega)]
theorem asc_cut {n : Int} : ∀ {xs : List Int} {l : Int} (k : Nat), asc n l xs = true → asc n l (xs.take k) = true
  | [], _, _, _ => by simp [asc]
  | _ :: _, _, 0, _ => by simp [asc]
  | x :: xs, l, k + 1, h => by
    rw [List.take_succ_cons]
    unfold asc at h ⊢
    rw [Bool.and_eq_true] at h ⊢
    exact ⟨h.1, asc_cut k h.2⟩
theorem asc_bad {xs : List Int} {n : Int} {k : Nat} (h : asc n 0 (xs.take k) = false) : asc n 0 xs = false := by
  cases e : asc n 0 xs with
  | false => rfl
  | true => rw [asc_cut k e] at h; cases h
theorem asc_sel (f : Int → Bool) (n : Nat) : asc n 0 (sel f n) = true := (asc_iff _ _ _).2 ⟨fun x hx => by have := (mem_sel.1 hx).1; omega, sel_lt f n⟩
/-- An ascending list of parties is the list of its members. -/
theorem asc_own {n : Nat} {xs : List Int} (h : asc n 0 xs = true) : sel (fun i => decide (i ∈ xs)) n = xs := by
  have h1 := (asc_iff _ _ _).1 h
  refine asc_ext (sel_lt _ n) h1.2 fun i => ?_
  rw [mem_sel, decide_eq_true_eq]
  constructor
  · exact fun h => h.2
  · intro hi; have := h1.1 i hi; exact ⟨by omega, hi⟩

/-- The parties outside. -/
def hon (xs : List Int) (n : Nat) : List Int := sel (fun i => decide (i ∉ xs)) n
theorem mem_hon {xs : List Int} {n : Nat} {i : Int} : i ∈ hon xs n ↔ (1 ≤ i ∧ i ≤ n) ∧ i ∉ xs := by unfold hon; rw [mem_sel, decide_eq_true_eq]
theorem hon_len {n : Nat} {xs : List Int} (h : asc n 0 xs = true) : xs.length + (hon xs n).length = n := by
  have h1 := sel_not (fun i => decide (i ∈ xs)) n
  rw [asc_own h] at h1
  have h2 : hon xs n = sel (fun i => !decide (i ∈ xs)) n := by
    unfold hon; congr 1; funext i; rw [decide_not]
  rw [h2]; exact h1
/-- Whether party i is a member, or one of the m smallest others. -/
def inE (xs : List Int) (n m : Nat) (i : Int) : Bool := decide (i ∈ xs) || decide (i ∈ (hon xs n).take m)
/-- The extension by the m smallest others. -/
def ext (xs : List Int) (n m : Nat) : List Int := sel (inE xs n m) n
theorem take_sel {n m : Nat} {xs : List Int} : sel (fun i => decide (i ∈ (hon xs n).take m)) n = (hon xs n).take m :=
  asc_ext (sel_lt _ n) ((sel_lt _ n).sublist (List.take_sublist m _)) fun i => by
    rw [mem_sel, decide_eq_true_eq]
    exact ⟨fun h => h.2, fun h => ⟨(mem_hon.1 (List.mem_of_mem_take h)).1, h⟩⟩
theorem ext_len {n m : Nat} {xs : List Int} (h : asc n 0 xs = true) (hm : xs.length + m ≤ n) : (ext xs n m).length = xs.length + m := by
  unfold ext inE
  rw [sel_or _ _ fun i hi => by
    rw [decide_eq_true_eq] at hi
    exact decide_eq_false fun h => (mem_hon.1 (List.mem_of_mem_take h)).2 hi]
  rw [asc_own h, take_sel, List.length_take]
  have := hon_len h
  omega
theorem ext_zero {n : Nat} {xs : List Int} (h : asc n 0 xs = true) : ext xs n 0 = xs := by
  unfold ext inE
  rw [← asc_own h]
  refine sel_ext fun i _ _ => ?_
  rw [asc_own h]
  simp
theorem mem_ext {xs : List Int} {n m : Nat} {i : Int} : i ∈ ext xs n m ↔ (1 ≤ i ∧ i ≤ n) ∧ inE xs n m i = true := mem_sel
theorem ext_in {xs : List Int} {n m : Nat} {i : Int} (h1 : 1 ≤ i) (h2 : i ≤ n) (h : i ∈ xs) : i ∈ ext xs n m := mem_ext.2 ⟨⟨h1, h2⟩, by unfold inE; rw [decide_eq_true h]; rfl⟩
/-- A party that is none of the list extends it just if fewer than m others are smaller. -/
theorem hon_split (xs : List Int) (k : Nat) : ∀ d, ∃ r, hon xs (k + d) = hon xs k ++ r ∧ ∀ i ∈ r, (k : Int) < i
  | 0 => ⟨[], by simp, fun i h => by cases h⟩
  | d + 1 => by
    obtain ⟨r, h1, h2⟩ := hon_split xs k d
    by_cases h : (((k + d : Nat) : Int) + 1) ∈ xs
    · exact ⟨r, by rw [← h1]; exact sel_no (decide_eq_false (fun h' => h' h)), h2⟩
    · refine ⟨r ++ [((k + d : Nat) : Int) + 1], ?_, fun i hi => ?_⟩
      · rw [← List.append_assoc, ← h1]; exact sel_yes (decide_eq_true h)
      · rcases List.mem_append.1 hi with h3 | h3
        · exact h2 i h3
        · rw [List.mem_singleton] at h3; omega
theorem inE_next {xs : List Int} {n m k : Nat} (hk : k < n) (hx : ((k : Int) + 1) ∉ xs) : inE xs n m ((k : Int) + 1) = decide ((hon xs k).length < m) := by
  obtain ⟨r, h1, h2⟩ := hon_split xs (k + 1) (n - (k + 1))
  rw [show k + 1 + (n - (k + 1)) = n by omega] at h1
  have h3 : hon xs (k + 1) = hon xs k ++ [(k : Int) + 1] := sel_yes (decide_eq_true hx)
  unfold inE
  rw [decide_eq_false hx, Bool.false_or, h1, h3]
  rw [decide_eq_decide]
  constructor
  · intro h
    rcases Nat.lt_or_ge (hon xs k).length m with h4 | h4
    · exact h4
    · exfalso
      rw [List.append_assoc, List.take_append_of_le_length h4] at h
      have := (mem_hon.1 (List.mem_of_mem_take h)).1
      omega
  · intro h
    rw [List.take_append]
    refine List.mem_append_left _ ?_
    rw [List.take_of_length_le (by simp; omega)]
    simp
theorem inE_has {xs : List Int} {n m : Nat} {i : Int} (h : i ∈ xs) : inE xs n m i = true := by unfold inE; rw [decide_eq_true h]; rfl

/-! ### Deviations -/
/-- Round, From, To, At, Kind, K, Of, SrcIndex. -/
structure Dv where
  rnd : Int
  frm : Int
  to : Int
  at_ : Int
  kind : Int
  k : Int
  of_ : Int
  src : Int
/-- Whether a deviation is valid. -/
def dvB (n : Int) (d : Dv) : Bool :=
  decide (0 ≤ d.rnd ∧ 0 ≤ d.at_ ∧ 0 ≤ d.src ∧ 1 ≤ d.frm ∧ d.frm ≤ n ∧ 0 ≤ d.to ∧ d.to ≤ n ∧ 1 ≤ d.kind ∧ d.kind ≤ 4 ∧ 0 ≤ d.of_ ∧ d.of_ ≤ n ∧ (d.kind = 3 → 1 ≤ d.of_))
end PartyMath
