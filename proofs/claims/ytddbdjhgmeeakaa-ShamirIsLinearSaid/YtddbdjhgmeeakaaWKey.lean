/- Reconstruct on shares of a polynomial, and on shares of which one is wrong. Conditions: as said. -/
import Derived.Test.YtddbdjhgmeeakaaME
namespace Go.Proofs.Ytddbdjhgmeeakaa
set_option maxRecDepth 100000
open Go.RowKit PolyMath FieldMath MatMath

theorem held_take (p : Int) (q xs : List Int) (n : Nat) : (held p q xs).take n = held p q (xs.take n) := by unfold held; rw [List.map_take]
theorem rec_held (p : Int) (hp : OkP p) (A : Option Addr) (c t : Nat) (q xs : List Int) (hq : El p q) (hl : q.length ≤ t + 1) (hx : El p xs) (hnd : xs.Nodup) (h0 : (0 : Int) ∉ xs) (hf : Few (held p q xs)) (ht : t < xs.length) (w : World) (h : Pt w A c (held p q xs)) :
    Calls Try.prog 19 #[.int .u64 p, .int .i64 t, .slice A xs.length c] w fun e w' => e = .returned (.tuple #[.int .u64 (co q 0), .int .i64 0]) ∧ Below w.heap.size w w' := by
  have hbd := hp.bd
  have hp2 := hp.good.two
  have hT : thru p ((held p q xs).take (t + 1)) = trim q := by
    rw [held_take]
    exact held_thru hp.good (nd_take hnd _) (el_tk hx _) hq (by rw [List.length_take]; omega)
  have hL : Lie p (trim q) (held p q xs) (t + 1) (held p q xs).length := fun i _ hi => by
    rw [held_len] at hi
    rw [pev_trim, held_px, held_py]
    have hg : xs[i]? = some xs[i] := List.getElem?_eq_getElem hi
    rw [co_at hg, co_at (show (xs.map (pev p q))[i]? = some (pev p q xs[i]) by rw [List.getElem?_map, hg]; rfl)]
  have hr := rec_any p hp A c t (held p q xs) (by rw [held_px]; exact hx) (by rw [held_py]; exact vals_el (by omega) q xs) (by unfold Shr; rw [held_px]; exact List.nodup_cons.2 ⟨h0, hnd⟩) hf (by rw [held_len]; exact ht) w h
  rw [hT, co_trim] at hr
  rw [held_len] at hr hL
  refine hr.mono ?_
  rintro e w' ⟨⟨_, he⟩ | ⟨hn, _⟩, hb⟩
  · exact ⟨he, hb⟩
  · exact absurd hL hn
theorem fitS_el {p : Int} (h : GoodI p) {ps : List (Int × Int)} {t : Nat} {s : Int} (hn : (px ps).Nodup) (h0 : (0 : Int) ∉ px ps) (hx : El p (px ps)) (hy : El p (py ps)) (hl : ps.length ≤ t) (ht : (t : Int) < p) (hs : 0 ≤ s ∧ s < p) : El p (fitS p ps t s) := fun z hz => by
  have hp2 := h.two
  unfold fitS padN at hz
  rcases List.mem_append.1 hz with hz | hz
  · exact (fit_itp h hn h0 hx hy hl ht hs).fe z hz
  · rw [(List.mem_replicate.1 hz).2]; omega
theorem rec_wrong (p : Int) (hp : OkP p) (A : Option Addr) (c t k : Nat) (q : List Int) (ps : List (Int × Int)) (hq : El p q) (hl : q.length = t + 1) (hx : El p (px ps)) (hy : El p (py ps)) (hs : Shr ps) (hf : Few ps) (ht : t + 2 ≤ ps.length) (hk : k < ps.length)
    (hne : co (py ps) k ≠ pev p q (co (px ps) k)) (hag : ∀ i, i < ps.length → i ≠ k → co (py ps) i = pev p q (co (px ps) i)) (w : World) (h : Pt w A c ps) :
    Calls Try.prog 19 #[.int .u64 p, .int .i64 t, .slice A ps.length c] w fun e w' => e = .returned (.tuple #[.int .u64 0, .int .i64 9]) ∧ Below w.heap.size w w' := by
  have hlong := wrong_long hp.good hs.nodup hx hy hq hk hne hag (by omega)
  refine (rec_any p hp A c t ps hx hy hs hf (by omega) w h).mono ?_
  rintro e w' ⟨⟨hL, _⟩ | ⟨_, he⟩, hb⟩
  · refine absurd hlong ?_
    have hI := thru_itp hp.good hs.nodup hx hy
    have hF := thru_itp hp.good (ps := ps.take (t + 1)) (by rw [px_take]; exact nd_take hs.nodup _) (by rw [px_take]; exact el_tk hx _) (by rw [py_take]; exact el_tk hy _)
    have hfl := hF.fl
    rw [px_take, List.length_take, px_len] at hfl
    have hG : Itp p (px ps) (py ps) (thru p (ps.take (t + 1))) := by
      refine ⟨hF.ft, hF.fe, by rw [px_len]; omega, fun i hi => ?_⟩
      rw [px_len] at hi
      by_cases h1 : i < t + 1
      · have h2 := hF.at_ i (by rw [px_len, List.length_take]; omega)
        rw [px_take, py_take] at h2
        unfold co at h2 ⊢
        rw [List.getElem?_take_of_lt h1, List.getElem?_take_of_lt h1] at h2
        exact h2
      · exact hL i (by omega) hi
    rw [Itp.unique hp.good hs.nodup hx hI hG]
    omega
  · exact ⟨he, hb⟩
theorem pcells_set : ∀ (ps : List (Int × Int)) (k : Nat) (x y z : Int), ps[k]? = some (x, y) → (pcells ps).set (k * 2 + 1) (.int .u64 z) = pcells (ps.set k (x, z))
  | q :: ps, 0, x, y, z, h => by
    simp at h
    subst h
    rfl
  | q :: ps, k + 1, x, y, z, h => by
    have := pcells_set ps k x y z (by simpa using h)
    rw [show (k + 1) * 2 + 1 = k * 2 + 1 + 1 + 1 by omega, List.set_cons_succ, pcells, pcells, List.set_cons_succ, List.set_cons_succ, this]
/-- The points (x, 0). -/
def zer (xs : List Int) : List (Int × Int) := xs.map fun x => (x, (0 : Int))
theorem zer_px (xs : List Int) : px (zer xs) = xs := by unfold zer px; rw [List.map_map]; exact List.map_id _
theorem zer_len (xs : List Int) : (zer xs).length = xs.length := by unfold zer; simp
theorem zer_next {xs : List Int} {k : Nat} {x : Int} (h : xs[k]? = some x) : zer (xs.take (k + 1)) = zer (xs.take k) ++ [(x, 0)] := by
  unfold zer; rw [List.take_add_one, h, List.map_append]; rfl
theorem zer_y {p : Int} (hp : 0 < p) (xs : List Int) : El p (py (zer xs)) := fun y hy => by
  unfold zer py at hy
  rw [List.map_map] at hy
  obtain ⟨x, _, rfl⟩ := List.mem_map.1 hy
  exact ⟨Int.le_refl _, hp⟩
theorem zer_py (xs : List Int) (i : Nat) : co (py (zer xs)) i = 0 := by
  unfold zer py co
  rw [List.map_map, List.getElem?_map]
  cases xs[i]? <;> rfl
/-- The parties 1, .., n. -/
def ups (n : Nat) : List Int := (List.range n).map fun i : Nat => (i : Int) + 1
theorem ups_len (n : Nat) : (ups n).length = n := by unfold ups; simp
theorem ups_get {n i : Nat} (h : i < n) : (ups n)[i]? = some ((i : Int) + 1) := by unfold ups; simp [h]
theorem ups_next (n : Nat) : ups (n + 1) = ups n ++ [(n : Int) + 1] := by unfold ups; rw [List.range_succ, List.map_append]; rfl
theorem held_ups (p : Int) (q : List Int) (n : Nat) : held p q (ups (n + 1)) = held p q (ups n) ++ [((n : Int) + 1, pev p q ((n : Int) + 1))] := by
  rw [ups_next]; unfold held; rw [List.map_append]; rfl
theorem ups_mem {n : Nat} {x : Int} (h : x ∈ ups n) : 1 ≤ x ∧ x ≤ n := by
  unfold ups at h
  obtain ⟨i, hi, rfl⟩ := List.mem_map.1 h
  have := List.mem_range.1 hi
  omega
theorem ups_zero (n : Nat) : (0 : Int) ∉ ups n := fun h => by have := ups_mem h; omega
theorem ups_el {p : Int} {n : Nat} (h : (n : Int) < p) : El p (ups n) := fun x hx => by have := ups_mem hx; omega
theorem ups_nd : ∀ n : Nat, (ups n).Nodup
  | 0 => List.nodup_nil
  | n + 1 => by
    rw [ups_next]
    refine List.nodup_append.2 ⟨ups_nd n, by simp, fun a ha b hb e => ?_⟩
    have h1 := ups_mem ha
    simp at hb
    omega
theorem few_ups {n : Nat} (hn : n ≤ 13) {ps : List (Int × Int)} (h : px ps = ups n) : Few ps := by
  have hl : ps.length = n := by rw [← px_len, h, ups_len]
  unfold Few
  by_cases h12 : n ≤ 12
  · exact .inl (by omega)
  · refine .inr ⟨by omega, fun x y _ hxy hy => ?_⟩
    rw [h]
    have hv : ∀ i, i < 14 → co (0 :: ups n) i = i := fun i hi => by
      cases i with
      | zero => rfl
      | succ i => rw [co_succ, co_at (ups_get (show i < n by omega))]; omega
    rw [hv x (by omega), hv y (by omega)]
    omega
theorem few_held (p : Int) (q : List Int) {n : Nat} (hn : n ≤ 13) : Few (held p q (ups n)) := few_ups hn (held_px p q (ups n))
/-- The shares of the parties 1, .., n, but z in the place of the one at k. -/
def wrg (p : Int) (q : List Int) (n k : Nat) (z : Int) : List (Int × Int) := (List.range n).map fun i : Nat => ((i : Int) + 1, if i = k then z else pev p q ((i : Int) + 1))
theorem wrg_len (p : Int) (q : List Int) (n k : Nat) (z : Int) : (wrg p q n k z).length = n := by unfold wrg; simp
theorem wrg_set (p : Int) (q : List Int) {n k : Nat} (_hk : k < n) (z : Int) : (held p q (ups n)).set k ((k : Int) + 1, z) = wrg p q n k z := by
  apply List.ext_getElem?
  intro i
  rw [List.getElem?_set]
  unfold wrg held ups
  simp only [List.getElem?_map, List.length_map, List.length_range, List.map_map]
  by_cases hi : i < n
  · rw [List.getElem?_range hi]
    by_cases e : k = i
    · subst e; simp [hi]
    · rw [if_neg e]; simp; intro h; exact absurd h.symm e
  · rw [List.getElem?_eq_none (by simp; omega)]
    simp
    intro h
    omega
theorem wrg_px (p : Int) (q : List Int) (n k : Nat) (z : Int) : px (wrg p q n k z) = ups n := by unfold wrg px ups; simp
theorem wrg_py (p : Int) (q : List Int) {n k i : Nat} (hi : i < n) (z : Int) : co (py (wrg p q n k z)) i = if i = k then z else pev p q ((i : Int) + 1) := by
  unfold wrg py
  rw [List.map_map, co_map, if_pos hi]
  rfl
theorem wrg_y {p : Int} (hp : 0 < p) (q : List Int) (n k : Nat) {z : Int} (hz : 0 ≤ z ∧ z < p) : El p (py (wrg p q n k z)) := fun x hx => by
  unfold wrg py at hx
  rw [List.map_map] at hx
  obtain ⟨i, _, rfl⟩ := List.mem_map.1 hx
  show 0 ≤ (if i = k then z else pev p q ((i : Int) + 1)) ∧ (if i = k then z else pev p q ((i : Int) + 1)) < p
  split
  · exact hz
  · exact pev_bd hp _ _
/-- One share of at least t + 2 is wrong: Reconstruct says so. -/
theorem rec_wrg (p : Int) (hp : OkP p) (A : Option Addr) (c t k n : Nat) (q : List Int) (z : Int) (hq : El p q) (hl : q.length = t + 1) (hn : n ≤ 13) (hnp : (n : Int) < p) (ht : t + 2 ≤ n) (hk : k < n) (hz : 0 ≤ z ∧ z < p) (hne : z ≠ pev p q ((k : Int) + 1)) (w : World) (h : Pt w A c (wrg p q n k z)) :
    Calls Try.prog 19 #[.int .u64 p, .int .i64 t, .slice A n c] w fun e w' => e = .returned (.tuple #[.int .u64 0, .int .i64 9]) ∧ Below w.heap.size w w' := by
  have hbd := hp.good.two
  have hx : ∀ i, i < n → co (px (wrg p q n k z)) i = (i : Int) + 1 := fun i hi => by rw [wrg_px]; exact co_at (ups_get hi)
  have hr := rec_wrong p hp A c t k q (wrg p q n k z) hq hl (by rw [wrg_px]; exact ups_el hnp) (wrg_y (by omega) q n k hz) (by unfold Shr; rw [wrg_px]; exact List.nodup_cons.2 ⟨ups_zero n, ups_nd n⟩) (few_ups hn (wrg_px p q n k z)) (by rw [wrg_len]; exact ht) (by rw [wrg_len]; exact hk)
    (by rw [hx k hk, wrg_py p q hk z, if_pos rfl]; exact hne)
    (fun i hi hik => by rw [wrg_len] at hi; rw [hx i hi, wrg_py p q hi z, if_neg hik]) w h
  rw [wrg_len] at hr
  exact hr
end Go.Proofs.Ytddbdjhgmeeakaa
