/- Rows of words that a call fills one by one in a matrix of its own. No conditions. -/
import Derived.Test.YtkhiiiggmhncbaaGreatMD
namespace Go.Proofs.YtkhiiiggmhncbaaGreat
set_option maxRecDepth 100000
open Go.RowKit PolyMath FieldMath MatMath

/-- The first k of N rows, the others empty. -/
def rws (f : Nat → List Int) (N k : Nat) : List (List Int) := (List.range N).map fun i => if i < k then f i else []
theorem rws_len (f : Nat → List Int) (N k : Nat) : (rws f N k).length = N := by unfold rws; simp
theorem rws_get (f : Nat → List Int) {N k i : Nat} (h : i < N) : (rws f N k)[i]? = some (if i < k then f i else []) := by
  unfold rws
  rw [List.getElem?_map, List.getElem?_range h]; rfl
theorem rws_next (f : Nat → List Int) {N k : Nat} (h : k < N) : (rws f N k).set k (f k) = rws f N (k + 1) := by
  apply List.ext_getElem?
  intro i
  by_cases hi : i < N
  · by_cases e : i = k
    · subst e
      rw [List.getElem?_set_self (by rw [rws_len]; exact hi), rws_get f hi, if_pos (Nat.lt_succ_self i)]
    · rw [List.getElem?_set_ne (fun q => e q.symm), rws_get f hi, rws_get f hi]
      by_cases h2 : i < k
      · rw [if_pos h2, if_pos (by omega)]
      · rw [if_neg h2, if_neg (by omega)]
  · rw [List.getElem?_eq_none (by rw [List.length_set, rws_len]; omega), List.getElem?_eq_none (by rw [rws_len]; omega)]
theorem rws_all (f : Nat → List Int) (N : Nat) : rws f N N = (List.range N).map f := by
  unfold rws
  refine List.map_congr_left fun i hi => ?_
  rw [if_pos (List.mem_range.1 hi)]
theorem MP.begin {base N : Nat} {w : World} {v : Value} {vs : List Value} (f : Nat → List Int) (h : w.ownsRow base 23 1 v N vs) : MP base w v N 0 vs (rws f N 0) :=
  ⟨h, rws_len _ _ _, Nat.zero_le _, fun _ hi => absurd hi (Nat.not_lt_zero _), fun _ _ _ _ _ hi => absurd hi (Nat.not_lt_zero _)⟩
/-- A row in new memory is laid at the next place. -/
theorem MP.put {base N k g c : Nat} {w w' : World} {vs : List Value} {f : Nat → List Int} {u : Value} (h : MP base w (.slice (some ⟨g, 0, none⟩) N c) N k vs (rws f N k)) (hk : k < N) (hb : Below w.heap.size w w')
    (ho : w'.ownsRow base 22 1 u (f k).length ((f k).map (Value.int .u64))) (hn : ∀ b, u.ownBlock = some b → w.heap.size ≤ b) : MP base (w'.setCell ⟨g, k, none⟩ u) (.slice (some ⟨g, 0, none⟩) N c) N (k + 1) (vs.set k u) (rws f N (k + 1)) := by
  rw [← rws_next f hk]
  exact h.lay (Nat.le_refl _) hk (by omega) (grown_of hb none) (fun b e => by cases e) ho fun b e => .inl (hn b e)
/-- A call hands back a matrix. -/
def MatN (w : World) (e : Ending) (w' : World) (N : Nat) (rows : List (List Int)) : Prop := ∃ A c, e = .returned (.slice A N c) ∧ Sll w' A c rows ∧ Below w.heap.size w w'
/-- Of a matrix of the call's own the row at a place that was laid is known by its block. -/
theorem MP.open_ {g c base N k : Nat} {w : World} {vs : List Value} {rows : List (List Int)} (h : MP base w (.slice (some ⟨g, 0, none⟩) N c) N k vs rows) {i b L cb : Nat} (hi : i < k) (hv : vs[i]? = some (.slice (some ⟨b, 0, none⟩) L cb)) (hl : (ro rows i).length = L) :
    w.cell? ⟨g, i, none⟩ = some (.slice (some ⟨b, 0, none⟩) L cb) ∧ OwnAt w base b L cb (ro rows i) ∧ g ≠ b := by
  have hle := h.le
  refine ⟨h.cell (by omega) hv, ?_, fun e => ?_⟩
  · have := h.own hi hv
    rw [hl] at this
    exact this
  · exact h.far hi hv rfl (by rw [e]; rfl)
end Go.Proofs.YtkhiiiggmhncbaaGreat
