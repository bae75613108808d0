/- A row of headers of one's own whose entries are put anew one by one; messages of two lists mixed. No conditions. -/
import Derived.Test.YtbhphamfkhccpaaAdRfM
import Derived.Test.YtbhphamfkhccpaaAdLaw
namespace Go.Proofs.Ytbhphamfkhccpaa
set_option maxRecDepth 100000
open Go.RowKit PolyMath FieldMath PartyMath

/-- Headers of the call's own in block x over messages that lay in w0 below block B. -/
structure Rq (B0 B : Nat) (w0 w : World) (x cx N : Nat) (F : Nat → List Int) : Prop where
  ex : ∃ us : List Value, w.ownsRow B0 42 1 (.slice (some ⟨x, 0, none⟩) N cx) N us ∧ ∀ j, j < N → ∃ A c, us[j]? = some (.slice A (F j).length c) ∧ Sl w0 A c (F j) ∧ (F j ≠ [] → ∀ ad, A = some ad → ad.block < B)
section
variable {B0 B : Nat} {w0 w w' : World} {x cx N : Nat} {F : Nat → List Int}
theorem Rq.lt (h : Rq B0 B w0 w x cx N F) : B0 ≤ x ∧ x < w.heap.size := by
  obtain ⟨us, h1, _⟩ := h.ex
  exact World.ownsRow.lt h1 x rfl
theorem Rq.frozen (h : Rq B0 B w0 w x cx N F) (i : Nat) : w.frozen? ⟨x, i, none⟩ = false := by
  obtain ⟨us, h1, _⟩ := h.ex
  exact World.ownsRow.frozenAt h1 i
theorem Rq.cap (h : Rq B0 B w0 w x cx N F) : N ≤ cx := by
  obtain ⟨us, h1, _⟩ := h.ex
  exact own_cap h1
theorem Rq.at_ (h : Rq B0 B w0 w x cx N F) {j : Nat} (hj : j < N) : ∃ A c, w.cell? ⟨x, j, none⟩ = some (.slice A (F j).length c) := by
  obtain ⟨us, h1, h2⟩ := h.ex
  obtain ⟨A, c, q1, _, _⟩ := h2 j hj
  exact ⟨A, c, (World.ownsRow.cellAt h1 j (by omega)).trans q1⟩
theorem Rq.next (h : Rq B0 B w0 w x cx N F) (hb : Below w.heap.size w w') : Rq B0 B w0 w' x cx N F := by
  obtain ⟨us, h1, h2⟩ := h.ex
  exact ⟨us, own_belowN h1 hb, h2⟩
theorem Rq.put (h : Rq B0 B w0 w x cx N F) {k : Nat} (hk : k < N) {A2 : Option Addr} {c2 : Nat} {r : List Int} (hs : Sl w0 A2 c2 r) (hf : r ≠ [] → ∀ ad, A2 = some ad → ad.block < B) : Rq B0 B w0 (w.setCell ⟨x, k, none⟩ (.slice A2 r.length c2)) x cx N (up F k r) := by
  obtain ⟨us, h1, h2⟩ := h.ex
  have hl : us.length = N := by have := h1.1; omega
  have hst := World.ownsRow.stored h1 k (.slice A2 r.length c2)
  refine ⟨_, hst.1, fun j hj => ?_⟩
  by_cases e : j = k
  · subst e
    rw [up_at]
    exact ⟨A2, c2, List.getElem?_set_self (by omega), hs, hf⟩
  · rw [up_else _ _ e]
    obtain ⟨A, cj, q1, q2, q3⟩ := h2 j hj
    exact ⟨A, cj, (List.getElem?_set_ne (fun q => e q.symm)).trans q1, q2, q3⟩
end
/-- What two honest parties tell each other comes from O, all else from M. -/
def mix (co : List Int) (O M : Nat → Nat → List Int) (i j : Nat) : List Int := if ((i : Int) + 1 ∉ co ∧ (j : Int) + 1 ∉ co) then O i j else M i j
def mixR (co : List Int) (O M : Nat → Nat → List Int) (i jj j : Nat) : List Int := if j < jj then mix co O M i j else M i j
theorem mixR_zero (co : List Int) (O M : Nat → Nat → List Int) (i : Nat) : mixR co O M i 0 = M i := by
  funext j; unfold mixR; rw [if_neg (Nat.not_lt_zero _)]
theorem mixR_yes {co : List Int} {O M : Nat → Nat → List Int} {i k : Nat} (h1 : (i : Int) + 1 ∉ co) (h2 : (k : Int) + 1 ∉ co) : mixR co O M i (k + 1) = up (mixR co O M i k) k (O i k) := by
  funext j
  unfold mixR up
  by_cases e : j = k
  · subst e; rw [if_pos (by omega), if_pos rfl]; unfold mix; rw [if_pos ⟨h1, h2⟩]
  · rw [if_neg e]
    show _ = if j < k then mix co O M i j else M i j
    by_cases h : j < k
    · rw [if_pos (by omega), if_pos h]
    · rw [if_neg (by omega), if_neg h]
theorem mixR_no {co : List Int} {O M : Nat → Nat → List Int} {i k : Nat} (h : ¬ ((i : Int) + 1 ∉ co ∧ (k : Int) + 1 ∉ co)) : mixR co O M i (k + 1) = mixR co O M i k := by
  funext j
  unfold mixR
  by_cases e : j = k
  · subst e; rw [if_pos (by omega), if_neg (by omega)]; unfold mix; rw [if_neg h]
  · by_cases h : j < k
    · rw [if_pos (by omega), if_pos h]
    · rw [if_neg (by omega), if_neg h]
theorem mixR_end (co : List Int) (O M : Nat → Nat → List Int) (i : Nat) {N j : Nat} (h : j < N) : mixR co O M i N j = mix co O M i j := by
  unfold mixR; rw [if_pos h]
theorem fin2_mix {p : Int} {co : List Int} {O M : Nat → Nat → List Int} (hO : Fin2 p O) (hM : Fin2 p M) : Fin2 p (mix co O M) := fun i j => by
  unfold mix
  split
  · exact hO i j
  · exact hM i j
theorem mix_cor {co : List Int} {O M : Nat → Nat → List Int} {i j : Nat} (h : (i : Int) + 1 ∈ co ∨ (j : Int) + 1 ∈ co) : mix co O M i j = M i j := by
  unfold mix
  rw [if_neg]
  rintro ⟨h1, h2⟩
  rcases h with h | h
  · exact h1 h
  · exact h2 h
end Go.Proofs.Ytbhphamfkhccpaa
