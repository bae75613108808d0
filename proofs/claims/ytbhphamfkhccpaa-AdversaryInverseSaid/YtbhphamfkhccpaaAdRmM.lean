/- Lists of lists of messages as the reference of layer 13 makes them: headers of its own over messages that lie elsewhere. No conditions. -/
import Derived.Test.YtbhphamfkhccpaaAdRfB
namespace Go.Proofs.Ytbhphamfkhccpaa
set_option maxRecDepth 100000
open Go.RowKit PolyMath FieldMath PartyMath

def hds (g cp : Nat → Nat) (N i : Nat) : Value := .slice (some ⟨g i, 0, none⟩) N (cp i)
/-- The first K lists of headers. -/
structure BM (B : Nat) (w : World) (v : Value) (N K : Nat) (g cp : Nat → Nat) (f : Nat → Nat → List Int) : Prop where
  head : w.ownsRow B 27 1 v K ((List.range K).map (hds g cp N))
  mid : ∀ i, i < K → ∃ vs : List Value, w.ownsRow B 42 1 (hds g cp N i) N vs ∧ ∀ j, j < N → ∃ A c, vs[j]? = some (.slice A (f i j).length c) ∧ Sl w A c (f i j) ∧ (f i j ≠ [] → ∀ ad, A = some ad → ad.block < B)
  gi : ∀ i i', i < K → i' < K → g i = g i' → i = i'
/-- All of them, over messages that lie in other blocks. -/
structure RM (B : Nat) (w : World) (G N cG : Nat) (g cp : Nat → Nat) (f : Nat → Nat → List Int) : Prop where
  head : w.ownsRow B 27 1 (.slice (some ⟨G, 0, none⟩) N cG) N ((List.range N).map (hds g cp N))
  mid : ∀ i, i < N → ∃ vs : List Value, w.ownsRow B 42 1 (hds g cp N i) N vs ∧ ∀ j, j < N → ∃ A c, vs[j]? = some (.slice A (f i j).length c) ∧ Sl w A c (f i j) ∧ (f i j ≠ [] → ∀ ad, A = some ad → ∀ i', i' < N → ad.block ≠ g i')
  gi : ∀ i i', i < N → i' < N → g i = g i' → i = i'
theorem own_cap {w : World} {B t size g n c : Nat} {xs : List Value} (h : w.ownsRow B t size (.slice (some ⟨g, 0, none⟩) n c) n xs) : n ≤ c := by
  rcases h.2 with ⟨hv, _⟩ | ⟨g', cap, cur, hv, _, _, hc, _⟩
  · cases hv
  · injection hv with _ _ hv; omega
theorem Sl.keepB {w w' : World} {A : Option Addr} {c B : Nat} {xs : List Int} (h : Sl w A c xs) (hlt : xs ≠ [] → ∀ ad, A = some ad → ad.block < B) (hb : Below B w w') : Sl w' A c xs :=
  ⟨h.cap, h.nil, fun ad e hn => by
    obtain ⟨b, off, rfl, hbl, hc⟩ := h.rd ad e hn
    exact ⟨b, off, rfl, Nat.lt_of_lt_of_le hbl hb.size, fun j x hx => (hb.cell (p := ⟨b, off + j, none⟩) (show b < B from hlt hn ⟨b, off, none⟩ e)).trans (hc j x hx)⟩⟩
section
variable {B : Nat} {w w' w2 : World} {v : Value} {G N K cG : Nat} {g cp : Nat → Nat} {f : Nat → Nat → List Int}
theorem BM.nothing (w : World) (B N : Nat) (g cp : Nat → Nat) (f : Nat → Nat → List Int) : BM B w (.slice none 0 0) N 0 g cp f :=
  ⟨World.ownsRow_nil _ _ _ _, fun _ hi => absurd hi (Nat.not_lt_zero _), fun _ _ hi => absurd hi (Nat.not_lt_zero _)⟩
theorem BM.glt (h : BM B w v N K g cp f) {i : Nat} (hi : i < K) : B ≤ g i ∧ g i < w.heap.size := by
  obtain ⟨vs, h1, _⟩ := h.mid i hi
  exact World.ownsRow.lt h1 (g i) rfl
/-- One list more: w' is the world in which its row stands, w2 that behind the append. -/
theorem BM.add {x cx : Nat} {us : List Value} {v2 : Value} {o : Obj} (h : BM B w v N K g cp f) (hB : B ≤ w.heap.size) (hb : Below w.heap.size w w') (hx : w'.ownsRow w.heap.size 42 1 (.slice (some ⟨x, 0, none⟩) N cx) N us)
    (hus : ∀ j, j < N → ∃ A c, us[j]? = some (.slice A (f K j).length c) ∧ Sl w A c (f K j) ∧ (f K j ≠ [] → ∀ ad, A = some ad → ad.block < B))
    (hv : w2.ownsRow B 27 1 v2 (K + 1) ((List.range K).map (hds g cp N) ++ [.slice (some ⟨x, 0, none⟩) N cx])) (hg : (w'.alloc o).grownBy w2 v.ownBlock) : BM B w2 v2 N (K + 1) (up g K x) (up cp K cx) f := by
  have hbB : Below B w w2 := (bnew (hb.mono hB) o hB).grown hg (by have := hb.size; simp; omega) (fun q e => (World.ownsRow.lt h.head q e).1)
  have hxlt := World.ownsRow.lt hx x rfl
  have hrow : ∀ {n : Nat} {u : Value} {xs : List Value}, w'.ownsRow B 42 1 u n xs → w2.ownsRow B 42 1 u n xs := fun {n u xs} hu =>
    World.ownsRow.kept (World.ownsRow.alloc hu o) hg (ne_row hu (own_belowN h.head hb) (by decide))
  refine ⟨?_, fun i hi => ?_, fun i i' hi hi' e => ?_⟩
  · have e : (List.range (K + 1)).map (hds (up g K x) (up cp K cx) N) = (List.range K).map (hds g cp N) ++ [.slice (some ⟨x, 0, none⟩) N cx] := by
      rw [List.range_succ, List.map_append]
      congr 1
      · refine List.map_congr_left fun i hi => ?_
        have : i ≠ K := by have := List.mem_range.1 hi; omega
        unfold hds; rw [up_else _ _ this, up_else _ _ this]
      · simp [hds, up]
    rw [e]; exact hv
  · by_cases e : i = K
    · subst e
      refine ⟨us, by unfold hds; rw [up_at, up_at]; exact hrow (own_weak hx hB), fun j hj => ?_⟩
      obtain ⟨A, c, q1, q2, q3⟩ := hus j hj
      exact ⟨A, c, q1, q2.keepB q3 hbB, q3⟩
    · obtain ⟨vs, h1, h2⟩ := h.mid i (by omega)
      refine ⟨vs, by unfold hds; rw [up_else _ _ e, up_else _ _ e]; exact hrow (own_belowN h1 hb), fun j hj => ?_⟩
      obtain ⟨A, c, q1, q2, q3⟩ := h2 j hj
      exact ⟨A, c, q1, q2.keepB q3 hbB, q3⟩
  · by_cases e1 : i = K
    · by_cases e2 : i' = K
      · omega
      · subst e1
        rw [up_at, up_else _ _ e2] at e
        have := (h.glt (i := i') (by omega)).2; omega
    · by_cases e2 : i' = K
      · subst e2
        rw [up_at, up_else _ _ e1] at e
        have := (h.glt (i := i) (by omega)).2; omega
      · rw [up_else _ _ e1, up_else _ _ e2] at e
        exact h.gi i i' (by omega) (by omega) e
theorem BM.rm (h : BM B w (.slice (some ⟨G, 0, none⟩) N cG) N N g cp f) : RM B w G N cG g cp f :=
  ⟨h.head, fun i hi => by
    obtain ⟨vs, h1, h2⟩ := h.mid i hi
    refine ⟨vs, h1, fun j hj => ?_⟩
    obtain ⟨A, c, q1, q2, q3⟩ := h2 j hj
    exact ⟨A, c, q1, q2, fun hn ad e i' hi' => by have := q3 hn ad e; have := (h.glt hi').1; omega⟩, h.gi⟩
theorem RM.lt (h : RM B w G N cG g cp f) : B ≤ G ∧ G < w.heap.size := World.ownsRow.lt h.head G rfl
theorem RM.glt (h : RM B w G N cG g cp f) {i : Nat} (hi : i < N) : B ≤ g i ∧ g i < w.heap.size := by
  obtain ⟨vs, h1, _⟩ := h.mid i hi
  exact World.ownsRow.lt h1 (g i) rfl
theorem RM.hcell (h : RM B w G N cG g cp f) {i : Nat} (hi : i < N) : w.cell? ⟨G, i, none⟩ = some (.slice (some ⟨g i, 0, none⟩) N (cp i)) := (World.ownsRow.cellAt h.head i (by omega)).trans (get_map _ hi)
theorem RM.at_ (h : RM B w G N cG g cp f) {i j : Nat} (hi : i < N) (hj : j < N) : ∃ A c, w.cell? ⟨g i, j, none⟩ = some (.slice A (f i j).length c) ∧ Sl w A c (f i j) ∧ (f i j ≠ [] → ∀ ad, A = some ad → ∀ i', i' < N → ad.block ≠ g i') := by
  obtain ⟨vs, h1, h2⟩ := h.mid i hi
  obtain ⟨A, c, q1, q2, q3⟩ := h2 j hj
  exact ⟨A, c, (World.ownsRow.cellAt h1 j (by omega)).trans q1, q2, q3⟩
theorem RM.frozen (h : RM B w G N cG g cp f) {i : Nat} (hi : i < N) (j : Nat) : w.frozen? ⟨g i, j, none⟩ = false := by
  obtain ⟨vs, h1, _⟩ := h.mid i hi
  exact World.ownsRow.frozenAt h1 j
theorem RM.next (h : RM B w G N cG g cp f) (hb : Below w.heap.size w w') : RM B w' G N cG g cp f :=
  ⟨own_belowN h.head hb, fun i hi => by
    obtain ⟨vs, h1, h2⟩ := h.mid i hi
    refine ⟨vs, own_belowN h1 hb, fun j hj => ?_⟩
    obtain ⟨A, c, q1, q2, q3⟩ := h2 j hj
    exact ⟨A, c, q1, q2.next hb, q3⟩, h.gi⟩
theorem RM.s2 (h : RM B w G N cG g cp f) : S2 w (some ⟨G, 0, none⟩) cG N N f :=
  ⟨own_cap h.head, fun _ => ⟨G, 0, rfl, h.lt.2, fun i hi => ⟨some ⟨g i, 0, none⟩, cp i, by rw [Nat.zero_add]; exact h.hcell hi, by
    obtain ⟨vs, h1, _⟩ := h.mid i hi
    exact own_cap h1, fun _ => ⟨g i, 0, rfl, (h.glt hi).2, fun j hj => by
    obtain ⟨A, c, q1, q2, _⟩ := h.at_ hi hj
    exact ⟨A, c, by rw [Nat.zero_add]; exact q1, q2⟩⟩⟩⟩⟩
theorem RM.put (h : RM B w G N cG g cp f) {a b : Nat} (ha : a < N) (hb : b < N) {A2 : Option Addr} {c2 : Nat} {r : List Int} (hs : Sl w A2 c2 r) (hf : r ≠ [] → ∀ ad, A2 = some ad → ∀ i', i' < N → ad.block ≠ g i') : RM B (w.setCell ⟨g a, b, none⟩ (.slice A2 r.length c2)) G N cG g cp (up2 f a b r) := by
  obtain ⟨va, ha1, ha2⟩ := h.mid a ha
  have hl : va.length = N := by have := ha1.1; omega
  have hst := World.ownsRow.stored ha1 b (.slice A2 r.length c2)
  refine ⟨World.ownsRow.kept h.head hst.2 (ne_row h.head ha1 (by decide)), fun i hi => ?_, h.gi⟩
  by_cases e : i = a
  · subst e
    refine ⟨_, hst.1, fun j hj => ?_⟩
    by_cases ej : j = b
    · subst ej
      rw [up2_at]
      exact ⟨A2, c2, List.getElem?_set_self (by omega), hs.far (fun hn ad ea => hf hn ad ea i hi) _, hf⟩
    · rw [up2_else _ _ (fun q => ej q.2)]
      obtain ⟨A, c, q1, q2, q3⟩ := ha2 j hj
      exact ⟨A, c, (List.getElem?_set_ne (fun q => ej q.symm)).trans q1, q2.far (fun hn ad ea => q3 hn ad ea i hi) _, q3⟩
  · obtain ⟨vs, h1, h2⟩ := h.mid i hi
    refine ⟨vs, World.ownsRow.kept h1 hst.2 (.inr fun q => e (h.gi i a hi ha (by simpa [hds, Value.ownBlock] using q))), fun j hj => ?_⟩
    rw [up2_else _ _ (fun q => e q.1)]
    obtain ⟨A, c, q1, q2, q3⟩ := h2 j hj
    exact ⟨A, c, q1, q2.far (fun hn ad ea => q3 hn ad ea a ha) _, q3⟩
end
end Go.Proofs.Ytbhphamfkhccpaa
