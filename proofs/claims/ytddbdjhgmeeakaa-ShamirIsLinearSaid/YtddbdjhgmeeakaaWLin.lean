/- What ShamirIsLinear's walk holds while it fills its array of two sharings; the polynomial of the combined shares. No conditions. -/
import Derived.Test.YtddbdjhgmeeakaaWLit
import Derived.Test.YtddbdjhgmeeakaaWKey
namespace Go.Proofs.Ytddbdjhgmeeakaa
set_option maxRecDepth 100000
open Go.RowKit PolyMath FieldMath MatMath

/-- Of what lay, only the block D has changed. -/
structure Bex (D : Nat) (a w : World) : Prop where
  os : w.os = a.os
  tape : w.tape = a.tape
  output : w.output = a.output
  size : a.heap.size ≤ w.heap.size
  block : ∀ k, k < a.heap.size → k ≠ D → w.heap[k]? = a.heap[k]?
theorem Bex.refl (D : Nat) (a : World) : Bex D a a := ⟨rfl, rfl, rfl, Nat.le_refl _, fun _ _ _ => rfl⟩
theorem Bex.next {D : Nat} {a w w' : World} (h : Bex D a w) (hb : Below w.heap.size w w') : Bex D a w' :=
  ⟨hb.os.trans h.os, hb.tape.trans h.tape, hb.output.trans h.output, Nat.le_trans h.size hb.size, fun k hk hD => (hb.block k (Nat.lt_of_lt_of_le hk h.size)).trans (h.block k hk hD)⟩
theorem Bex.grown {D : Nat} {a w w' : World} {row : Option Nat} (h : Bex D a w) (hg : w.grownBy w' row) (hr : ∀ k, row = some k → a.heap.size ≤ k ∨ k = D) : Bex D a w' :=
  ⟨hg.os.trans h.os, hg.tape.trans h.tape, hg.output.trans h.output, Nat.le_trans h.size hg.size, fun k hk hD => (hg.block k (Nat.lt_of_lt_of_le hk h.size) (fun e => by rcases hr k e.symm with h1 | h1 <;> omega)).trans (h.block k hk hD)⟩
theorem Bex.trans {D : Nat} {a b c : World} (h : Bex D a b) (k : Bex D b c) : Bex D a c :=
  ⟨k.os.trans h.os, k.tape.trans h.tape, k.output.trans h.output, Nat.le_trans h.size k.size, fun i hi hD => (k.block i (Nat.lt_of_lt_of_le hi h.size) hD).trans (h.block i hi hD)⟩
theorem Bex.cell {D : Nat} {a w : World} (h : Bex D a w) {p : Addr} (hp : p.block < a.heap.size) (hD : p.block ≠ D) : w.cell? p = a.cell? p := World.cell?_of_block (h.block p.block hp hD)
theorem Bex.below {D : Nat} {a w : World} (h : Bex D a w) (hD : D ≤ a.heap.size) : Below D a w := ⟨h.os, h.tape, h.output, h.size, fun k hk => h.block k (by omega) (by omega)⟩
/-- The array of two sharings. -/
def Two2 (w : World) (D : Nat) (u v : Value) : Prop := w.ownsRow D 72 1 (.slice (some ⟨D, 0, none⟩) 2 2) 2 [u, v]
theorem Two2.tag {w : World} {D : Nat} {u v : Value} (h : Two2 w D u v) : ∃ cur fz, w.heap[D]? = some (.cells cur 72 fz) := own_tag h D rfl
theorem Two2.c0 {w : World} {D : Nat} {u v : Value} (h : Two2 w D u v) : w.cell? ⟨D, 0, none⟩ = some u := World.ownsRow.cellAt h 0 (by decide)
theorem Two2.c1 {w : World} {D : Nat} {u v : Value} (h : Two2 w D u v) : w.cell? ⟨D, 1, none⟩ = some v := World.ownsRow.cellAt h 1 (by decide)
theorem Two2.begin (w : World) (u v : Value) : Two2 (w.alloc (.cells #[u, v] 72)) w.heap.size u v := World.ownsRow_lit w #[u, v] 2 (Nat.le_refl _) (by decide) rfl
theorem Two2.next {w w' : World} {D : Nat} {u v : Value} (h : Two2 w D u v) (hb : Below w.heap.size w w') : Two2 w' D u v := own_belowN h hb
theorem Two2.grown {w w' : World} {D : Nat} {u v : Value} {row : Option Nat} (h : Two2 w D u v) (hg : w.grownBy w' row) (hr : row ≠ some D) : Two2 w' D u v := World.ownsRow.kept h hg (.inr (fun e => hr e.symm))
theorem Two2.lt {w : World} {D : Nat} {u v : Value} (h : Two2 w D u v) : D < w.heap.size := by obtain ⟨cur, fz, e⟩ := h.tag; exact heap_lt e
/-- Words, and rows of words, that lay elsewhere stay. -/
theorem Sl.ex {a w : World} {D : Nat} {u v : Value} {A : Option Addr} {c : Nat} {xs : List Int} (h : Sl a A c xs) (hx : Bex D a w) (ht : Ty a A) (h2 : Two2 a D u v) : Sl w A c xs ∧ Ty w A := by
  have hne : ∀ ad, A = some ad → ad.block ≠ D := fun ad e e2 => by
    obtain ⟨cur, fz, h1⟩ := ht ad e
    obtain ⟨cur', fz', h3⟩ := h2.tag
    rw [e2, h3] at h1
    cases h1
  refine ⟨⟨h.cap, h.nil, fun ad hA hn => ?_⟩, fun ad hA => ?_⟩
  · obtain ⟨b, off, e, hb, hc⟩ := h.rd ad hA hn
    refine ⟨b, off, e, Nat.lt_of_lt_of_le hb hx.size, fun j x hj => ?_⟩
    rw [hx.cell (p := ⟨b, off + j, none⟩) hb (by have := hne ad hA; rw [e] at this; exact this)]
    exact hc j x hj
  · obtain ⟨cur, fz, h1⟩ := ht ad hA
    exact ⟨cur, fz, (hx.block _ (heap_lt h1) (hne ad hA)).trans h1⟩
/-- Words that lay in no block of an array of slices stay. -/
theorem Sl.ex0 {a w : World} {D : Nat} {A1 A2 : Option Addr} {n1 n2 c1 c2 : Nat} {A : Option Addr} {c : Nat} {xs : List Int} (h : Sl a A c xs) (hx : Bex D a w) (h2 : Two2 a D (.slice A1 n1 c1) (.slice A2 n2 c2)) : Sl w A c xs := by
  refine ⟨h.cap, h.nil, fun ad hA hn => ?_⟩
  obtain ⟨b, off, e, hb, hc⟩ := h.rd ad hA hn
  have hne : b ≠ D := fun e2 => by
    subst e2
    cases xs with
    | nil => exact hn rfl
    | cons x xs =>
      have h3 := hc 0 x rfl
      rcases h2.2 with ⟨h', _⟩ | ⟨g', cap', cur, h', _, hg, _, _, hcs, htake⟩
      · simp at h'
      · simp only [Value.slice.injEq, Option.some.injEq, Addr.mk.injEq, and_true, true_and] at h'
        obtain ⟨rfl, rfl⟩ := h'
        rw [cell_of_row a b _ cur _ (0, 0) hg] at h3
        have hl : cur.toList = [.slice A1 n1 c1, .slice A2 n2 c2] := by
          rw [← htake, List.take_of_length_le (by rw [Array.length_toList, hcs]; exact Nat.le_refl _)]
        rw [← Array.getElem?_toList, hl] at h3
        match off, h3 with
        | 0, h3 => simp at h3
        | 1, h3 => simp at h3
        | n + 2, h3 => simp at h3
  refine ⟨b, off, e, Nat.lt_of_lt_of_le hb hx.size, fun j x hj => ?_⟩
  rw [hx.cell (p := ⟨b, off + j, none⟩) hb hne]
  exact hc j x hj
theorem LOwn.ex {a w : World} {D base : Nat} {u v x : Value} {rows : List (List Int)} (h : LOwn base a x rows) (hx : Bex D a w) (h2 : Two2 a D u v) : LOwn base w x rows := by
  obtain ⟨vs, h3, h4⟩ := h
  have hne : ∀ g, x.ownBlock = some g → g ≠ D := fun g hg e => by
    obtain ⟨cur, fz, e1⟩ := own_tag h3 g hg
    obtain ⟨cur', fz', e2⟩ := h2.tag
    rw [e, e2] at e1
    cases e1
  refine ⟨vs, ⟨h3.1, h3.2.imp id ?_⟩, fun j r hr => ?_⟩
  · rintro ⟨g, cap, cur, hv, h5, hh, r⟩
    exact ⟨g, cap, cur, hv, h5, (hx.block g (heap_lt hh) (hne g (by rw [hv]; rfl))).trans hh, r⟩
  · obtain ⟨A, c, h5, h6, h7⟩ := h4 j r hr
    obtain ⟨h8, h9⟩ := h6.ex hx h7 h2
    exact ⟨A, c, h5, h8, h9⟩
theorem LOwn.base {b b' : Nat} {w : World} {v : Value} {rows : List (List Int)} (h : LOwn b w v rows) (hb : b' ≤ b) : LOwn b' w v rows := by
  obtain ⟨vs, h1, h2⟩ := h
  exact ⟨vs, own_base h1 hb, h2⟩
/-- How far the array is filled. -/
def Filled (D : Nat) (w : World) (m : Nat) (u v : Value) (ra rb : List (List Int)) : Prop :=
  (m = 0 → u = .slice none 0 0 ∧ v = .slice none 0 0) ∧ (m = 1 → LOwn D w u ra ∧ v = .slice none 0 0) ∧ (m = 2 → LOwn D w u ra ∧ LOwn D w v rb)
/-- A matrix is written into the array. -/
theorem Two2.put {w : World} {D : Nat} {u v : Value} (h : Two2 w D u v) (x : Value) : Two2 (w.setCell ⟨D, 0, none⟩ x) D x v ∧ Two2 (w.setCell ⟨D, 1, none⟩ x) D u x ∧ w.grownBy (w.setCell ⟨D, 0, none⟩ x) (some D) ∧ w.grownBy (w.setCell ⟨D, 1, none⟩ x) (some D) :=
  ⟨(World.ownsRow.stored h 0 x).1, (World.ownsRow.stored h 1 x).1, (World.ownsRow.stored h 0 x).2, (World.ownsRow.stored h 1 x).2⟩
/-- The rows of the sharing whose shares are L. -/
def rowsOf (L : List Int) (t n : Nat) : List (List Int) := (List.range n).map fun i => conR (co L i) t
theorem rowsOf_len (L : List Int) (t n : Nat) : (rowsOf L t n).length = n := by unfold rowsOf; simp
theorem rowsOf_next (L : List Int) (t n : Nat) : rowsOf L t (n + 1) = rowsOf L t n ++ [conR (co L n) t] := rows_next _ _
theorem rowsOf_at (L : List Int) (t : Nat) {n i : Nat} (h : i < n) : ro (rowsOf L t n) i = conR (co L i) t := ro_at (by unfold rowsOf; rw [List.getElem?_map, List.getElem?_range h]; rfl)
theorem rowsOf_msh {p : Int} (hp : 0 < p) {L : List Int} (hL : El p L) (t n : Nat) : Msh p (t + 1) (rowsOf L t n) := fun i hi => by
  rw [rowsOf_len] at hi
  rw [rowsOf_at L t hi]
  refine ⟨conR_len _ _, fun x hx => ?_⟩
  unfold conR at hx
  rcases List.mem_cons.1 hx with h | h
  · rw [h]; exact hL.co hp i
  · rw [(List.mem_replicate.1 h).2]; exact ⟨Int.le_refl _, hp⟩
theorem map_ro (f : Nat → List Int) {n i : Nat} (h : i < n) : ro ((List.range n).map f) i = f i := ro_at (by rw [List.getElem?_map, List.getElem?_range h]; rfl)
theorem shr_co (p : Int) (q : List Int) {n i : Nat} (h : i < n) : co (shr p q n) i = pev p q ((i : Int) + 1) := by unfold shr; rw [co_map, if_pos h]
theorem zipF_zero (op : Int → Int → Int) (a b : List Int) (n : Nat) : co (zipF op a b (n + 1)) 0 = op (co a 0) (co b 0) := by unfold zipF; rw [co_map, if_pos (by omega)]
theorem mapF_zero (op : Int → Int) (a : List Int) (n : Nat) : co (mapF op a (n + 1)) 0 = op (co a 0) := by unfold mapF; rw [co_map, if_pos (by omega)]
theorem zipF_el {p : Int} {op : Int → Int → Int} (h : ∀ x y, 0 ≤ op x y ∧ op x y < p) (a b : List Int) (n : Nat) : El p (zipF op a b n) := fun z hz => by
  unfold zipF at hz; obtain ⟨i, _, rfl⟩ := List.mem_map.1 hz; exact h _ _
theorem mapF_el {p : Int} {op : Int → Int} (h : ∀ x, 0 ≤ op x ∧ op x < p) (a : List Int) (n : Nat) : El p (mapF op a n) := fun z hz => by
  unfold mapF at hz; obtain ⟨i, _, rfl⟩ := List.mem_map.1 hz; exact h _
/-- k a + b - c, row by row. -/
def sc1 (p k : Int) (a : List (List Int)) (t n : Nat) : List (List Int) := (List.range n).map fun i => mapF (fmul p k) (ro a i) (t + 1)
def sc2 (p k : Int) (a b : List (List Int)) (t n : Nat) : List (List Int) := (List.range n).map fun i => zipF (fadd p) (ro (sc1 p k a t n) i) (ro b i) (t + 1)
def sc3 (p k : Int) (a b : List (List Int)) (c : Int) (t n : Nat) : List (List Int) := (List.range n).map fun i => zipF (fsub p) (ro (sc2 p k a b t n) i) (ro ((List.range n).map fun _ => conR c t) i) (t + 1)
theorem sc1_msh {p : Int} (hp : 0 < p) (k : Int) (a : List (List Int)) (t n : Nat) : Msh p (t + 1) (sc1 p k a t n) := fun i hi => by
  have hi' : i < n := by unfold sc1 at hi; simpa using hi
  rw [show ro (sc1 p k a t n) i = mapF (fmul p k) (ro a i) (t + 1) from map_ro _ hi']
  exact ⟨mapF_len _ _ _, mapF_el (fun x => fmul_bd p k x (by omega)) _ _⟩
theorem sc2_msh {p : Int} (hp : 0 < p) (k : Int) (a b : List (List Int)) (t n : Nat) : Msh p (t + 1) (sc2 p k a b t n) := fun i hi => by
  have hi' : i < n := by unfold sc2 at hi; simpa using hi
  rw [show ro (sc2 p k a b t n) i = zipF (fadd p) (ro (sc1 p k a t n) i) (ro b i) (t + 1) from map_ro _ hi']
  exact ⟨zipF_len _ _ _ _, zipF_el (fun x y => fadd_bd p x y (by omega)) _ _ _⟩
theorem con_msh {p c : Int} (hc : 0 ≤ c ∧ c < p) (t n : Nat) : Msh p (t + 1) ((List.range n).map fun _ => conR c t) := fun i hi => by
  have hi' : i < n := by simpa using hi
  rw [map_ro _ hi']
  refine ⟨conR_len _ _, fun x hx => ?_⟩
  unfold conR at hx
  rcases List.mem_cons.1 hx with h | h
  · rw [h]; exact hc
  · rw [(List.mem_replicate.1 h).2]; omega
theorem sc3_at (p k : Int) (a b : List Int) (c : Int) (t : Nat) {n i : Nat} (h : i < n) : co (ro (sc3 p k (rowsOf a t n) (rowsOf b t n) c t n) i) 0 = fsub p (fadd p (fmul p k (co a i)) (co b i)) c := by
  unfold sc3
  rw [map_ro _ h, zipF_zero, map_ro _ h]
  unfold sc2
  rw [map_ro _ h, zipF_zero]
  unfold sc1
  rw [map_ro _ h, mapF_zero, rowsOf_at a t h, rowsOf_at b t h]
  rfl
/-- The polynomial of the combined shares. -/
theorem comb_ok {p : Int} (hp : 0 < p) (k : Int) (a b : List Int) (c : Int) {t : Nat} (ha : a.length = t + 1) (hb : b.length = t + 1) : El p (comb p k a b c) ∧ (comb p k a b c).length ≤ t + 1 := by
  unfold comb
  refine ⟨psub_el hp _ _, ?_⟩
  have h1 := psub_len p (padd p (pscl p k a) b) [c]
  have h2 := padd_len p (pscl p k a) b
  have h3 := pscl_len p k a
  simp only [List.length_cons, List.length_nil] at h1
  omega
theorem comb_zero {p k c : Int} (hp : 0 < p) (hc : 0 ≤ c ∧ c < p) {a b : List Int} (ha : El p a) (hb : El p b) : co (comb p k a b c) 0 = fsub p (fadd p (fmul p k (co a 0)) (co b 0)) c := by
  rw [← pev_zero hp (show El p (comb p k a b c) from psub_el hp _ _), comb_pev hc, pev_zero hp ha, pev_zero hp hb]
/-- A row of the combined shares. -/
theorem sc3_pev (p k : Int) (a b : List Int) {c : Int} (hc : 0 ≤ c ∧ c < p) (t : Nat) {n i : Nat} (h : i < n) : co (ro (sc3 p k (rowsOf (shr p a n) t n) (rowsOf (shr p b n) t n) c t n) i) 0 = pev p (comb p k a b c) ((i : Int) + 1) := by
  rw [sc3_at p k _ _ c t h, shr_co p a h, shr_co p b h, comb_pev hc]
theorem locR_one (m : List (List Int)) (i : Nat) : locR [m] i = [co (ro m i) 0] := rfl
end Go.Proofs.Ytddbdjhgmeeakaa
