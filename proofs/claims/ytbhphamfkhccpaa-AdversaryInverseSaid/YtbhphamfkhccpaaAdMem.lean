/- Messages in memory: lists of messages and lists of lists that read as functions; such lists of the call's own, where a message may be written and a header laid anew. What changes between two block numbers. No conditions. -/
import Derived.Test.YtbhphamfkhccpaaAdMath
import Derived.Test.YtbhphamfkhccpaaFDvs
import Derived.Test.YtbhphamfkhccpaaPMul
import Derived.Test.YtbhphamfkhccpaaFExt
namespace Go.Proofs.Ytbhphamfkhccpaa
set_option maxRecDepth 100000
open Go.RowKit PolyMath FieldMath PartyMath

/-! ### Changes between two block numbers -/
structure Mid (B L : Nat) (w w' : World) : Prop where
  os : w'.os = w.os
  tape : w'.tape = w.tape
  output : w'.output = w.output
  size : w.heap.size ≤ w'.heap.size
  block : ∀ k, k < w.heap.size → (k < B ∨ L ≤ k) → w'.heap[k]? = w.heap[k]?
theorem Mid.refl (B L : Nat) (w : World) : Mid B L w w := ⟨rfl, rfl, rfl, Nat.le_refl _, fun _ _ _ => rfl⟩
theorem Mid.trans {B L : Nat} {a b c : World} (h : Mid B L a b) (k : Mid B L b c) : Mid B L a c :=
  ⟨k.os.trans h.os, k.tape.trans h.tape, k.output.trans h.output, Nat.le_trans h.size k.size, fun i hi hr => (k.block i (Nat.lt_of_lt_of_le hi h.size) hr).trans (h.block i hi hr)⟩
theorem Mid.of {B L : Nat} {w w' : World} (h : Below w.heap.size w w') : Mid B L w w' := ⟨h.os, h.tape, h.output, h.size, fun k hk _ => h.block k hk⟩
theorem Mid.grown {B L : Nat} {w w' : World} {row : Option Nat} (hg : w.grownBy w' row) (hr : ∀ k, row = some k → B ≤ k ∧ k < L) : Mid B L w w' :=
  ⟨hg.os, hg.tape, hg.output, hg.size, fun k hk hq => hg.block k hk fun e => by have := hr k e.symm; omega⟩
theorem Mid.setCell (w : World) {B L : Nat} {p : Addr} (h1 : B ≤ p.block) (h2 : p.block < L) (u : Value) : Mid B L w (w.setCell p u) :=
  ⟨rfl, rfl, rfl, by simp [World.setCell], fun k _ hq => Below.heap_setCell _ _ _ _ (by omega)⟩
theorem Mid.below {B L : Nat} {w w' : World} (h : Mid B L w w') (hB : B ≤ w.heap.size) : Below B w w' := ⟨h.os, h.tape, h.output, h.size, fun k hk => h.block k (Nat.lt_of_lt_of_le hk hB) (.inl hk)⟩
theorem Mid.cell {B L : Nat} {w w' : World} (h : Mid B L w w') {p : Addr} (h1 : p.block < w.heap.size) (h2 : L ≤ p.block) : w'.cell? p = w.cell? p := World.cell?_of_block (w := w) (h.block p.block h1 (.inr h2))
theorem Mid.own {B L : Nat} {w w' : World} (h : Mid B L w w') {t size n : Nat} {v : Value} {xs : List Value} (ho : w.ownsRow L t size v n xs) : w'.ownsRow L t size v n xs := by
  refine ⟨ho.1, ho.2.imp id ?_⟩
  rintro ⟨g, cap, cur, hv, h1, hh, r⟩
  exact ⟨g, cap, cur, hv, h1, (h.block g (Array.getElem?_eq_some_iff.1 hh).1 (.inr h1)).trans hh, r⟩
theorem Mid.dx {B L : Nat} {w w' : World} (h : Mid B L w w') {b : Nat} {d : Dv} (hd : Dx w b d) (hb : L ≤ b) : Dx w' b d :=
  ⟨(h.cell hd.lt hb).trans hd.d0, (h.cell hd.lt hb).trans hd.d1, (h.cell hd.lt hb).trans hd.d2, (h.cell hd.lt hb).trans hd.d3, (h.cell hd.lt hb).trans hd.d4, (h.cell hd.lt hb).trans hd.d5, (h.cell hd.lt hb).trans hd.d6, (h.cell hd.lt hb).trans hd.d7, Nat.lt_of_lt_of_le hd.lt h.size⟩

/-! ### Lists that are read -/
/-- The messages f j, j < n, lie in a slice at A. -/
structure Sf (w : World) (A : Option Addr) (c n : Nat) (f : Nat → List Int) : Prop where
  cap : n ≤ c
  rd : 0 < n → ∃ b off, A = some ⟨b, off, none⟩ ∧ b < w.heap.size ∧ ∀ j, j < n → ∃ A' c', w.cell? ⟨b, off + j, none⟩ = some (.slice A' (f j).length c') ∧ Sl w A' c' (f j)
/-- The lists of m messages f i, i < n, lie in a slice at A. -/
structure S2 (w : World) (A : Option Addr) (c n m : Nat) (f : Nat → Nat → List Int) : Prop where
  cap : n ≤ c
  rd : 0 < n → ∃ b off, A = some ⟨b, off, none⟩ ∧ b < w.heap.size ∧ ∀ i, i < n → ∃ A' c', w.cell? ⟨b, off + i, none⟩ = some (.slice A' m c') ∧ Sf w A' c' m (f i)
theorem Sf.at_ {w : World} {A : Option Addr} {c n j : Nat} {f : Nat → List Int} (h : Sf w A c n f) (hj : j < n) : ∃ b off A' c', A = some ⟨b, off, none⟩ ∧ b < w.heap.size ∧ w.cell? ⟨b, off + j, none⟩ = some (.slice A' (f j).length c') ∧ Sl w A' c' (f j) := by
  obtain ⟨b, off, e, hb, hc⟩ := h.rd (by omega)
  obtain ⟨A', c', h1, h2⟩ := hc j hj
  exact ⟨b, off, A', c', e, hb, h1, h2⟩
theorem S2.at_ {w : World} {A : Option Addr} {c n m i : Nat} {f : Nat → Nat → List Int} (h : S2 w A c n m f) (hi : i < n) : ∃ b off A' c', A = some ⟨b, off, none⟩ ∧ b < w.heap.size ∧ w.cell? ⟨b, off + i, none⟩ = some (.slice A' m c') ∧ Sf w A' c' m (f i) := by
  obtain ⟨b, off, e, hb, hc⟩ := h.rd (by omega)
  obtain ⟨A', c', h1, h2⟩ := hc i hi
  exact ⟨b, off, A', c', e, hb, h1, h2⟩
theorem Sf.next {w w' : World} {A : Option Addr} {c n : Nat} {f : Nat → List Int} (h : Sf w A c n f) (hb : Below w.heap.size w w') : Sf w' A c n f :=
  ⟨h.cap, fun hn => by
    obtain ⟨b, off, e, hlt, hc⟩ := h.rd hn
    refine ⟨b, off, e, Nat.lt_of_lt_of_le hlt hb.size, fun j hj => ?_⟩
    obtain ⟨A', c', h1, h2⟩ := hc j hj
    exact ⟨A', c', (hb.cell (p := ⟨b, off + j, none⟩) hlt).trans h1, h2.next hb⟩⟩
theorem S2.next {w w' : World} {A : Option Addr} {c n m : Nat} {f : Nat → Nat → List Int} (h : S2 w A c n m f) (hb : Below w.heap.size w w') : S2 w' A c n m f :=
  ⟨h.cap, fun hn => by
    obtain ⟨b, off, e, hlt, hc⟩ := h.rd hn
    refine ⟨b, off, e, Nat.lt_of_lt_of_le hlt hb.size, fun j hj => ?_⟩
    obtain ⟨A', c', h1, h2⟩ := hc j hj
    exact ⟨A', c', (hb.cell (p := ⟨b, off + j, none⟩) hlt).trans h1, h2.next hb⟩⟩
theorem Sf.push {w : World} {A : Option Addr} {c n : Nat} {f : Nat → List Int} (h : Sf w A c n f) (o : Obj) : Sf (w.alloc o) A c n f := h.next ((Below.refl _ w).alloc (Nat.le_refl _) o)
theorem S2.push {w : World} {A : Option Addr} {c n m : Nat} {f : Nat → Nat → List Int} (h : S2 w A c n m f) (o : Obj) : S2 (w.alloc o) A c n m f := h.next ((Below.refl _ w).alloc (Nat.le_refl _) o)
theorem Sf.of_sll {w : World} {A : Option Addr} {c : Nat} {rows : List (List Int)} (h : Sll w A c rows) {n : Nat} (hn : rows.length = n) : Sf w A c n (rAt rows) :=
  ⟨by have := h.cap; omega, fun h0 => by
    cases hA : A with
    | none => have := h.nil hA; have := h.cap; omega
    | some ad =>
      obtain ⟨b, off, rfl, hb, hc⟩ := h.rd ad hA (fun e => by rw [e] at hn; simp at hn; omega)
      refine ⟨b, off, rfl, hb, fun j hj => ?_⟩
      have hx := List.getElem?_eq_getElem (show j < rows.length by omega)
      rw [rAt_at hx]
      exact hc j _ hx⟩
theorem Sf.ext {w : World} {A : Option Addr} {c n : Nat} {f f' : Nat → List Int} (h : Sf w A c n f) (e : ∀ j, j < n → f' j = f j) : Sf w A c n f' :=
  ⟨h.cap, fun hn => by
    obtain ⟨b, off, e', hlt, hc⟩ := h.rd hn
    exact ⟨b, off, e', hlt, fun j hj => by rw [e j hj]; exact hc j hj⟩⟩
theorem S2.ext {w : World} {A : Option Addr} {c n m : Nat} {f f' : Nat → Nat → List Int} (h : S2 w A c n m f) (e : ∀ i j, i < n → j < m → f' i j = f i j) : S2 w A c n m f' :=
  ⟨h.cap, fun hn => by
    obtain ⟨b, off, e', hlt, hc⟩ := h.rd hn
    refine ⟨b, off, e', hlt, fun i hi => ?_⟩
    obtain ⟨A', c', h1, h2⟩ := hc i hi
    exact ⟨A', c', h1, h2.ext fun j hj => e i j hi hj⟩⟩

/-! ### A list of the call's own -/
theorem ne_row {w : World} {B B' t t' n n' : Nat} {v v' : Value} {xs xs' : List Value} {size size' : Nat} (h : w.ownsRow B t size v n xs) (h' : w.ownsRow B' t' size' v' n' xs') (hne : t ≠ t') : v.ownBlock = none ∨ v.ownBlock ≠ v'.ownBlock :=
  (own_apart h h' hne).imp id fun e => fun e' => e e'.symm
theorem own_weak {w : World} {B B' t size n : Nat} {v : Value} {xs : List Value} (h : w.ownsRow B t size v n xs) (hB : B' ≤ B) : w.ownsRow B' t size v n xs := by
  refine ⟨h.1, h.2.imp id ?_⟩
  rintro ⟨g, cap, cur, hv, h1, r⟩
  exact ⟨g, cap, cur, hv, Nat.le_trans hB h1, r⟩
/-- Block g holds the headers u i of N messages f i, all of it from block B on, no two messages in one block. -/
structure OF (B : Nat) (w : World) (g N : Nat) (u : Nat → Value) (f : Nat → List Int) : Prop where
  head : w.ownsRow B 42 1 (.slice (some ⟨g, 0, none⟩) N N) N ((List.range N).map u)
  row : ∀ i, i < N → w.ownsRow B 22 1 (u i) (f i).length ((f i).map (Value.int .u64))
  ap : ∀ i j e, i < N → j < N → (u i).ownBlock = some e → (u j).ownBlock = some e → i = j
theorem OF.next {B : Nat} {w w' : World} {g N : Nat} {u : Nat → Value} {f : Nat → List Int} (h : OF B w g N u f) (hb : Below w.heap.size w w') : OF B w' g N u f :=
  ⟨own_belowN h.head hb, fun i hi => own_belowN (h.row i hi) hb, h.ap⟩
theorem OF.weak {B B' : Nat} {w : World} {g N : Nat} {u : Nat → Value} {f : Nat → List Int} (h : OF B w g N u f) (hB : B' ≤ B) : OF B' w g N u f :=
  ⟨own_weak h.head hB, fun i hi => own_weak (h.row i hi) hB, h.ap⟩
theorem OF.lt {B : Nat} {w : World} {g N : Nat} {u : Nat → Value} {f : Nat → List Int} (h : OF B w g N u f) : B ≤ g ∧ g < w.heap.size := World.ownsRow.lt h.head g rfl
theorem OF.cell {B : Nat} {w : World} {g N : Nat} {u : Nat → Value} {f : Nat → List Int} (h : OF B w g N u f) {i : Nat} (hi : i < N) : w.cell? ⟨g, i, none⟩ = some (u i) :=
  (World.ownsRow.cellAt h.head i (by omega)).trans (get_map u hi)
theorem OF.sf {B : Nat} {w : World} {g N : Nat} {u : Nat → Value} {f : Nat → List Int} (h : OF B w g N u f) : Sf w (some ⟨g, 0, none⟩) N N f :=
  ⟨Nat.le_refl _, fun _ => ⟨g, 0, rfl, h.lt.2, fun j hj => by
    obtain ⟨A, c, e, hs⟩ := own_form (h.row j hj)
    exact ⟨A, c, by rw [Nat.zero_add, h.cell hj, e], hs⟩⟩⟩
theorem OF.ext {B : Nat} {w : World} {g N : Nat} {u : Nat → Value} {f f' : Nat → List Int} (h : OF B w g N u f) (e : ∀ i, i < N → f' i = f i) : OF B w g N u f' :=
  ⟨h.head, fun i hi => by rw [e i hi]; exact h.row i hi, h.ap⟩
/-- A message changed or new is laid at place k. -/
theorem OF.lay {B : Nat} {w w' : World} {g N k : Nat} {u : Nat → Value} {f : Nat → List Int} {row : Option Nat} {v : Value} {r : List Int} (h : OF B w g N u f) (hk : k < N) (hg : w.grownBy w' row) (hrow : row = none ∨ row = (u k).ownBlock)
    (ho : w'.ownsRow B 22 1 v r.length (r.map (Value.int .u64))) (hv : ∀ e, v.ownBlock = some e → w.heap.size ≤ e ∨ (u k).ownBlock = some e) : OF B (w'.setCell ⟨g, k, none⟩ v) g N (up u k v) (up f k r) := by
  have hh : w'.ownsRow B 42 1 (.slice (some ⟨g, 0, none⟩) N N) N ((List.range N).map u) := World.ownsRow.kept h.head hg (by
    rcases hrow with rfl | rfl
    · exact .inr (by simp [Value.ownBlock])
    · exact ne_row h.head (h.row k hk) (by decide))
  have hst := World.ownsRow.stored hh k v
  rw [map_up] at hst
  refine ⟨hst.1, fun i hi => ?_, fun i j e hi hj hei hej => ?_⟩
  · by_cases e : i = k
    · subst e
      rw [up_at, up_at]
      exact World.ownsRow.kept ho hst.2 (ne_row ho hh (by decide))
    · rw [up_else _ _ e, up_else _ _ e]
      have h1 : w'.ownsRow B 22 1 (u i) (f i).length ((f i).map (Value.int .u64)) := World.ownsRow.kept (h.row i hi) hg (by
        cases hq : (u i).ownBlock with
        | none => exact .inl rfl
        | some b =>
          refine .inr fun e2 => ?_
          rcases hrow with rfl | rfl
          · cases e2
          · exact e (h.ap i k b hi hk hq e2.symm))
      exact World.ownsRow.kept h1 hst.2 (ne_row h1 hh (by decide))
  · have hlt : ∀ x, x < N → ∀ b, (u x).ownBlock = some b → b < w.heap.size := fun x hx b hb => (World.ownsRow.lt (h.row x hx) b hb).2
    by_cases e1 : i = k
    · by_cases e2 : j = k
      · omega
      · subst e1
        rw [up_at] at hei
        rw [up_else _ _ e2] at hej
        rcases hv e hei with h1 | h1
        · have := hlt j hj e hej; omega
        · exact h.ap i j e hi hj h1 hej
    · by_cases e2 : j = k
      · subst e2
        rw [up_at] at hej
        rw [up_else _ _ e1] at hei
        rcases hv e hej with h1 | h1
        · have := hlt i hi e hei; omega
        · exact h.ap i j e hi hj hei h1
      · rw [up_else _ _ e1] at hei
        rw [up_else _ _ e2] at hej
        exact h.ap i j e hi hj hei hej

/-! ### Lists of lists of the call's own -/
def hdg (g : Nat → Nat) (N K i : Nat) : Value := if i < K then .slice (some ⟨g i, 0, none⟩) N N else .slice none 0 0
theorem hdg_next (g : Nat → Nat) (N K x : Nat) : ((List.range N).map (hdg g N K)).set K (.slice (some ⟨x, 0, none⟩) N N) = (List.range N).map (hdg (up g K x) N (K + 1)) := by
  rw [map_up]
  refine List.map_congr_left fun i _ => ?_
  unfold up hdg
  by_cases e : i = K
  · subst e; rw [if_pos rfl, if_pos (Nat.lt_succ_self _)]; simp
  · rw [if_neg e]
    by_cases h : i < K
    · rw [if_pos h, if_pos (by omega)]; simp [e]
    · rw [if_neg h, if_neg (by omega)]
structure OM (B : Nat) (w : World) (G N K : Nat) (g : Nat → Nat) (u : Nat → Nat → Value) (f : Nat → Nat → List Int) : Prop where
  head : w.ownsRow B 27 1 (.slice (some ⟨G, 0, none⟩) N N) N ((List.range N).map (hdg g N K))
  mid : ∀ i, i < K → w.ownsRow B 42 1 (.slice (some ⟨g i, 0, none⟩) N N) N ((List.range N).map (u i))
  row : ∀ i j, i < K → j < N → w.ownsRow B 22 1 (u i j) (f i j).length ((f i j).map (Value.int .u64))
  gi : ∀ i i', i < K → i' < K → g i = g i' → i = i'
  ap : ∀ i j i' j' e, i < K → j < N → i' < K → j' < N → (u i j).ownBlock = some e → (u i' j').ownBlock = some e → i = i' ∧ j = j'
section
variable {B : Nat} {w w' : World} {G N K : Nat} {g : Nat → Nat} {u : Nat → Nat → Value} {f : Nat → Nat → List Int}
theorem OM.next (h : OM B w G N K g u f) (hb : Below w.heap.size w w') : OM B w' G N K g u f :=
  ⟨own_belowN h.head hb, fun i hi => own_belowN (h.mid i hi) hb, fun i j hi hj => own_belowN (h.row i j hi hj) hb, h.gi, h.ap⟩
theorem OM.lt (h : OM B w G N K g u f) : B ≤ G ∧ G < w.heap.size := World.ownsRow.lt h.head G rfl
theorem OM.glt (h : OM B w G N K g u f) {i : Nat} (hi : i < K) : B ≤ g i ∧ g i < w.heap.size := World.ownsRow.lt (h.mid i hi) (g i) rfl
theorem OM.ult (h : OM B w G N K g u f) {i j : Nat} (hi : i < K) (hj : j < N) : ∀ e, (u i j).ownBlock = some e → B ≤ e ∧ e < w.heap.size := World.ownsRow.lt (h.row i j hi hj)
theorem OM.hcell (h : OM B w G N N g u f) {i : Nat} (hi : i < N) : w.cell? ⟨G, i, none⟩ = some (.slice (some ⟨g i, 0, none⟩) N N) := by
  refine (World.ownsRow.cellAt h.head i (by omega)).trans ((get_map _ hi).trans ?_)
  unfold hdg; rw [if_pos hi]
theorem OM.cell (h : OM B w G N K g u f) {i j : Nat} (hi : i < K) (hj : j < N) : w.cell? ⟨g i, j, none⟩ = some (u i j) :=
  (World.ownsRow.cellAt (h.mid i hi) j (by omega)).trans (get_map _ hj)
theorem OM.s2 (h : OM B w G N N g u f) : S2 w (some ⟨G, 0, none⟩) N N N f :=
  ⟨Nat.le_refl _, fun _ => ⟨G, 0, rfl, h.lt.2, fun i hi => ⟨some ⟨g i, 0, none⟩, N, by rw [Nat.zero_add]; exact h.hcell hi, Nat.le_refl _, fun _ => ⟨g i, 0, rfl, (h.glt hi).2, fun j hj => by
    obtain ⟨A, c, e, hs⟩ := own_form (h.row i j hi hj)
    exact ⟨A, c, by rw [Nat.zero_add, h.cell hi hj, e], hs⟩⟩⟩⟩⟩
/-- One list of messages more. -/
theorem OM.add {x : Nat} {v : Nat → Value} {r : Nat → List Int} (h : OM B w G N K g u f) (hK : K < N) (hb : Below w.heap.size w w') (hr : OF w.heap.size w' x N v r) (hB : B ≤ w.heap.size) :
    OM B (w'.setCell ⟨G, K, none⟩ (.slice (some ⟨x, 0, none⟩) N N)) G N (K + 1) (up g K x) (up u K v) (up f K r) := by
  have h' := h.next hb
  have hst := World.ownsRow.stored h'.head K (.slice (some ⟨x, 0, none⟩) N N)
  rw [hdg_next] at hst
  have hr' := hr.weak hB
  refine ⟨hst.1, fun i hi => ?_, fun i j hi hj => ?_, fun i i' hi hi' e => ?_, fun i j i' j' e hi hj hi' hj' h1 h2 => ?_⟩
  · by_cases e : i = K
    · subst e; rw [up_at, up_at]; exact World.ownsRow.kept hr'.head hst.2 (ne_row hr'.head h'.head (by decide))
    · rw [up_else _ _ e, up_else _ _ e]
      exact World.ownsRow.kept (h'.mid i (by omega)) hst.2 (ne_row (h'.mid i (by omega)) h'.head (by decide))
  · by_cases e : i = K
    · subst e; rw [up_at, up_at]; exact World.ownsRow.kept (hr'.row j hj) hst.2 (ne_row (hr'.row j hj) h'.head (by decide))
    · rw [up_else _ _ e, up_else _ _ e]
      exact World.ownsRow.kept (h'.row i j (by omega) hj) hst.2 (ne_row (h'.row i j (by omega) hj) h'.head (by decide))
  · by_cases e1 : i = K
    · by_cases e2 : i' = K
      · omega
      · subst e1
        rw [up_at, up_else _ _ e2] at e
        have h1 := hr.lt.1; have h2 := (h.glt (i := i') (by omega)).2; omega
    · by_cases e2 : i' = K
      · subst e2
        rw [up_at, up_else _ _ e1] at e
        have h1 := hr.lt.1; have h2 := (h.glt (i := i) (by omega)).2; omega
      · rw [up_else _ _ e1, up_else _ _ e2] at e
        exact h.gi i i' (by omega) (by omega) e
  · by_cases e1 : i = K
    · by_cases e2 : i' = K
      · subst e1 e2
        rw [up_at] at h1 h2
        exact ⟨rfl, hr.ap j j' e hj hj' h1 h2⟩
      · subst e1
        rw [up_at] at h1
        rw [up_else _ _ e2] at h2
        have q1 := (World.ownsRow.lt (hr.row j hj) e h1).1
        have q2 := (h.ult (i := i') (by omega) hj' e h2).2
        omega
    · by_cases e2 : i' = K
      · subst e2
        rw [up_at] at h2
        rw [up_else _ _ e1] at h1
        have q1 := (World.ownsRow.lt (hr.row j' hj') e h2).1
        have q2 := (h.ult (i := i) (by omega) hj e h1).2
        omega
      · rw [up_else _ _ e1] at h1
        rw [up_else _ _ e2] at h2
        exact h.ap i j i' j' e (by omega) hj (by omega) hj' h1 h2
/-- A message is changed, its header laid anew. -/
theorem OM.lay {a b : Nat} {row : Option Nat} {v : Value} {r : List Int} (h : OM B w G N N g u f) (ha : a < N) (hb : b < N) (hg : w.grownBy w' row) (hrow : row = none ∨ row = (u a b).ownBlock)
    (ho : w'.ownsRow B 22 1 v r.length (r.map (Value.int .u64))) (hv : ∀ e, v.ownBlock = some e → w.heap.size ≤ e ∨ (u a b).ownBlock = some e) : OM B (w'.setCell ⟨g a, b, none⟩ v) G N N g (up2 u a b v) (up2 f a b r) := by
  have nrow : ∀ {t n : Nat} {x : Value} {xs : List Value}, w.ownsRow B t 1 x n xs → t ≠ 22 → x.ownBlock = none ∨ x.ownBlock ≠ row := fun {t n x xs} hx ht => by
    rcases hrow with rfl | rfl
    · cases hq : x.ownBlock with
      | none => exact .inl rfl
      | some q => exact .inr (by simp)
    · exact ne_row hx (h.row a b ha hb) ht
  have hmid : ∀ i, i < N → w'.ownsRow B 42 1 (.slice (some ⟨g i, 0, none⟩) N N) N ((List.range N).map (u i)) := fun i hi => World.ownsRow.kept (h.mid i hi) hg (nrow (h.mid i hi) (by decide))
  have hhead := World.ownsRow.kept h.head hg (nrow h.head (by decide))
  have hst := World.ownsRow.stored (hmid a ha) b v
  rw [map_up, ← up2_row] at hst
  refine ⟨World.ownsRow.kept hhead hst.2 (ne_row hhead (hmid a ha) (by decide)), fun i hi => ?_, fun i j hi hj => ?_, h.gi, fun i j i' j' e hi hj hi' hj' h1 h2 => ?_⟩
  · by_cases e : i = a
    · subst e; exact hst.1
    · rw [up2_far _ _ _ e]
      exact World.ownsRow.kept (hmid i hi) hst.2 (.inr fun e2 => e (h.gi i a hi ha (by simpa [Value.ownBlock] using e2)))
  · by_cases e : i = a ∧ j = b
    · obtain ⟨rfl, rfl⟩ := e
      rw [up2_at, up2_at]
      exact World.ownsRow.kept ho hst.2 (ne_row ho (hmid i hi) (by decide))
    · rw [up2_else _ _ e, up2_else _ _ e]
      have h1 : w'.ownsRow B 22 1 (u i j) (f i j).length ((f i j).map (Value.int .u64)) := World.ownsRow.kept (h.row i j hi hj) hg (by
        cases hq : (u i j).ownBlock with
        | none => exact .inl rfl
        | some q =>
          refine .inr fun e2 => ?_
          rcases hrow with rfl | rfl
          · cases e2
          · exact e (h.ap i j a b q hi hj ha hb hq e2.symm))
      exact World.ownsRow.kept h1 hst.2 (ne_row h1 (hmid a ha) (by decide))
  · have hlt : ∀ x y, x < N → y < N → ∀ q, (u x y).ownBlock = some q → q < w.heap.size := fun x y hx hy q hq => (h.ult hx hy q hq).2
    by_cases e1 : i = a ∧ j = b
    · by_cases e2 : i' = a ∧ j' = b
      · omega
      · obtain ⟨rfl, rfl⟩ := e1
        rw [up2_at] at h1
        rw [up2_else _ _ e2] at h2
        rcases hv e h1 with h3 | h3
        · have := hlt i' j' hi' hj' e h2; omega
        · exact h.ap i j i' j' e hi hj hi' hj' h3 h2
    · by_cases e2 : i' = a ∧ j' = b
      · obtain ⟨rfl, rfl⟩ := e2
        rw [up2_at] at h2
        rw [up2_else _ _ e1] at h1
        rcases hv e h2 with h3 | h3
        · have := hlt i j hi hj e h1; omega
        · exact h.ap i j i' j' e hi hj hi' hj' h1 h3
      · rw [up2_else _ _ e1] at h1
        rw [up2_else _ _ e2] at h2
        exact h.ap i j i' j' e hi hj hi' hj' h1 h2
end
end Go.Proofs.Ytbhphamfkhccpaa
