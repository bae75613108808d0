/- A slice of points (two words each) that reads as a list, nil let in; a slice of slices of words; both made by the call or come in. No conditions. The types are letters here. -/
import Derived.Test.YtbhphamfkhccpaaOArg
import Derived.Deep.SlicePairs
namespace Go.Proofs.Ytbhphamfkhccpaa
set_option maxRecDepth 100000
open Go.ChangeShapes Go.WideShapes Go.ChangeAt Go.RowKit Go.Joins Go.Deep Go.WideElems

/-- The slice at A with capacity c holds the points ps. -/
structure Pt (w : World) (A : Option Addr) (c : Nat) (ps : List (Int × Int)) : Prop where
  cap : ps.length ≤ c
  nil : A = none → c = 0
  rd : ∀ ad, A = some ad → ps ≠ [] → ∃ b off, ad = ⟨b, off, none⟩ ∧ b < w.heap.size ∧ ∀ j q, ps[j]? = some q → w.cell? ⟨b, off + j * 2, none⟩ = some (.int .u64 q.1) ∧ w.cell? ⟨b, off + j * 2 + 1, none⟩ = some (.int .u64 q.2)

section
variable {w w' : World} {A : Option Addr} {c : Nat} {ps : List (Int × Int)}
theorem Pt.nothing (w : World) : Pt w none 0 [] := ⟨Nat.le_refl _, (fun _ => rfl), (fun _ h => absurd h (by simp))⟩
theorem Pt.blank (w : World) (ad : Addr) (c : Nat) : Pt w (some ad) c [] := ⟨Nat.zero_le _, (fun h => absurd h (by simp)), (fun _ _ h => absurd rfl h)⟩
theorem Pt.at_ {k : Nat} (h : Pt w A c ps) (hk : k < ps.length) : ∃ b off x y, A = some ⟨b, off, none⟩ ∧ b < w.heap.size ∧ ps[k]? = some (x, y) ∧ w.cell? ⟨b, off + k * 2, none⟩ = some (.int .u64 x) ∧ w.cell? ⟨b, off + k * 2 + 1, none⟩ = some (.int .u64 y) := by
  cases hA : A with
  | none => have := h.nil hA; have := h.cap; omega
  | some ad =>
    obtain ⟨b, off, rfl, hb, hc⟩ := h.rd ad hA (fun e => by rw [e] at hk; simp at hk)
    have hx := List.getElem?_eq_getElem hk
    generalize ps[k] = q at hx
    obtain ⟨x, y⟩ := q
    exact ⟨b, off, x, y, rfl, hb, hx, hc k _ hx⟩
theorem Pt.keep (h : Pt w A c ps) (hs : w.heap.size ≤ w'.heap.size) (hk : ∀ p : Addr, p.block < w.heap.size → w'.cell? p = w.cell? p) : Pt w' A c ps :=
  ⟨h.cap, h.nil, fun ad hA hn => by
    obtain ⟨b, off, e, hb, hc⟩ := h.rd ad hA hn
    exact ⟨b, off, e, by omega, fun j q hx => ⟨(hk ⟨b, off + j * 2, none⟩ hb).trans (hc j q hx).1, (hk ⟨b, off + j * 2 + 1, none⟩ hb).trans (hc j q hx).2⟩⟩⟩
theorem Pt.next (h : Pt w A c ps) (hb : Below w.heap.size w w') : Pt w' A c ps := h.keep hb.size fun _ hp => hb.cell hp
theorem Pt.push (h : Pt w A c ps) (o : Obj) : Pt (w.alloc o) A c ps := h.next ((Below.refl _ w).alloc (Nat.le_refl _) o)
theorem Pt.drew (h : Pt w A c ps) : Pt w.drew A c ps := h.next (Below.refl _ w).drew
end

/-- The cells of points. -/
def pcells : List (Int × Int) → List Value
  | [] => []
  | q :: qs => .int .u64 q.1 :: .int .u64 q.2 :: pcells qs
theorem pcells_len : ∀ ps : List (Int × Int), (pcells ps).length = ps.length * 2
  | [] => rfl
  | q :: qs => by rw [pcells, List.length_cons, List.length_cons, pcells_len qs, List.length_cons]; omega
theorem pcells_snoc : ∀ (ps : List (Int × Int)) (q : Int × Int), pcells (ps ++ [q]) = pcells ps ++ [.int .u64 q.1, .int .u64 q.2]
  | [], _ => rfl
  | r :: ps, q => by rw [List.cons_append, pcells, pcells_snoc ps q]; rfl
theorem pcells_at : ∀ (ps : List (Int × Int)) (j : Nat) (q : Int × Int), ps[j]? = some q → (pcells ps)[j * 2]? = some (.int .u64 q.1) ∧ (pcells ps)[j * 2 + 1]? = some (.int .u64 q.2)
  | r :: ps, 0, q, h => by
    simp at h
    subst h
    exact ⟨rfl, rfl⟩
  | r :: ps, j + 1, q, h => by
    have h1 := pcells_at ps j q (by simpa using h)
    rw [show (j + 1) * 2 = j * 2 + 1 + 1 from by omega, pcells, List.getElem?_cons_succ, List.getElem?_cons_succ, List.getElem?_cons_succ, List.getElem?_cons_succ]
    exact h1
theorem Pt.of_own {w : World} {base : Nat} {e : TypeId} {A : Option Addr} {n c : Nat} {ps : List (Int × Int)} (h : w.ownsRow base e 2 (.slice A n c) n (pcells ps)) : Pt w A c ps := by
  have hl : ps.length = n := by have := h.1; rw [pcells_len] at this; omega
  rcases h.2 with ⟨hv, h0⟩ | ⟨g, cap, cur, hv, _, hh, h1, h2, h3, h4⟩
  · injection hv with hA hn hc
    subst hA hc
    exact ⟨by omega, (fun _ => rfl), (fun _ h => absurd h (by simp))⟩
  · injection hv with hA hn hc
    subst hA hc
    refine ⟨by omega, (fun h => absurd h (by simp)), (fun ad hA _ => ?_)⟩
    injection hA with hA
    subst hA
    refine ⟨g, 0, rfl, (Array.getElem?_eq_some_iff.1 hh).1, fun j q hx => ?_⟩
    have hj := (List.getElem?_eq_some_iff.1 hx).1
    have hp := pcells_at ps j q hx
    have key : ∀ i v, (pcells ps)[i]? = some v → w.cell? ⟨g, 0 + i, none⟩ = some v := by
      intro i v hv
      have hi := (List.getElem?_eq_some_iff.1 hv).1
      rw [pcells_len] at hi
      rw [← h4, List.getElem?_take, if_pos (by omega), Array.getElem?_toList] at hv
      rw [cell_of_row w g (0 + i) cur e (0, 0) hh, Nat.zero_add]
      exact hv
    exact ⟨key _ _ hp.1, key _ _ hp.2⟩
theorem pown_form {w : World} {base n : Nat} {e : TypeId} {v : Value} {ps : List (Int × Int)} (h : w.ownsRow base e 2 v n (pcells ps)) : ∃ A c, v = .slice A ps.length c ∧ Pt w A c ps := by
  have hl : ps.length = n := by have := h.1; rw [pcells_len] at this; omega
  rcases h.2 with ⟨rfl, h0⟩ | ⟨g, cap, cur, rfl, _, _, hc, _⟩
  · subst h0; exact ⟨none, 0, by rw [hl], Pt.of_own h⟩
  · exact ⟨some ⟨g, 0, none⟩, cap, by rw [hl], Pt.of_own h⟩

/-- Each coordinate is a word. -/
def PWords (ps : List (Int × Int)) : Prop := ∀ q ∈ ps, (0 ≤ q.1 ∧ q.1 ≤ 18446744073709551615) ∧ 0 ≤ q.2 ∧ q.2 ≤ 18446744073709551615

section
variable {H : Type} {enc : TypeId × Value → H} {P : Program}
/-- A slice of points that came in. -/
theorem open_pt {W : World} {t e : TypeId} {f0 f1 : Field} {v : Value} {fuel : Nat} {y : DataW H × List MemPlace} (ht : P.underlying t = some (.slice e)) (he : P.underlying e = some (.struct #[f0, f1]))
    (ce : P.cellsOf e = 2) (o0 : f0.offset = 0) (o1 : f1.offset = 1) (c0 : P.cellsOf f0.type = 1) (c1 : P.cellsOf f1.type = 1) (u0 : P.underlying f0.type = some (.int .u64)) (u1 : P.underlying f1.type = some (.int .u64))
    (hf : DataW.trod enc P W 0 (fun _ => true) true fuel t [v] = some y) (hlt : ∀ x ∈ y.2, x.block < W.heap.size) : ∃ A ps c, v = .slice A ps.length c ∧ Pt W A c ps ∧ PWords ps := by
  rcases open_slice_pairs ht he ce o0 o1 c0 c1 hf with ⟨hcs, hx⟩ | ⟨a, len, cap, m, n, V0, V1, D0, D1, P0, P1, hcs, _, hl, _, hm, hx, hc⟩
  · injection hcs with hcs _
    subst hcs
    exact ⟨none, [], 0, rfl, Pt.nothing _, fun x hx => (by cases hx)⟩
  · injection hcs with hcs _
    subst hcs hx
    simp only [if_true] at hm
    have each : ∀ i, ∃ q : Int × Int, i < len → W.cell? (a.add (i * 2)) = some (.int .u64 q.1) ∧ W.cell? (a.add (i * 2 + 1)) = some (.int .u64 q.2) ∧ (0 ≤ q.1 ∧ q.1 ≤ 18446744073709551615) ∧ 0 ≤ q.2 ∧ q.2 ≤ 18446744073709551615 := by
      intro i
      by_cases hi : i < len
      · obtain ⟨h0, h1, d0, d1⟩ := hc i (by omega)
        obtain ⟨x0, e0, _, w0⟩ := DataW.trod_int u0 d0
        obtain ⟨x1, e1, _, w1⟩ := DataW.trod_int u1 d1
        simp at e0 e1
        exact ⟨(x0, x1), fun _ => ⟨by rw [h0, e0], by rw [h1, e1], bounds_w w0, bounds_w w1⟩⟩
      · exact ⟨(0, 0), fun h => absurd h hi⟩
    obtain ⟨q, hq⟩ := Classical.axiomOfChoice each
    have hlen : ((List.range len).map q).length = len := by simp
    refine ⟨some a, (List.range len).map q, cap, by rw [hlen], ⟨by omega, (fun h => by cases h), fun ad hA hn => ?_⟩, fun x hx => ?_⟩
    · injection hA with hA
      subst hA
      have hpos : 0 < len := by rw [← hlen]; exact List.length_pos_iff.2 hn
      obtain ⟨b, off, spot⟩ := a
      have hspot : spot = none := by simpa [Addr.add] using World.cell?_spot (hq 0 hpos).1
      subst hspot
      refine ⟨b, off, rfl, hlt (.cell b off) (List.mem_append_left _ (MemPlace.mem_row.2 ⟨0, by omega, by simp⟩)), fun j x hx => ?_⟩
      rw [List.getElem?_map] at hx
      obtain ⟨i, hi, rfl⟩ := Option.map_eq_some_iff.1 hx
      have hij := List.getElem?_eq_some_iff.1 hi
      obtain ⟨hj, e⟩ := hij
      rw [List.getElem_range] at e
      subst e
      rw [List.length_range] at hj
      have h1 := hq j hj
      rw [add_plain] at h1
      exact ⟨h1.1, by have h2 := h1.2.1; rw [add_plain] at h2; rw [Nat.add_assoc]; exact h2⟩
    · obtain ⟨i, hi, rfl⟩ := List.mem_map.1 hx
      exact (hq i (List.mem_range.1 hi)).2.2
end

/-- The slice at A with capacity c holds slices that hold the lists rows. -/
structure Sll (w : World) (A : Option Addr) (c : Nat) (rows : List (List Int)) : Prop where
  cap : rows.length ≤ c
  nil : A = none → c = 0
  rd : ∀ ad, A = some ad → rows ≠ [] → ∃ b off, ad = ⟨b, off, none⟩ ∧ b < w.heap.size ∧ ∀ j r, rows[j]? = some r → ∃ A' c', w.cell? ⟨b, off + j, none⟩ = some (.slice A' r.length c') ∧ Sl w A' c' r
section
variable {w w' : World} {A : Option Addr} {c : Nat} {rows : List (List Int)}
theorem Sll.nothing (w : World) : Sll w none 0 [] := ⟨Nat.le_refl _, (fun _ => rfl), (fun _ h => absurd h (by simp))⟩
theorem Sll.at_ {k : Nat} (h : Sll w A c rows) (hk : k < rows.length) : ∃ b off r A' c', A = some ⟨b, off, none⟩ ∧ b < w.heap.size ∧ rows[k]? = some r ∧ w.cell? ⟨b, off + k, none⟩ = some (.slice A' r.length c') ∧ Sl w A' c' r := by
  cases hA : A with
  | none => have := h.nil hA; have := h.cap; omega
  | some ad =>
    obtain ⟨b, off, rfl, hb, hc⟩ := h.rd ad hA (fun e => by rw [e] at hk; simp at hk)
    have hx := List.getElem?_eq_getElem hk
    obtain ⟨A', c', h1, h2⟩ := hc k _ hx
    exact ⟨b, off, _, A', c', rfl, hb, hx, h1, h2⟩
theorem Sll.next (h : Sll w A c rows) (hb : Below w.heap.size w w') : Sll w' A c rows :=
  ⟨h.cap, h.nil, fun ad hA hn => by
    obtain ⟨b, off, e, hlt, hc⟩ := h.rd ad hA hn
    refine ⟨b, off, e, Nat.lt_of_lt_of_le hlt hb.size, fun j r hx => ?_⟩
    obtain ⟨A', c', h1, h2⟩ := hc j r hx
    exact ⟨A', c', (hb.cell (p := ⟨b, off + j, none⟩) hlt).trans h1, h2.next hb⟩⟩
theorem Sll.push (h : Sll w A c rows) (o : Obj) : Sll (w.alloc o) A c rows := h.next ((Below.refl _ w).alloc (Nat.le_refl _) o)
end
/-- Values that are slices which hold the lists rows. -/
def Heads (w : World) : List Value → List (List Int) → Prop
  | [], [] => True
  | v :: vs, r :: rs => (∃ A c, v = .slice A r.length c ∧ Sl w A c r) ∧ Heads w vs rs
  | _, _ => False
theorem Heads.len {w : World} : ∀ {vs : List Value} {rs : List (List Int)}, Heads w vs rs → vs.length = rs.length
  | [], [], _ => rfl
  | _ :: _, _ :: _, h => by rw [List.length_cons, List.length_cons, Heads.len h.2]
theorem Heads.next {w w' : World} (hb : Below w.heap.size w w') : ∀ {vs : List Value} {rs : List (List Int)}, Heads w vs rs → Heads w' vs rs
  | [], [], _ => trivial
  | _ :: _, _ :: _, h => ⟨by obtain ⟨A, c, e, s⟩ := h.1; exact ⟨A, c, e, s.next hb⟩, Heads.next hb h.2⟩
theorem Heads.snoc {w : World} {A : Option Addr} {c : Nat} {r : List Int} (s : Sl w A c r) : ∀ {vs : List Value} {rs : List (List Int)}, Heads w vs rs → Heads w (vs ++ [.slice A r.length c]) (rs ++ [r])
  | [], [], _ => ⟨⟨A, c, rfl, s⟩, trivial⟩
  | _ :: _, _ :: _, h => ⟨h.1, Heads.snoc s h.2⟩
theorem Heads.at_ {w : World} : ∀ {vs : List Value} {rs : List (List Int)} {j : Nat} {r : List Int}, Heads w vs rs → rs[j]? = some r → ∃ A c, vs[j]? = some (.slice A r.length c) ∧ Sl w A c r
  | v :: _, s :: _, 0, r, h, hr => by
    simp at hr
    subst hr
    obtain ⟨A, c, rfl, hs⟩ := h.1
    exact ⟨A, c, rfl, hs⟩
  | _ :: vs, _ :: rs, j + 1, r, h, hr => by
    obtain ⟨A, c, h1, h2⟩ := Heads.at_ (j := j) h.2 (by simpa using hr)
    exact ⟨A, c, by simpa using h1, h2⟩
  | [], [], _, _, _, hr => by simp at hr
  | [], _ :: _, _, _, h, _ => h.elim
theorem Heads.one {w : World} : ∀ {vs : List Value} {rs : List (List Int)}, Heads w vs rs → ∀ u ∈ vs, u.oneCell' = true
  | v :: _, _ :: _, h, u, hu => by
    rcases List.mem_cons.1 hu with e | e
    · obtain ⟨A, c, rfl, _⟩ := h.1
      subst e; rfl
    · exact Heads.one h.2 u e
theorem Sll.of_own {w : World} {base : Nat} {e : TypeId} {A : Option Addr} {n c : Nat} {vs : List Value} {rows : List (List Int)} (h : w.ownsRow base e 1 (.slice A n c) n vs) (hh : Heads w vs rows) : Sll w A c rows := by
  have hl : vs.length = n := by have := h.1; omega
  have hl2 := hh.len
  rcases h.2 with ⟨hv, h0⟩ | ⟨g, cap, cur, hv, _, hg, h1, h2, h3, h4⟩
  · injection hv with hA hn hc
    subst hA hc
    exact ⟨by omega, (fun _ => rfl), (fun _ h => absurd h (by simp))⟩
  · injection hv with hA hn hc
    subst hA hc
    refine ⟨by omega, (fun h => absurd h (by simp)), (fun ad hA _ => ?_)⟩
    injection hA with hA
    subst hA
    refine ⟨g, 0, rfl, (Array.getElem?_eq_some_iff.1 hg).1, fun j r hx => ?_⟩
    obtain ⟨A', c', h5, h6⟩ := hh.at_ hx
    refine ⟨A', c', ?_, h6⟩
    have hj := (List.getElem?_eq_some_iff.1 h5).1
    rw [← h4, List.getElem?_take, if_pos (by omega), Array.getElem?_toList] at h5
    rw [cell_of_row w g (0 + j) cur e (0, 0) hg, Nat.zero_add]
    exact h5
theorem lown_form {w : World} {base n : Nat} {e : TypeId} {v : Value} {vs : List Value} {rows : List (List Int)} (h : w.ownsRow base e 1 v n vs) (hh : Heads w vs rows) : ∃ A c, v = .slice A rows.length c ∧ Sll w A c rows := by
  have hl : vs.length = n := by have := h.1; omega
  have hl2 := hh.len
  rcases h.2 with ⟨rfl, h0⟩ | ⟨g, cap, cur, rfl, _, _, hc, _⟩
  · subst h0; exact ⟨none, 0, by rw [show rows.length = 0 from by omega], Sll.of_own h hh⟩
  · exact ⟨some ⟨g, 0, none⟩, cap, by rw [show rows.length = n from by omega], Sll.of_own h hh⟩
end Go.Proofs.Ytbhphamfkhccpaa
