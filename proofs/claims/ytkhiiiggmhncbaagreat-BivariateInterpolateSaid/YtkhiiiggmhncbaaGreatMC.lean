/- Texts joined: IMem, IRefA, IBase, PMore, IScl, IPoly, IWts, IRefB, IRefV, IAwake, IOpen, IGrow. Each says its own conditions. -/
import Derived.Test.YtkhiiiggmhncbaaGreatMB
import Derived.Deep.SlicePairs
import Derived.Test.YtkhiiiggmhncbaaGreatMA
import Derived.Deep.RegionHeld3
import Derived.Deep.AppendLies
import Derived.Deep.Upon
/- A slice of points (two words each) that reads as a list, nil let in; a slice of slices of words; both made by the call or come in. No conditions. The types are letters here. -/
namespace Go.Proofs.YtkhiiiggmhncbaaGreat
set_option maxRecDepth 100000
open Go.ChangeShapes Go.WideShapes Go.ChangeAt Go.RowKit Go.Joins Go.Deep Go.WideElems

/-- The slice at A with capacity c holds the points ps. -/
structure Pt (w : World) (A : Option Addr) (c : Nat) (ps : List (Int × Int)) : Prop where
  cap : ps.length ≤ c
  nil : A = none → c = 0
  rd : ∀ ad, A = some ad → ps ≠ [] → ∃ b off, ad = ⟨b, off, none⟩ ∧ b < w.heap.size ∧ ∀ j q, ps[j]? = some q → w.cell? ⟨b, off + j * 2, none⟩ = some (.int .u64 q.1) ∧ w.cell? ⟨b, off + j * 2 + 1, none⟩ = some (.int .u64 q.2)

section
variable {w w' : World} {A : Option Addr} {c : Nat} {ps : List (Int × Int)}
theorem Pt.nothing (w : World) : Pt w none 0 [] := ⟨Nat.le_refl _, (fun _ => rfl), (fun _ h => absurd h (by simp))⟩
theorem Pt.blank (w : World) (ad : Addr) (c : Nat) : Pt w (some ad) c [] := ⟨Nat.zero_le _, (fun h => absurd h (by simp)), (fun _ _ h => absurd rfl h)⟩
theorem Pt.at_ {k : Nat} (h : Pt w A c ps) (hk : k < ps.length) : ∃ b off x y, A = some ⟨b, off, none⟩ ∧ b < w.heap.size ∧ ps[k]? = some (x, y) ∧ w.cell? ⟨b, off + k * 2, none⟩ = some (.int .u64 x) ∧ w.cell? ⟨b, off + k * 2 + 1, none⟩ = some (.int .u64 y) := by
  cases hA : A with
  | none => have := h.nil hA; have := h.cap; omega
  | some ad =>
    obtain ⟨b, off, rfl, hb, hc⟩ := h.rd ad hA (fun e => by rw [e] at hk; simp at hk)
    have hx := List.getElem?_eq_getElem hk
    generalize ps[k] = q at hx
    obtain ⟨x, y⟩ := q
    exact ⟨b, off, x, y, rfl, hb, hx, hc k _ hx⟩
theorem Pt.keep (h : Pt w A c ps) (hs : w.heap.size ≤ w'.heap.size) (hk : ∀ p : Addr, p.block < w.heap.size → w'.cell? p = w.cell? p) : Pt w' A c ps :=
  ⟨h.cap, h.nil, fun ad hA hn => by
    obtain ⟨b, off, e, hb, hc⟩ := h.rd ad hA hn
    exact ⟨b, off, e, by omega, fun j q hx => ⟨(hk ⟨b, off + j * 2, none⟩ hb).trans (hc j q hx).1, (hk ⟨b, off + j * 2 + 1, none⟩ hb).trans (hc j q hx).2⟩⟩⟩
theorem Pt.next (h : Pt w A c ps) (hb : Below w.heap.size w w') : Pt w' A c ps := h.keep hb.size fun _ hp => hb.cell hp
theorem Pt.push (h : Pt w A c ps) (o : Obj) : Pt (w.alloc o) A c ps := h.next ((Below.refl _ w).alloc (Nat.le_refl _) o)
theorem Pt.drew (h : Pt w A c ps) : Pt w.drew A c ps := h.next (Below.refl _ w).drew
end

/-- The cells of points. -/
def pcells : List (Int × Int) → List Value
  | [] => []
  | q :: qs => .int .u64 q.1 :: .int .u64 q.2 :: pcells qs
theorem pcells_len : ∀ ps : List (Int × Int), (pcells ps).length = ps.length * 2
  | [] => rfl
  | q :: qs => by rw [pcells, List.length_cons, List.length_cons, pcells_len qs, List.length_cons]; omega
theorem pcells_snoc : ∀ (ps : List (Int × Int)) (q : Int × Int), pcells (ps ++ [q]) = pcells ps ++ [.int .u64 q.1, .int .u64 q.2]
  | [], _ => rfl
  | r :: ps, q => by rw [List.cons_append, pcells, pcells_snoc ps q]; rfl
theorem pcells_at : ∀ (ps : List (Int × Int)) (j : Nat) (q : Int × Int), ps[j]? = some q → (pcells ps)[j * 2]? = some (.int .u64 q.1) ∧ (pcells ps)[j * 2 + 1]? = some (.int .u64 q.2)
  | r :: ps, 0, q, h => by
    simp at h
    subst h
    exact ⟨rfl, rfl⟩
  | r :: ps, j + 1, q, h => by
    have h1 := pcells_at ps j q (by simpa using h)
    rw [show (j + 1) * 2 = j * 2 + 1 + 1 from by omega, pcells, List.getElem?_cons_succ, List.getElem?_cons_succ, List.getElem?_cons_succ, List.getElem?_cons_succ]
    exact h1
theorem Pt.of_own {w : World} {base : Nat} {e : TypeId} {A : Option Addr} {n c : Nat} {ps : List (Int × Int)} (h : w.ownsRow base e 2 (.slice A n c) n (pcells ps)) : Pt w A c ps := by
  have hl : ps.length = n := by have := h.1; rw [pcells_len] at this; omega
  rcases h.2 with ⟨hv, h0⟩ | ⟨g, cap, cur, hv, _, hh, h1, h2, h3, h4⟩
  · injection hv with hA hn hc
    subst hA hc
    exact ⟨by omega, (fun _ => rfl), (fun _ h => absurd h (by simp))⟩
  · injection hv with hA hn hc
    subst hA hc
    refine ⟨by omega, (fun h => absurd h (by simp)), (fun ad hA _ => ?_)⟩
    injection hA with hA
    subst hA
    refine ⟨g, 0, rfl, (Array.getElem?_eq_some_iff.1 hh).1, fun j q hx => ?_⟩
    have hj := (List.getElem?_eq_some_iff.1 hx).1
    have hp := pcells_at ps j q hx
    have key : ∀ i v, (pcells ps)[i]? = some v → w.cell? ⟨g, 0 + i, none⟩ = some v := by
      intro i v hv
      have hi := (List.getElem?_eq_some_iff.1 hv).1
      rw [pcells_len] at hi
      rw [← h4, List.getElem?_take, if_pos (by omega), Array.getElem?_toList] at hv
      rw [cell_of_row w g (0 + i) cur e (0, 0) hh, Nat.zero_add]
      exact hv
    exact ⟨key _ _ hp.1, key _ _ hp.2⟩
theorem pown_form {w : World} {base n : Nat} {e : TypeId} {v : Value} {ps : List (Int × Int)} (h : w.ownsRow base e 2 v n (pcells ps)) : ∃ A c, v = .slice A ps.length c ∧ Pt w A c ps := by
  have hl : ps.length = n := by have := h.1; rw [pcells_len] at this; omega
  rcases h.2 with ⟨rfl, h0⟩ | ⟨g, cap, cur, rfl, _, _, hc, _⟩
  · subst h0; exact ⟨none, 0, by rw [hl], Pt.of_own h⟩
  · exact ⟨some ⟨g, 0, none⟩, cap, by rw [hl], Pt.of_own h⟩

/-- Each coordinate is a word. -/
def PWords (ps : List (Int × Int)) : Prop := ∀ q ∈ ps, (0 ≤ q.1 ∧ q.1 ≤ 18446744073709551615) ∧ 0 ≤ q.2 ∧ q.2 ≤ 18446744073709551615

section
variable {H : Type} {enc : TypeId × Value → H} {P : Program}
/-- A slice of points that came in. -/
theorem open_pt {W : World} {t e : TypeId} {f0 f1 : Field} {v : Value} {fuel : Nat} {y : DataW H × List MemPlace} (ht : P.underlying t = some (.slice e)) (he : P.underlying e = some (.struct #[f0, f1]))
    (ce : P.cellsOf e = 2) (o0 : f0.offset = 0) (o1 : f1.offset = 1) (c0 : P.cellsOf f0.type = 1) (c1 : P.cellsOf f1.type = 1) (u0 : P.underlying f0.type = some (.int .u64)) (u1 : P.underlying f1.type = some (.int .u64))
    (hf : DataW.trod enc P W 0 (fun _ => true) true fuel t [v] = some y) (hlt : ∀ x ∈ y.2, x.block < W.heap.size) : ∃ A ps c, v = .slice A ps.length c ∧ Pt W A c ps ∧ PWords ps := by
  rcases open_slice_pairs ht he ce o0 o1 c0 c1 hf with ⟨hcs, hx⟩ | ⟨a, len, cap, m, n, V0, V1, D0, D1, P0, P1, hcs, _, hl, _, hm, hx, hc⟩
  · injection hcs with hcs _
    subst hcs
    exact ⟨none, [], 0, rfl, Pt.nothing _, fun x hx => (by cases hx)⟩
  · injection hcs with hcs _
    subst hcs hx
    simp only [if_true] at hm
    have each : ∀ i, ∃ q : Int × Int, i < len → W.cell? (a.add (i * 2)) = some (.int .u64 q.1) ∧ W.cell? (a.add (i * 2 + 1)) = some (.int .u64 q.2) ∧ (0 ≤ q.1 ∧ q.1 ≤ 18446744073709551615) ∧ 0 ≤ q.2 ∧ q.2 ≤ 18446744073709551615 := by
      intro i
      by_cases hi : i < len
      · obtain ⟨h0, h1, d0, d1⟩ := hc i (by omega)
        obtain ⟨x0, e0, _, w0⟩ := DataW.trod_int u0 d0
        obtain ⟨x1, e1, _, w1⟩ := DataW.trod_int u1 d1
        simp at e0 e1
        exact ⟨(x0, x1), fun _ => ⟨by rw [h0, e0], by rw [h1, e1], bounds_w w0, bounds_w w1⟩⟩
      · exact ⟨(0, 0), fun h => absurd h hi⟩
    obtain ⟨q, hq⟩ := Classical.axiomOfChoice each
    have hlen : ((List.range len).map q).length = len := by simp
    refine ⟨some a, (List.range len).map q, cap, by rw [hlen], ⟨by omega, (fun h => by cases h), fun ad hA hn => ?_⟩, fun x hx => ?_⟩
    · injection hA with hA
      subst hA
      have hpos : 0 < len := by rw [← hlen]; exact List.length_pos_iff.2 hn
      obtain ⟨b, off, spot⟩ := a
      have hspot : spot = none := by simpa [Addr.add] using World.cell?_spot (hq 0 hpos).1
      subst hspot
      refine ⟨b, off, rfl, hlt (.cell b off) (List.mem_append_left _ (MemPlace.mem_row.2 ⟨0, by omega, by simp⟩)), fun j x hx => ?_⟩
      rw [List.getElem?_map] at hx
      obtain ⟨i, hi, rfl⟩ := Option.map_eq_some_iff.1 hx
      have hij := List.getElem?_eq_some_iff.1 hi
      obtain ⟨hj, e⟩ := hij
      rw [List.getElem_range] at e
      subst e
      rw [List.length_range] at hj
      have h1 := hq j hj
      rw [add_plain] at h1
      exact ⟨h1.1, by have h2 := h1.2.1; rw [add_plain] at h2; rw [Nat.add_assoc]; exact h2⟩
    · obtain ⟨i, hi, rfl⟩ := List.mem_map.1 hx
      exact (hq i (List.mem_range.1 hi)).2.2
end

/-- The slice at A with capacity c holds slices that hold the lists rows. -/
structure Sll (w : World) (A : Option Addr) (c : Nat) (rows : List (List Int)) : Prop where
  cap : rows.length ≤ c
  nil : A = none → c = 0
  rd : ∀ ad, A = some ad → rows ≠ [] → ∃ b off, ad = ⟨b, off, none⟩ ∧ b < w.heap.size ∧ ∀ j r, rows[j]? = some r → ∃ A' c', w.cell? ⟨b, off + j, none⟩ = some (.slice A' r.length c') ∧ Sl w A' c' r
section
variable {w w' : World} {A : Option Addr} {c : Nat} {rows : List (List Int)}
theorem Sll.nothing (w : World) : Sll w none 0 [] := ⟨Nat.le_refl _, (fun _ => rfl), (fun _ h => absurd h (by simp))⟩
theorem Sll.at_ {k : Nat} (h : Sll w A c rows) (hk : k < rows.length) : ∃ b off r A' c', A = some ⟨b, off, none⟩ ∧ b < w.heap.size ∧ rows[k]? = some r ∧ w.cell? ⟨b, off + k, none⟩ = some (.slice A' r.length c') ∧ Sl w A' c' r := by
  cases hA : A with
  | none => have := h.nil hA; have := h.cap; omega
  | some ad =>
    obtain ⟨b, off, rfl, hb, hc⟩ := h.rd ad hA (fun e => by rw [e] at hk; simp at hk)
    have hx := List.getElem?_eq_getElem hk
    obtain ⟨A', c', h1, h2⟩ := hc k _ hx
    exact ⟨b, off, _, A', c', rfl, hb, hx, h1, h2⟩
theorem Sll.next (h : Sll w A c rows) (hb : Below w.heap.size w w') : Sll w' A c rows :=
  ⟨h.cap, h.nil, fun ad hA hn => by
    obtain ⟨b, off, e, hlt, hc⟩ := h.rd ad hA hn
    refine ⟨b, off, e, Nat.lt_of_lt_of_le hlt hb.size, fun j r hx => ?_⟩
    obtain ⟨A', c', h1, h2⟩ := hc j r hx
    exact ⟨A', c', (hb.cell (p := ⟨b, off + j, none⟩) hlt).trans h1, h2.next hb⟩⟩
theorem Sll.push (h : Sll w A c rows) (o : Obj) : Sll (w.alloc o) A c rows := h.next ((Below.refl _ w).alloc (Nat.le_refl _) o)
end
/-- Values that are slices which hold the lists rows. -/
def Heads (w : World) : List Value → List (List Int) → Prop
  | [], [] => True
  | v :: vs, r :: rs => (∃ A c, v = .slice A r.length c ∧ Sl w A c r) ∧ Heads w vs rs
  | _, _ => False
theorem Heads.len {w : World} : ∀ {vs : List Value} {rs : List (List Int)}, Heads w vs rs → vs.length = rs.length
  | [], [], _ => rfl
  | _ :: _, _ :: _, h => by rw [List.length_cons, List.length_cons, Heads.len h.2]
theorem Heads.next {w w' : World} (hb : Below w.heap.size w w') : ∀ {vs : List Value} {rs : List (List Int)}, Heads w vs rs → Heads w' vs rs
  | [], [], _ => trivial
  | _ :: _, _ :: _, h => ⟨by obtain ⟨A, c, e, s⟩ := h.1; exact ⟨A, c, e, s.next hb⟩, Heads.next hb h.2⟩
theorem Heads.snoc {w : World} {A : Option Addr} {c : Nat} {r : List Int} (s : Sl w A c r) : ∀ {vs : List Value} {rs : List (List Int)}, Heads w vs rs → Heads w (vs ++ [.slice A r.length c]) (rs ++ [r])
  | [], [], _ => ⟨⟨A, c, rfl, s⟩, trivial⟩
  | _ :: _, _ :: _, h => ⟨h.1, Heads.snoc s h.2⟩
theorem Heads.at_ {w : World} : ∀ {vs : List Value} {rs : List (List Int)} {j : Nat} {r : List Int}, Heads w vs rs → rs[j]? = some r → ∃ A c, vs[j]? = some (.slice A r.length c) ∧ Sl w A c r
  | v :: _, s :: _, 0, r, h, hr => by
    simp at hr
    subst hr
    obtain ⟨A, c, rfl, hs⟩ := h.1
    exact ⟨A, c, rfl, hs⟩
  | _ :: vs, _ :: rs, j + 1, r, h, hr => by
    obtain ⟨A, c, h1, h2⟩ := Heads.at_ (j := j) h.2 (by simpa using hr)
    exact ⟨A, c, by simpa using h1, h2⟩
  | [], [], _, _, _, hr => by simp at hr
  | [], _ :: _, _, _, h, _ => h.elim
theorem Heads.one {w : World} : ∀ {vs : List Value} {rs : List (List Int)}, Heads w vs rs → ∀ u ∈ vs, u.oneCell' = true
  | v :: _, _ :: _, h, u, hu => by
    rcases List.mem_cons.1 hu with e | e
    · obtain ⟨A, c, rfl, _⟩ := h.1
      subst e; rfl
    · exact Heads.one h.2 u e
theorem Sll.of_own {w : World} {base : Nat} {e : TypeId} {A : Option Addr} {n c : Nat} {vs : List Value} {rows : List (List Int)} (h : w.ownsRow base e 1 (.slice A n c) n vs) (hh : Heads w vs rows) : Sll w A c rows := by
  have hl : vs.length = n := by have := h.1; omega
  have hl2 := hh.len
  rcases h.2 with ⟨hv, h0⟩ | ⟨g, cap, cur, hv, _, hg, h1, h2, h3, h4⟩
  · injection hv with hA hn hc
    subst hA hc
    exact ⟨by omega, (fun _ => rfl), (fun _ h => absurd h (by simp))⟩
  · injection hv with hA hn hc
    subst hA hc
    refine ⟨by omega, (fun h => absurd h (by simp)), (fun ad hA _ => ?_)⟩
    injection hA with hA
    subst hA
    refine ⟨g, 0, rfl, (Array.getElem?_eq_some_iff.1 hg).1, fun j r hx => ?_⟩
    obtain ⟨A', c', h5, h6⟩ := hh.at_ hx
    refine ⟨A', c', ?_, h6⟩
    have hj := (List.getElem?_eq_some_iff.1 h5).1
    rw [← h4, List.getElem?_take, if_pos (by omega), Array.getElem?_toList] at h5
    rw [cell_of_row w g (0 + j) cur e (0, 0) hg, Nat.zero_add]
    exact h5
theorem lown_form {w : World} {base n : Nat} {e : TypeId} {v : Value} {vs : List Value} {rows : List (List Int)} (h : w.ownsRow base e 1 v n vs) (hh : Heads w vs rows) : ∃ A c, v = .slice A rows.length c ∧ Sll w A c rows := by
  have hl : vs.length = n := by have := h.1; omega
  have hl2 := hh.len
  rcases h.2 with ⟨rfl, h0⟩ | ⟨g, cap, cur, rfl, _, _, hc, _⟩
  · subst h0; exact ⟨none, 0, by rw [show rows.length = 0 from by omega], Sll.of_own h hh⟩
  · exact ⟨some ⟨g, 0, none⟩, cap, by rw [show rows.length = n from by omega], Sll.of_own h hh⟩
end Go.Proofs.YtkhiiiggmhncbaaGreat

/- Same, SameRows, Below, Points, Unlike, Places of the reference of layer 5; nothing that lay is changed. Conditions: words, at most 100 of them. -/
namespace Go.Proofs.YtkhiiiggmhncbaaGreat
set_option maxRecDepth 100000
open Go.RowKit PolyMath FieldMath

theorem Sl.drewN {w : World} {A : Option Addr} {c : Nat} {xs : List Int} (h : Sl w A c xs) (n : Nat) : Sl (w.drewN n) A c xs := h.next (below_drewN (Below.refl _ w) n)
theorem Sll.drewN {w : World} {A : Option Addr} {c : Nat} {xs : List (List Int)} (h : Sll w A c xs) (n : Nat) : Sll (w.drewN n) A c xs := h.next (below_drewN (Below.refl _ w) n)

theorem quiet_more {P : Program} {f : FuncId} {args : Array Value} {w : World} {a n : Nat} {v : Value}
    (h : Calls P f args (w.drewN (a + n)) fun e w' => e = .returned v ∧ ∃ m, w' = (w.drewN (a + n)).drewN m) : Calls P f args (w.drewN (a + n)) fun e w'' => e = .returned v ∧ ∃ m, w'' = w.drewN (a + m) :=
  h.mono fun _ _ ⟨he, m, hm⟩ => ⟨he, n + m, hm.trans ((World.drewN_drewN _ _ _).trans (by rw [Nat.add_assoc]))⟩

end Go.Proofs.YtkhiiiggmhncbaaGreat

/- The helpers of package interpolate: products of differences through a function that is handed on, factors, abscissas, the constants of the places; nothing that lay is changed. Conditions: a supported prime, elements of its field, at most 100 of them. -/
namespace Go.Proofs.YtkhiiiggmhncbaaGreat
set_option maxRecDepth 100000
open Go.RowKit PolyMath FieldMath

theorem clos_any (p v y : Int) (hp : OkP p) (hv : 0 ≤ v ∧ v < p) (hy : 0 ≤ y ∧ y < p) (Bp Bq : Nat) (w : World) (b1 : Boxed w Bp 22 (.int .u64 p)) (b2 : Boxed w Bq 22 (.int .u64 v)) :
    Calls Tryz.prog 101 #[.int .u64 y, .pointer (some ⟨Bp, 0, none⟩), .pointer (some ⟨Bq, 0, none⟩)] w fun e w' => (∃ r, e = .returned r) ∧ w' = w.setCell ⟨Bq, 0, none⟩ (.int .u64 (fmul p v y)) := by
  have c1 := b1.cell
  have c2 := b2.cell
  have f2 := b2.frozen
  clear b1 b2
  go_enter Tryz.func101, Tryz.ntmps101
  go_wp2_with (go_at_call 32; refine (mul_any _ _ _ hp hv.1 hv.2 hy.1 hy.2 _).mono ?_; rintro e w' ⟨rfl, rfl⟩)
  go_end0
  exact ⟨⟨_, rfl⟩, rfl⟩

/-- What the loop over the factors holds. -/
structure Facs (w0 : World) (p : Int) (Bp Bq : Nat) (v : Int) (w : World) : Prop where
  b1 : Boxed w Bp 22 (.int .u64 p)
  b2 : Boxed w Bq 22 (.int .u64 v)
  below : Below w0.heap.size w0 w

set_option maxHeartbeats 1000000 in
theorem eachf_any (p z : Int) (hp : OkP p) (hz : 0 ≤ z ∧ z < p) (A : Option Addr) (c : Nat) (xs : List Int) (hxs : El p xs) (hl : xs.length ≤ 400) (i : Nat) (hi : i < xs.length) (Bp Bq : Nat) (w0 w : World) (h : Sl w0 A c xs)
    (h2 : w0.heap.size ≤ Bq) (hne : Bp ≠ Bq) (h0 : Facs w0 p Bp Bq 1 w) :
    Calls Tryz.prog 100 #[.int .u64 p, .slice A xs.length c, .int .i64 i, .int .u64 z, .func (.func 101) #[] #[.pointer (some ⟨Bp, 0, none⟩), .pointer (some ⟨Bq, 0, none⟩)]] w
      fun e w' => (∃ v, e = .returned v) ∧ Facs w0 p Bp Bq (gpr p z 1 (xs.eraseIdx i)) w' := by
  have hbd := hp.bd
  go_enter Tryz.func100, Tryz.ntmps100
  go_wp2
  go_loopw [14] (fun j wr => ∃ k : Nat, k ≤ xs.length ∧ j = .int .i64 k ∧ Facs w0 p Bp Bq (gpr p z 1 (oth xs i k)) wr) (fun j _ => xs.length - (intOf j).toNat)
  case atStart => exact ⟨0, Nat.zero_le _, rfl, h0⟩
  case round =>
    obtain ⟨k, hk, rfl, hF⟩ := hrel
    by_cases hlt : k < xs.length
    · obtain ⟨b, off, x, hA, _, hx, hcx⟩ := (h.next hF.below).at_ hlt
      subst hA
      have hxb := hxs x (List.mem_of_getElem? hx)
      have hk' : (k : Int) < xs.length := by omega
      by_cases hki : k = i
      · subst hki
        have hE := Lib.hid (oth_here (xs := xs) hlt)
        clear hx
        go_wp2
        go_roundw
        case rel => exact ⟨k + 1, by omega, by simp, by rw [hE.out]; exact hF⟩
        case measure => simp [intOf]; omega
      · have hE := Lib.hid (oth_next (i := i) hx hki)
        have hG := Lib.hid (gpr_snoc p z (oth xs i k) 1 x)
        have hki' : (k : Int) ≠ i := by omega
        have hv := gpr_bd (p := p) (by omega) z (oth xs i k) 1 (by omega)
        have hy := fsub_bd p z x (by omega)
        have hcl := clos_any p _ _ hp hv hy Bp Bq wr hF.b1 hF.b2
        have hb2 := Lib.hid (hF.b2.set (.int .u64 (fmul p (gpr p z 1 (oth xs i k)) (fsub p z x))))
        have hb1 := Lib.hid (hF.b1.other hne (.int .u64 (fmul p (gpr p z 1 (oth xs i k)) (fsub p z x))))
        have hbl := Lib.hid (hF.below.setCell (p := ⟨Bq, 0, none⟩) h2 (.int .u64 (fmul p (gpr p z 1 (oth xs i k)) (fsub p z x))))
        clear hx hF
        go_wp2_with (first | (go_at_call 84; refine (sub_any _ _ _ hp hz.1 hz.2 hxb.1 hxb.2 _).mono ?_; rintro e w' ⟨rfl, rfl⟩) | (go_at_call 101; refine hcl.mono ?_; rintro e w2 ⟨⟨v, rfl⟩, rfl⟩))
        go_roundw
        case rel => exact ⟨k + 1, by omega, by simp, by rw [hE.out, hG.out]; exact ⟨hb1.out, hb2.out, hbl.out⟩⟩
        case measure => simp [intOf]; omega
    · obtain rfl : k = xs.length := by omega
      rw [oth_all] at hF
      go_wp2
      go_end0
      exact ⟨⟨_, rfl⟩, hF⟩

theorem bprod_any (p z : Int) (hp : OkP p) (hz : 0 ≤ z ∧ z < p) (A : Option Addr) (c : Nat) (xs : List Int) (hxs : El p xs) (hl : xs.length ≤ 400) (i : Nat) (hi : i < xs.length) (w : World) (h : Sl w A c xs) :
    Calls Tryz.prog 80 #[.int .u64 p, .slice A xs.length c, .int .i64 i, .int .u64 z] w fun e w' => e = .returned (.int .u64 (gpr p z 1 (xs.eraseIdx i))) ∧ Below w.heap.size w w' := by
  have h0 : Facs w p w.heap.size (w.heap.size + 1) 1 ((w.alloc (.cells #[.int .u64 p] 22)).alloc (.cells #[.int .u64 1] 22)) :=
    ⟨(Boxed.new w _ _).alloc _, by have := Boxed.new (w.alloc (.cells #[.int .u64 p] 22)) 22 (.int .u64 1); rwa [World.size_alloc] at this, ((Below.refl _ w).alloc (Nat.le_refl _) _).alloc (by simp) _⟩
  have he := eachf_any p z hp hz A c xs hxs hl i hi w.heap.size (w.heap.size + 1) w _ h (by omega) (by omega) h0
  clear h0
  go_enter Tryz.func80, Tryz.ntmps80
  go_wp2_with fail
  refine he.mono ?_
  rintro e w2 ⟨⟨v, rfl⟩, hF⟩
  have hc := hF.b2.cell
  have hB := hF.below
  clear he hF
  go_wp2_with fail
  go_ret
  exact ⟨rfl, hB⟩

theorem lin_row (p x : Int) (hp : OkP p) (hx : 0 ≤ x ∧ x < p) (w : World) :
    Calls Tryz.prog 68 #[.int .u64 p, .int .u64 x] w fun e w' => Row w e w' (lin p x) := by
  go_enter Tryz.func68, Tryz.ntmps68
  go_wp2_with (go_at_call 86; refine (neg_any _ _ hp hx.1 hx.2 _).mono ?_; rintro e w' ⟨rfl, rfl⟩)
  go_ret
  exact ⟨_, _, rfl, Sl.l2 w (fneg p x) 1, bnew (Below.refl _ _) _ (Nat.le_refl _)⟩
end Go.Proofs.YtkhiiiggmhncbaaGreat

/- Contracts of layer 4 in the forms that the laws use. Conditions: as for the contracts that they come from. -/
namespace Go.Proofs.YtkhiiiggmhncbaaGreat
set_option maxRecDepth 100000
open Go.RowKit PolyMath FieldMath

theorem deg_pos (A : Option Addr) (c d : Nat) (xs : List Int) (w : World) (h : Sl w A c xs) (hl : xs.length ≤ 1000) (hd : tn xs = d + 1) :
    Calls Tryz.prog 82 #[.slice A xs.length c] w fun e w' => e = .returned (.int .i64 (d : Int)) ∧ w = w' := by
  have := degree_any A c xs w h hl
  rwa [hd, show (((d + 1 : Nat) : Int) - 1) = (d : Int) from by omega] at this
theorem deg_zero (A : Option Addr) (c : Nat) (xs : List Int) (w : World) (h : Sl w A c xs) (hl : xs.length ≤ 1000) (hd : tn xs = 0) :
    Calls Tryz.prog 82 #[.slice A xs.length c] w fun e w' => e = .returned (.int .i64 (-1)) ∧ w = w' := by
  have := degree_any A c xs w h hl
  rwa [hd, show (((0 : Nat) : Int) - 1) = -1 from rfl] at this
theorem deg_prod (p : Int) (hp : OkP p) (A : Option Addr) (c d d' : Nat) (a b : List Int) (ha : El p a) (hb : El p b) (la : a.length ≤ 400) (lb : b.length ≤ 400) (h1 : tn a = d + 1) (h2 : tn b = d' + 1) (w : World) (h : Sl w A c (pmul p a b)) :
    Calls Tryz.prog 82 #[.slice A (pmul p a b).length c] w fun e w' => e = .returned (.int .i64 ((d : Int) + d')) ∧ w = w' := by
  have hl := pmul_len p a b
  have := deg_pos A c (d + d') (pmul p a b) w h (by omega) (by rw [tn_pmul hp.good ha hb (by omega) (by omega)]; omega)
  rwa [Int.natCast_add] at this
theorem eval_sum (p x : Int) (hp : OkP p) (hx : 0 ≤ x ∧ x < p) (A : Option Addr) (c : Nat) (a b : List Int) (la : a.length ≤ 400) (lb : b.length ≤ 400) (w : World) (h : Sl w A c (padd p a b)) :
    Calls Tryz.prog 34 #[.int .u64 p, .slice A (padd p a b).length c, .int .u64 x] w fun e w' => e = .returned (.int .u64 (fadd p (pev p a x) (pev p b x))) ∧ Below w.heap.size w w' := by
  have hbd := hp.bd
  have := eval_any p x hp hx A c (padd p a b) (padd_el (by omega) _ _) (by have := padd_len p a b; omega) w h
  rwa [pev_padd] at this
theorem eval_prod (p x : Int) (hp : OkP p) (hx : 0 ≤ x ∧ x < p) (A : Option Addr) (c : Nat) (a b : List Int) (la : a.length ≤ 200) (lb : b.length ≤ 200) (w : World) (h : Sl w A c (pmul p a b)) :
    Calls Tryz.prog 34 #[.int .u64 p, .slice A (pmul p a b).length c, .int .u64 x] w fun e w' => e = .returned (.int .u64 (fmul p (pev p a x) (pev p b x))) ∧ Below w.heap.size w w' := by
  have hbd := hp.bd
  have := eval_any p x hp hx A c (pmul p a b) (pmul_el (by omega) _ _) (by have := pmul_len p a b; omega) w h
  rwa [pev_pmul] at this
theorem coef_0 (A : Option Addr) (c : Nat) (xs : List Int) (v : Int) (w : World) (h : Sl w A c xs) (hv : co xs 0 = v) :
    Calls Tryz.prog 33 #[.slice A xs.length c, .int .i64 0] w fun e w' => e = .returned (.int .u64 v) ∧ w = w' := by
  have := coef_any A c xs 0 w h
  rwa [show coI xs 0 = co xs 0 from rfl, hv] at this
theorem tn_lin (z : Int) : tn [z, 1] = 1 + 1 := by simp [tn]
end Go.Proofs.YtkhiiiggmhncbaaGreat

/- The helpers of package interpolate that make lists: abscissas, basisScales, vanishing, powers; nothing that lay is changed. Conditions: a supported prime, elements of its field, at most 100 of them. -/
namespace Go.Proofs.YtkhiiiggmhncbaaGreat
set_option maxRecDepth 100000
open Go.RowKit PolyMath FieldMath

theorem OwnAt.next {w w' : World} {base g n c : Nat} {xs : List Int} (h : OwnAt w base g n c xs) (hb : Below w.heap.size w w') : OwnAt w' base g n c xs := own_below h hb

set_option maxHeartbeats 1000000 in
theorem absc_row (A : Option Addr) (c : Nat) (ps : List (Int × Int)) (hl : ps.length ≤ 100) (w : World) (h : Pt w A c ps) :
    Calls Tryz.prog 64 #[.slice A ps.length c] w fun e w' => Row w e w' (px ps) := by
  obtain ⟨i0, hi, hz0, hz1, hz2⟩ := info_parts info_u64
  have hb8 : i0.bytes * ps.length ≤ 281474976710656 := by rw [hz2]; omega
  have hB8 := Lib.hid hb8
  have hD := Lib.hid (show fillL (co (px ps)) ps.length ps.length = px ps from by rw [fillL_done, ← px_len]; exact range_co _)
  clear hb8
  go_enter Tryz.func64, Tryz.ntmps64
  go_wp2_with (at_make; refine wpList_make_full _ rfl _ _ 23 rfl w.heap.size 22 i0 (.int .u64 0) 1 Tryz.underlying23 hi hz0 hz1 .i64 .i64 _ _ ps.length rfl rfl (by omega) (by omega) hB8.out (by simp only [maxLen]; omega) (Nat.le_refl _) ?_; intro w1 hown1 hgrow1)
  have hb1 : Below w.heap.size w w1 := (Below.refl _ w).grown hgrow1 (Nat.le_refl _) (fun k e => by cases e)
  simp only [Value.cells, toList_madeCells_one, Nat.mul_one] at hown1
  have hown2 : OwnAt w1 w.heap.size w.heap.size ps.length ps.length (fillL (co (px ps)) ps.length 0) := by
    unfold OwnAt; rw [fillL_start]; simpa using hown1
  clear hown1 hgrow1
  go_loopw [11] (fun i wr => ∃ k : Nat, k ≤ ps.length ∧ i = .int .i64 k ∧ OwnAt wr w.heap.size w.heap.size ps.length ps.length (fillL (co (px ps)) ps.length k) ∧ Below w.heap.size w wr) (fun i _ => ps.length - (intOf i).toNat)
  case atStart => exact ⟨0, Nat.zero_le _, rfl, hown2, hb1⟩
  case round =>
    obtain ⟨k, hk, rfl, hO, hB⟩ := hrel
    by_cases hlt : k < ps.length
    · obtain ⟨b, off, x, y, hA, hbl, hx, hcx, hcy⟩ := (h.next hB).at_ (by omega)
      subst hA
      have hset := fillL_set (co (px ps)) ps.length k
      rw [px_at hx] at hset
      have hS := Lib.hid hset
      have hcell := hO.cell (fillL_get (co (px ps)) ps.length k k hlt)
      have hfz := hO.frozen k
      have hlt2 := hO.lt
      have hne : w.heap.size ≠ wr.heap.size := by omega
      have hne2 : b ≠ wr.heap.size := by omega
      have hput := Lib.hid ((hO.put k x).push (.cells #[.int .u64 x, .int .u64 y] 91))
      have hbel := Lib.hid (bnew (hB.setCell (p := ⟨w.heap.size, k, none⟩) (Nat.le_refl _) (.int .u64 x)) (.cells #[.int .u64 x, .int .u64 y] 91) (Nat.le_refl _))
      have hkN : (k : Int) < ps.length := by omega
      clear hset hx
      go_wp2
      go_roundw
      case rel => exact ⟨k + 1, by omega, by simp, by rw [← hS.out]; exact hput.out, hbel.out⟩
      case measure => simp [intOf]; omega
    · obtain rfl : k = ps.length := by omega
      rw [hD.out] at hO
      have hs3 := Lib.hid hO.sl
      have hlen := Lib.hid (px_len ps)
      go_wp2
      go_ret
      exact ⟨_, _, by rw [hlen.out]; rfl, hs3.out, hB⟩

set_option maxHeartbeats 1000000 in
theorem van_row (p : Int) (hp : OkP p) (A : Option Addr) (c : Nat) (xs : List Int) (hxs : El p xs) (hl : xs.length ≤ 100) (w : World) (h : Sl w A c xs) :
    Calls Tryz.prog 66 #[.int .u64 p, .slice A xs.length c] w fun e w' => Row w e w' (van p [1] xs) := by
  have hbd := hp.bd
  go_enter Tryz.func66, Tryz.ntmps66
  go_wp2
  go_loopw [5, 11] (fun v i wr => ∃ (k : Nat) (A' : Option Addr) (c' : Nat), k ≤ xs.length ∧ i = .int .i64 k ∧ v = .slice A' (van p [1] (xs.take k)).length c' ∧ Sl wr A' c' (van p [1] (xs.take k)) ∧ Below w.heap.size w wr) (fun _ i _ => xs.length - (intOf i).toNat)
  case atStart => exact ⟨0, some ⟨w.heap.size, 0, none⟩, 1, Nat.zero_le _, rfl, rfl, Sl.l1 w 1, bnew (Below.refl _ _) _ (Nat.le_refl _)⟩
  case round =>
    obtain ⟨k, A', c', hk, rfl, rfl, hs, hB⟩ := hrel
    by_cases hlt : k < xs.length
    · obtain ⟨b, off, x, hA, _, hx, hcx⟩ := (h.next hB).at_ hlt
      subst hA
      have hxb := hxs x (List.mem_of_getElem? hx)
      have hk' : (k : Int) < xs.length := by omega
      have hE : van p [1] (xs.take (k + 1)) = pmul p (van p [1] (xs.take k)) (lin p x) := by
        rw [List.take_add_one, hx]; exact van_snoc p (xs.take k) [1] x
      have hEl := van_el (p := p) (by omega) (xs.take k) [1] (El.one (by omega))
      have hLn := van_len p (xs.take k) [1]
      rw [List.length_take, List.length_singleton] at hLn
      have hmul := fun w2 A2 c2 (h2 : Sl w2 A2 c2 (lin p x)) (h3 : Sl w2 A' c' (van p [1] (xs.take k))) => mul_row p hp A' A2 c' c2 _ _ hEl (lin_el (by omega) x) (by omega) (by rw [lin_len]; omega) w2 h3 h2
      rw [← hE] at hmul
      clear hx hE hEl hLn
      generalize van p [1] (xs.take k) = V at *
      go_wp2_with (first | (go_at_call 68; refine (lin_row p x hp hxb _).mono ?_; rintro e w2 ⟨A2, c2, rfl, hs2, hb2⟩; have hm := hmul w2 A2 c2 hs2 (hs.next hb2); clear hs2) | (go_at_call 81; refine hm.mono ?_; rintro e w3 ⟨A3, c3, rfl, hs3, hb3⟩; clear hm hmul))
      have hB3 := (hB.trans (hb2.mono hB.size)).trans (hb3.mono (Nat.le_trans hB.size hb2.size))
      go_roundw
      case rel => exact ⟨k + 1, _, _, by omega, by simp, rfl, hs3, hB3⟩
      case measure => simp [intOf]; omega
    · obtain rfl : k = xs.length := by omega
      rw [List.take_length] at *
      go_wp2
      go_ret
      exact ⟨_, _, rfl, hs, hB⟩

/-- What basisScales hands back. -/
def SclRow (p : Int) (xs : List Int) (w : World) (e : Ending) (w' : World) : Prop :=
  (xs.Nodup ∧ ∃ g, e = .returned (.tuple #[.slice (some ⟨g, 0, none⟩) xs.length xs.length, .int .i64 0]) ∧ OwnAt w' w.heap.size g xs.length xs.length (scls p xs) ∧ Below w.heap.size w w') ∨
  (¬ xs.Nodup ∧ e = .returned (.tuple #[.slice none 0 0, .int .i64 1]) ∧ Below w.heap.size w w')

set_option maxHeartbeats 1000000 in
theorem scl_row (p : Int) (hp : OkP p) (A : Option Addr) (c : Nat) (xs : List Int) (hxs : El p xs) (hl : xs.length ≤ 100) (w : World) (h : Sl w A c xs) :
    Calls Tryz.prog 65 #[.int .u64 p, .slice A xs.length c] w fun e w' => SclRow p xs w e w' := by
  obtain ⟨i0, hi, hz0, hz1, hz2⟩ := info_parts info_u64
  have hbd := hp.bd
  have hb8 : i0.bytes * xs.length ≤ 281474976710656 := by rw [hz2]; omega
  have hB8 := Lib.hid hb8
  have hD := Lib.hid (show fillL (scl p xs) xs.length xs.length = scls p xs from fillL_done _ _)
  clear hb8
  go_enter Tryz.func65, Tryz.ntmps65
  go_wp2_with (at_make; refine wpList_make_full _ rfl _ _ 23 rfl w.heap.size 22 i0 (.int .u64 0) 1 Tryz.underlying23 hi hz0 hz1 .i64 .i64 _ _ xs.length rfl rfl (by omega) (by omega) hB8.out (by simp only [maxLen]; omega) (Nat.le_refl _) ?_; intro w1 hown1 hgrow1)
  have hb1 : Below w.heap.size w w1 := (Below.refl _ w).grown hgrow1 (Nat.le_refl _) (fun k e => by cases e)
  simp only [Value.cells, toList_madeCells_one, Nat.mul_one] at hown1
  have hown2 : OwnAt w1 w.heap.size w.heap.size xs.length xs.length (fillL (scl p xs) xs.length 0) := by
    unfold OwnAt; rw [fillL_start]; simpa using hown1
  clear hown1 hgrow1
  go_loopw [16] (fun i wr => ∃ k : Nat, k ≤ xs.length ∧ i = .int .i64 k ∧ Hid (∀ j, j < k → co xs j ∉ xs.eraseIdx j) ∧ OwnAt wr w.heap.size w.heap.size xs.length xs.length (fillL (scl p xs) xs.length k) ∧ Below w.heap.size w wr) (fun i _ => xs.length - (intOf i).toNat)
  case atStart => exact ⟨0, Nat.zero_le _, rfl, Lib.hid (fun j hj => absurd hj (by omega)), hown2, hb1⟩
  case round =>
    obtain ⟨k, hk, rfl, hU, hO, hB⟩ := hrel
    by_cases hlt : k < xs.length
    · have hltx : k < xs.length := by omega
      obtain ⟨b, off, x, hA, _, hx, hcx⟩ := (h.next hB).at_ hltx
      have hxb := hxs x (List.mem_of_getElem? hx)
      have hX := Lib.hid (co_at hx)
      have hbp := bprod_any p x hp hxb A c xs hxs (by omega) k hltx wr (h.next hB)
      subst hA
      have hkN : (k : Int) < xs.length := by omega
      by_cases hin : x ∈ xs.eraseIdx k
      · rw [gpr_hit p x _ 1 hin] at hbp
        have hnot : ¬ xs.Nodup := fun hn => erase_not hn hltx (by rw [hX.out]; exact hin)
        have hNot := Lib.hid hnot
        clear hx hin hnot
        go_wp2_with (first | (go_at_call 80; refine hbp.mono ?_; clear hbp; rintro e w2 ⟨rfl, hb2⟩) | (go_at_call 79; refine (inverse_zero p _).mono ?_; rintro e w' ⟨rfl, rfl⟩))
        go_ret2
        exact .inr ⟨hNot.out, rfl, hB.trans (hb2.mono hB.size)⟩
      · have hG := gpr_pos hp.good hxb _ 1 (by omega) (el_erase hxs k) hin
        have hG2 := gpr_bd (p := p) (by omega) x (xs.eraseIdx k) 1 (by omega)
        have hset := fillL_set (scl p xs) xs.length k
        rw [show scl p xs k = fpow p (gpr p x 1 (xs.eraseIdx k)) (p - 2) from by unfold scl finv; rw [hX.out]] at hset
        have hU2 := Lib.hid (show ∀ j, j < k + 1 → co xs j ∉ xs.eraseIdx j from fun j hj => by
          rcases (show j < k ∨ j = k by omega) with h1 | rfl
          · exact hU.out j h1
          · rw [hX.out]; exact hin)
        generalize gpr p x 1 (xs.eraseIdx k) = G at *
        have hS := Lib.hid hset
        have hget := Lib.hid (fillL_get (scl p xs) xs.length k k hlt)
        clear hx hin hset
        go_wp2_with (first | (go_at_call 80; refine hbp.mono ?_; clear hbp; rintro e w2 ⟨rfl, hb2⟩; have hO2 := hO.next hb2; have hcell := hO2.cell hget.out; have hfz := hO2.frozen k) | (go_at_call 79; refine (inverse_any p _ hp hG hG2.2 _).mono ?_; rintro e w' ⟨rfl, rfl⟩))
        have hB2 := hB.trans (hb2.mono hB.size)
        go_roundw
        case rel => exact ⟨k + 1, by omega, by simp, hU2, by rw [← hS.out]; exact hO2.put k _, hB2.setCell (p := ⟨w.heap.size, k, none⟩) (Nat.le_refl _) _⟩
        case measure => simp [intOf]; omega
    · obtain rfl : k = xs.length := by omega
      rw [hD.out] at hO
      have hnd := Lib.hid (nodup_of (xs := xs) (fun j hj => hU.out j (by omega)))
      go_wp2
      go_ret2
      exact .inl ⟨hnd.out, w.heap.size, rfl, hO, hB⟩
end Go.Proofs.YtkhiiiggmhncbaaGreat

/- Polynomial of package interpolate: the polynomial through the points, or the error where two abscissas agree; nothing that lay is changed. Conditions: a supported prime, coordinates in its field, at most 100 points. -/
namespace Go.Proofs.YtkhiiiggmhncbaaGreat
set_option maxRecDepth 100000
open Go.RowKit PolyMath FieldMath

/-- What Polynomial hands back. -/
def PolRow (p : Int) (ps : List (Int × Int)) (w : World) (e : Ending) (w' : World) : Prop :=
  ((px ps).Nodup ∧ ∃ A c, e = .returned (.tuple #[.slice A (thru p ps).length c, .int .i64 0]) ∧ Sl w' A c (thru p ps) ∧ Below w.heap.size w w') ∨
  (¬ (px ps).Nodup ∧ e = .returned (.tuple #[.slice none 0 0, .int .i64 1]) ∧ Below w.heap.size w w')

set_option maxHeartbeats 2000000 in
theorem pol_any (p : Int) (hp : OkP p) (A : Option Addr) (c : Nat) (ps : List (Int × Int)) (hx : El p (px ps)) (hy : El p (py ps)) (hl : ps.length ≤ 100) (w : World) (h : Pt w A c ps) :
    Calls Tryz.prog 40 #[.int .u64 p, .slice A ps.length c] w fun e w' => PolRow p ps w e w' := by
  have hbd := hp.bd
  have hab := absc_row A c ps hl w h
  have hxl := px_len ps
  have hscl := fun W A' c' (h' : Sl W A' c' (px ps)) => scl_row p hp A' c' (px ps) hx (by omega) W h'
  have hvan := fun W A' c' (h' : Sl W A' c' (px ps)) => van_row p hp A' c' (px ps) hx (by omega) W h'
  rw [hxl] at hscl hvan
  go_enter Tryz.func40, Tryz.ntmps40
  go_wp2_with fail
  refine hab.mono ?_
  rintro e w1 ⟨A1, c1, rfl, hs1, hb1⟩
  rw [hxl]
  clear hab
  go_wp2_with fail
  refine (hscl _ _ _ hs1).mono ?_
  clear hscl
  rintro e w2 (⟨hnd, g, rfl, hO2, hb2⟩ | ⟨hnd, rfl, hb2⟩)
  case inr =>
    go_wp2_with fail
    go_ret2
    exact .inr ⟨hnd, rfl, hb1.trans (hb2.mono hb1.size)⟩
  case inl =>
    rw [hxl] at hO2 ⊢
    have hB2 := hb1.trans (hb2.mono hb1.size)
    have hND := Lib.hid hnd
    clear hnd
    go_wp2_with fail
    refine (hvan _ _ _ (hs1.next hb2)).mono ?_
    rintro e w3 ⟨A3, c3, rfl, hs3, hb3⟩
    have hO3 := hO2.next hb3
    have hB3 := hB2.trans (hb3.mono hB2.size)
    have hV : El p (van p [1] (px ps)) := van_el (by omega) _ _ (El.one (by omega))
    have hVl := van_len p (px ps) [1]
    rw [List.length_singleton, hxl] at hVl
    have hquo := fun (k : Nat) (hk : k < (px ps).length) (q r : List Int) (hd : DM p (van p [1] (px ps)) (lin p (co (px ps) k)) q r) (y : Int) => term_eq hp.good hND.out hx hk hd y
    have hQ := Lib.hid hquo
    have hdiv := fun (x : Int) W A' c' A'' c'' (h1 : Sl W A' c' (van p [1] (px ps))) (h2 : Sl W A'' c'' (lin p x)) => div_row p hp A' A'' c' c'' 1 (van p [1] (px ps)) (lin p x) hV (lin_el (by omega) x) (by omega) (by rw [lin_len]; omega) W h1 h2 (lin_tn p x)
    clear hvan hO2 hB2 hquo hs1 hb2 hb3
    generalize hvv : van p [1] (px ps) = V at *
    clear hvv
    go_wp2
    go_loopw [10, 32] (fun v i wr => ∃ (k : Nat) (A' : Option Addr) (c' : Nat), k ≤ ps.length ∧ i = .int .i64 k ∧ v = .slice A' (lag p (px ps) (py ps) k).length c' ∧ Sl wr A' c' (lag p (px ps) (py ps) k) ∧ Below w3.heap.size w3 wr) (fun _ i _ => ps.length - (intOf i).toNat)
    case atStart => exact ⟨0, none, 0, Nat.zero_le _, rfl, rfl, Sl.nothing _, Below.refl _ _⟩
    case round =>
      obtain ⟨k, A', c', hk, rfl, rfl, hf, hBr⟩ := hrel
      by_cases hlt : k < ps.length
      · obtain ⟨b, off, x, y, hA, hbl, hxy, hcx, hcy⟩ := (h.next (hB3.trans (hBr.mono hB3.size))).at_ hlt
        subst hA
        have hx1 := px_at hxy
        have hy1 := py_at hxy
        have hxb := hx.co (p := p) (by omega) k
        have hyb := hy.co (p := p) (by omega) k
        have hsb := scl_bd (p := p) (by omega) (px ps) k
        have hsget := scls_get p (xs := px ps) (i := k) (by omega)
        have hfe := lag_el (p := p) (by omega) (px ps) (py ps) k
        have hfl := lag_len p (px ps) (py ps) k (by omega)
        have hnext : lag p (px ps) (py ps) (k + 1) = padd p (lag p (px ps) (py ps) k) (pscl p (co (py ps) k) (base p (px ps) k)) := rfl
        have hq2 := hQ.out k (by omega)
        rw [hx1] at hxb hq2
        rw [hy1] at hyb hnext
        generalize scl p (px ps) k = s at *
        generalize lag p (px ps) (py ps) k = F at *
        generalize hFe : lag p (px ps) (py ps) (k + 1) = F' at *
        have hFF := Lib.hid hFe
        clear hFe
        have hQ2 := Lib.hid hq2
        have hNX := Lib.hid hnext
        have hkN : (k : Int) < ps.length := by omega
        have hne2 : b ≠ wr.heap.size := by omega
        have hms := fmul_bd p y s (by omega)
        clear hx1 hy1 hxy hnext hq2
        go_wp2_with fail
        refine (lin_row p x hp hxb _).mono ?_
        rintro e w4 ⟨A4, c4, rfl, hs4, hb4⟩
        have hBn : Below wr.heap.size wr w4 := (bnew (Below.refl _ wr) _ (Nat.le_refl _)).trans (hb4.mono (by simp))
        have cy4 : w4.cell? ⟨wr.heap.size, 1, none⟩ = some (.int .u64 y) := by rw [(bcell hb4).1 _ _ (by simp)]; go_simp
        have hl4 : wr.heap.size < w4.heap.size := by have := hb4.size; simp at this; omega
        clear hb4
        go_wp2_with fail
        refine (hdiv x _ _ _ _ _ (hs3.next (hBr.trans (hBn.mono hBr.size))) hs4).mono ?_
        rintro e w5 ⟨q, r, A5, c5, A6, c6, rfl, hs5, hs6, hDM, hql, hb5⟩
        have cy5 := (hb5.cell (p := ⟨wr.heap.size, 1, none⟩) hl4).trans cy4
        have hB5 := hBn.trans (hb5.mono hBn.size)
        have hB5' := hBr.trans (hB5.mono hBr.size)
        have hO5 := hO3.next hB5'
        have cs5 := hO5.cell hsget
        have hT := Lib.hid (hQ2.out q r hDM y)
        have hq1 := hDM.qe
        have hf5 := hf.next hB5
        have hsc := scale_row p (fmul p y s) hp hms A5 c5 q hq1 (by omega) _ hs5.drew
        rw [hT.out] at hsc
        have hadd := fun W A7 c7 (h7 : Sl W A7 c7 (pscl p y (base p (px ps) k))) (h8 : Sl W A' c' F) => add_row p hp A' A7 c' c7 F _ hfe (pscl_el (by omega) _ _) (by omega) (by have := pscl_len p y (base p (px ps) k); have := base_len p (px ps) (i := k) (by omega); omega) W h8 h7
        rw [← hNX.out] at hadd
        have hsz5 := hb5.size
        clear hs5 hs6 hDM hb5 cy4 hs4
        have hl5 : wr.heap.size < w5.heap.size := Nat.lt_of_lt_of_le hl4 hsz5
        have hg5 := hO5.lt
        go_wp2_with fail
        go_region_held3 (fun w' => w'.cell? ⟨wr.heap.size, 1, none⟩ = some (.int .u64 y) ∧ w'.cell? ⟨g, k, none⟩ = some (.int .u64 s))
          (refine ⟨?_, ?_⟩ <;> assumption)
          (first
            | (go_at_call 32; (with_reducible refine (mul_any _ _ _ hp hyb.1 hyb.2 hsb.1 hsb.2 _).mono ?_); rintro e w' ⟨rfl, rfl⟩)
            | (go_at_call 70; (with_reducible refine hsc.mono ?_); rintro e w7 ⟨A7, c7, rfl, hs7, hb7⟩; have cy7 := (hb7.cell (p := ⟨wr.heap.size, 1, none⟩) hl5).trans cy5; have cs7 := (hb7.cell (p := ⟨g, k, none⟩) hg5.2).trans cs5; have ha7 := Lib.hid (hadd w7 A7 c7 hs7 (hf5.drew.next hb7)); have hB7 := hB5.drew.trans (hb7.mono hB5.size); have hl7 := Nat.lt_of_lt_of_le hl5 hb7.size; have hg7 := Nat.lt_of_lt_of_le hg5.2 hb7.size; clear hb7 hs7 hadd)
            | (go_at_call 69; (with_reducible refine (ha7.out).mono ?_); rintro e w8 ⟨A8, c8, rfl, hs8, hb8⟩; have cy8 := (hb8.cell (p := ⟨wr.heap.size, 1, none⟩) hl7).trans cy7; have cs8 := (hb8.cell (p := ⟨g, k, none⟩) hg7).trans cs7; have hB8 := hB7.trans (hb8.mono hB7.size)))
        all_goals
          go_wp2_with fail
          go_roundw
          case rel => exact ⟨k + 1, A8, c8, by omega, by simp, by rw [hFF.out], by rw [hFF.out]; exact hs8, hBr.trans (hB8.mono hBr.size)⟩
          case measure => simp [intOf]; omega
      · obtain rfl : k = ps.length := by omega
        go_wp2_with fail
        go_ret2
        exact .inl ⟨hND.out, _, _, rfl, hf, hB3.trans (hBr.mono hB3.size)⟩
end Go.Proofs.YtkhiiiggmhncbaaGreat

/- LagrangeWeights and Vandermonde of package interpolate: the weights (or the error where two abscissas agree), the rows of powers; nothing that lay is changed. Conditions: a supported prime, elements of its field, at most 100 of them and 100 columns. -/
namespace Go.Proofs.YtkhiiiggmhncbaaGreat
set_option maxRecDepth 100000
open Go.RowKit PolyMath FieldMath

/-- What LagrangeWeights hands back. -/
def WtRow (p : Int) (xs : List Int) (z : Int) (w : World) (e : Ending) (w' : World) : Prop :=
  (xs.Nodup ∧ ∃ A c, e = .returned (.tuple #[.slice A (wts p xs z).length c, .int .i64 0]) ∧ Sl w' A c (wts p xs z) ∧ Below w.heap.size w w') ∨
  (¬ xs.Nodup ∧ e = .returned (.tuple #[.slice none 0 0, .int .i64 1]) ∧ Below w.heap.size w w')

/-- The rows of powers. -/
def vmx (p : Int) (xs : List Int) (N : Nat) : List (List Int) := xs.map fun x => pows p x N
theorem vmx_len (p : Int) (xs : List Int) (N : Nat) : (vmx p xs N).length = xs.length := by unfold vmx; simp

/-- What the loop over the rows holds. -/
structure Rows5 (w : World) (p : Int) (xs : List Int) (N k : Nat) (vs : List Value) (wr : World) : Prop where
  own : wr.ownsRow w.heap.size 23 1 (.slice (some ⟨w.heap.size, 0, none⟩) xs.length xs.length) xs.length vs
  row : ∀ j, j < k → ∃ b, w.heap.size < b ∧ vs[j]? = some (.slice (some ⟨b, 0, none⟩) N N) ∧ Sl wr (some ⟨b, 0, none⟩) N (pows p (co xs j) N)
  below : Below w.heap.size w wr

theorem Rows5.store {w wr : World} {p : Int} {xs : List Int} {N k : Nat} {vs : List Value} {b : Nat} (h : Rows5 w p xs N k vs wr) (hk : k < xs.length) (hb : w.heap.size < b) (hs : Sl wr (some ⟨b, 0, none⟩) N (pows p (co xs k) N)) :
    Rows5 w p xs N (k + 1) (vs.set k (.slice (some ⟨b, 0, none⟩) N N)) (wr.setCell ⟨w.heap.size, k, none⟩ (.slice (some ⟨b, 0, none⟩) N N)) := by
  have hst := World.ownsRow.stored h.own k (.slice (some ⟨b, 0, none⟩) N N)
  have hvl : vs.length = xs.length := by have := h.own.1; omega
  refine ⟨hst.1, fun j hj => ?_, h.below.setCell (p := ⟨w.heap.size, k, none⟩) (Nat.le_refl _) _⟩
  rcases (show j < k ∨ j = k by omega) with h1 | rfl
  · obtain ⟨b', hb', hv, hs'⟩ := h.row j h1
    exact ⟨b', hb', by rw [List.getElem?_set_ne (by omega)]; exact hv, hs'.grown hst.2 (fun ad e => by injection e with e; subst e; intro e2; injection e2 with e2; change b' = w.heap.size at e2; omega)⟩
  · exact ⟨b, hb, by rw [List.getElem?_set_self (by omega)], hs.grown hst.2 (fun ad e => by injection e with e; subst e; intro e2; injection e2 with e2; change b = w.heap.size at e2; omega)⟩
theorem Rows5.next {w wr w' : World} {p : Int} {xs : List Int} {N k : Nat} {vs : List Value} (h : Rows5 w p xs N k vs wr) (hb : Below wr.heap.size wr w') : Rows5 w p xs N k vs w' :=
  ⟨own_below h.own hb, fun j hj => by obtain ⟨b', hb', hv, hs'⟩ := h.row j hj; exact ⟨b', hb', hv, hs'.next hb⟩, h.below.trans (hb.mono h.below.size)⟩
theorem Rows5.sll {w wr : World} {p : Int} {xs : List Int} {N : Nat} {vs : List Value} (h : Rows5 w p xs N xs.length vs wr) : Sll wr (some ⟨w.heap.size, 0, none⟩) xs.length (vmx p xs N) := by
  refine ⟨by rw [vmx_len]; exact Nat.le_refl _, (fun h => by cases h), fun ad e _ => ?_⟩
  injection e with e
  subst e
  refine ⟨w.heap.size, 0, rfl, (World.ownsRow.lt h.own w.heap.size rfl).2, fun j r hr => ?_⟩
  unfold vmx at hr
  rw [List.getElem?_map] at hr
  obtain ⟨x, hx, rfl⟩ := Option.map_eq_some_iff.1 hr
  have hj := (List.getElem?_eq_some_iff.1 hx).1
  obtain ⟨b, hb, hv, hs⟩ := h.row j hj
  rw [co_at hx] at hs
  refine ⟨some ⟨b, 0, none⟩, N, ?_, hs⟩
  rw [pows_len, Nat.zero_add]
  exact (World.ownsRow.cellAt h.own j (by omega)).trans hv

theorem info_sl : (Tryz.prog.info? 23).map (fun i => (i.zero, i.size, i.bytes)) = some (some (.slice none 0 0), 1, 24) := by kernel_rfl

/-- What Vandermonde hands back. -/
def VRow (p : Int) (xs : List Int) (N : Nat) (w : World) (e : Ending) (w' : World) : Prop :=
  ∃ A c, e = .returned (.slice A xs.length c) ∧ Sll w' A c (vmx p xs N) ∧ Below w.heap.size w w'

end Go.Proofs.YtkhiiiggmhncbaaGreat

/- base, Polynomial, LagrangeWeights of the reference of layer 5: as the code's own; nothing that lay is changed. Conditions: a supported prime, elements of its field, at most 100 of them. -/
namespace Go.Proofs.YtkhiiiggmhncbaaGreat
set_option maxRecDepth 100000
open Go.RowKit PolyMath FieldMath

theorem oth_len (xs : List Int) (i k : Nat) : (oth xs i k).length ≤ xs.length := by
  unfold oth
  have h1 := List.length_eraseIdx_le (xs.take k) i
  rw [List.length_take] at h1
  omega

end Go.Proofs.YtkhiiiggmhncbaaGreat

/- Vandermonde of the reference of layer 5: the rows of powers; nothing that lay is changed. Conditions: a supported prime, elements of its field, at most 100 of them and 100 columns. -/
namespace Go.Proofs.YtkhiiiggmhncbaaGreat
set_option maxRecDepth 100000
open Go.RowKit PolyMath FieldMath

/-- The block of the slice at A is one of words. -/
def Ty (w : World) (A : Option Addr) : Prop := ∀ ad, A = some ad → ∃ cur fz, w.heap[ad.block]? = some (.cells cur 22 fz)
theorem heap_lt {w : World} {b : Nat} {o : Obj} (h : w.heap[b]? = some o) : b < w.heap.size := (Array.getElem?_eq_some_iff.1 h).1
theorem Ty.next {w w' : World} {A : Option Addr} (h : Ty w A) (hb : Below w.heap.size w w') : Ty w' A := fun ad e => by
  obtain ⟨cur, fz, h1⟩ := h ad e
  exact ⟨cur, fz, (hb.block _ (heap_lt h1)).trans h1⟩
theorem Ty.grown {w w' : World} {A : Option Addr} {row : Option Nat} (h : Ty w A) (hg : w.grownBy w' row) (hr : ∀ ad, A = some ad → some ad.block ≠ row) : Ty w' A := fun ad e => by
  obtain ⟨cur, fz, h1⟩ := h ad e
  exact ⟨cur, fz, (hg.block _ (heap_lt h1) (hr ad e)).trans h1⟩
theorem own_tag {w : World} {base t n : Nat} {v : Value} {xs : List Value} (h : w.ownsRow base t 1 v n xs) : ∀ g, v.ownBlock = some g → ∃ cur fz, w.heap[g]? = some (.cells cur t fz) := by
  intro g hg
  rcases h.2 with ⟨rfl, _⟩ | ⟨g', cap, cur, rfl, _, hh, _⟩
  · cases hg
  · cases hg
    exact ⟨cur, (0, 0), hh⟩
theorem Ty.of_own {w : World} {base n m c : Nat} {A : Option Addr} {xs : List Value} (h : w.ownsRow base 22 1 (.slice A m c) n xs) : Ty w A := fun ad e => by
  subst e
  rcases h.2 with ⟨h0, _⟩ | ⟨g', cap, cur, h0, _, hh, _⟩
  · cases h0
  · cases h0
    exact ⟨cur, (0, 0), hh⟩
/-- Words lie in no block of slices. -/
theorem Ty.apart {w : World} {A : Option Addr} {base n : Nat} {v : Value} {xs : List Value} (h : Ty w A) (ho : w.ownsRow base 23 1 v n xs) : ∀ ad, A = some ad → some ad.block ≠ v.ownBlock := fun ad e e2 => by
  obtain ⟨cur, fz, h1⟩ := h ad e
  obtain ⟨cur', fz', h2⟩ := own_tag ho _ e2.symm
  rw [h1] at h2
  cases h2

/-- A row of slices that the call itself makes, which hold the lists rows. -/
def LOwn (base : Nat) (w : World) (v : Value) (rows : List (List Int)) : Prop :=
  ∃ vs : List Value, w.ownsRow base 23 1 v rows.length vs ∧ ∀ (j : Nat) (r : List Int), rows[j]? = some r → ∃ A c, vs[j]? = some (Value.slice A r.length c) ∧ Sl w A c r ∧ Ty w A
theorem LOwn.none (base : Nat) (w : World) : LOwn base w (.slice none 0 0) [] := ⟨[], World.ownsRow_nil _ _ _ _, fun j l h => by simp at h⟩
theorem LOwn.next {base : Nat} {w w' : World} {v : Value} {rows : List (List Int)} (h : LOwn base w v rows) (hb : Below w.heap.size w w') : LOwn base w' v rows := by
  obtain ⟨vs, h1, h2⟩ := h
  refine ⟨vs, own_below h1 hb, fun j l hl => ?_⟩
  obtain ⟨A, c, h3, h0, h4⟩ := h2 j l hl
  exact ⟨A, c, h3, h0.next hb, h4.next hb⟩
theorem LOwn.add {base : Nat} {w w2 : World} {v v' : Value} {rows : List (List Int)} {vs : List Value} {l : List Int} {A : Option Addr} {c : Nat} (h1 : w.ownsRow base 23 1 v rows.length vs)
    (h2 : ∀ (j : Nat) (r : List Int), rows[j]? = some r → ∃ A c, vs[j]? = some (Value.slice A r.length c) ∧ Sl w A c r ∧ Ty w A) (hs : Sl w A c l) (ht : Ty w A)
    (hown : w2.ownsRow base 23 1 v' (rows.length + 1) (vs ++ [Value.slice A l.length c])) (hg : w.grownBy w2 v.ownBlock) : LOwn base w2 v' (rows ++ [l]) := by
  have hvl : vs.length = rows.length := by simpa using h1.1
  refine ⟨vs ++ [.slice A l.length c], by rw [List.length_append]; exact hown, fun j l' hj => ?_⟩
  by_cases hlt : j < rows.length
  · rw [List.getElem?_append_left hlt] at hj
    obtain ⟨A', c', h3, h5, h4⟩ := h2 j l' hj
    exact ⟨A', c', by rw [List.getElem?_append_left (by omega)]; exact h3, h5.grown hg (h4.apart h1), h4.grown hg (h4.apart h1)⟩
  · rw [List.getElem?_append_right (by omega)] at hj
    obtain ⟨hj', e⟩ := List.getElem?_eq_some_iff.1 hj
    simp only [List.length_singleton] at hj'
    obtain rfl : j = rows.length := by omega
    simp only [Nat.sub_self, List.getElem_cons_zero] at e
    subst e
    exact ⟨A, c, by rw [List.getElem?_append_right (by omega), hvl, Nat.sub_self]; rfl, hs.grown hg (ht.apart h1), ht.grown hg (ht.apart h1)⟩
theorem LOwn.form {base : Nat} {w : World} {v : Value} {rows : List (List Int)} (h : LOwn base w v rows) : ∃ A c, v = .slice A rows.length c ∧ Sll w A c rows := by
  obtain ⟨vs, h1, h2⟩ := h
  rcases h1.2 with ⟨rfl, h0⟩ | ⟨g, cap, cur, rfl, _, hh, hc, _, h3, h4⟩
  · have : rows = [] := List.eq_nil_of_length_eq_zero h0
    subst this
    exact ⟨_, 0, rfl, Sll.nothing w⟩
  · refine ⟨some ⟨g, 0, .none⟩, cap, rfl, hc, (fun h => by cases h), fun ad e _ => ?_⟩
    injection e with e
    subst e
    refine ⟨g, 0, rfl, heap_lt hh, fun j l hl => ?_⟩
    obtain ⟨A, c, h5, h7, h6⟩ := h2 j l hl
    refine ⟨A, c, ?_, h7⟩
    rw [cell_of_row w g (0 + j) cur 23 (0, 0) hh, Nat.zero_add]
    have hj := (List.getElem?_eq_some_iff.1 hl).1
    rw [← h4, List.getElem?_take, if_pos (by omega), Array.getElem?_toList] at h5
    exact h5

theorem vmx_next (p : Int) {xs : List Int} {k : Nat} {x : Int} (N : Nat) (hx : xs[k]? = some x) : vmx p (xs.take (k + 1)) N = vmx p (xs.take k) N ++ [pows p x N] := by
  unfold vmx; rw [List.take_add_one, hx, List.map_append]; rfl

end Go.Proofs.YtkhiiiggmhncbaaGreat

/- The examples of the document for layer 5 hold: awake returns true. Nothing that lay is changed. No conditions. -/
namespace Go.Proofs.YtkhiiiggmhncbaaGreat
set_option maxRecDepth 100000
open Go.RowKit PolyMath FieldMath

theorem Pt.lit (w : World) (t : TypeId) (ps : List (Int × Int)) : Pt (w.alloc (.cells (pcells ps).toArray t)) (some ⟨w.heap.size, 0, none⟩) ps.length ps := by
  refine ⟨Nat.le_refl _, (fun h => by cases h), fun ad e _ => ?_⟩
  injection e with e
  subst e
  refine ⟨w.heap.size, 0, rfl, by simp, fun j q hq => ?_⟩
  have h := pcells_at ps j q hq
  have key : ∀ i v, (pcells ps)[i]? = some v → (w.alloc (.cells (pcells ps).toArray t)).cell? ⟨w.heap.size, 0 + i, none⟩ = some v := fun i v hv => by
    rw [cell_of_row _ w.heap.size (0 + i) (pcells ps).toArray t (0, 0) (World.alloc_heap_new w _), Nat.zero_add]
    simpa using hv
  exact ⟨key _ _ h.1, key _ _ h.2⟩
theorem Sll.lit2 (w : World) {A1 A2 : Option Addr} {c1 c2 : Nat} {r1 r2 : List Int} (h1 : Sl w A1 c1 r1) (h2 : Sl w A2 c2 r2) :
    Sll (w.alloc (.cells #[.slice A1 r1.length c1, .slice A2 r2.length c2] 23)) (some ⟨w.heap.size, 0, none⟩) 2 [r1, r2] := by
  refine ⟨Nat.le_refl _, (fun h => by cases h), fun ad e _ => ?_⟩
  injection e with e
  subst e
  refine ⟨w.heap.size, 0, rfl, by simp, fun j r hr => ?_⟩
  rw [cell_of_row _ w.heap.size (0 + j) _ 23 (0, 0) (World.alloc_heap_new w _), Nat.zero_add]
  match j, hr with
  | 0, hr => simp at hr; subst hr; exact ⟨A1, c1, rfl, h1.push _⟩
  | 1, hr => simp at hr; subst hr; exact ⟨A2, c2, rfl, h2.push _⟩
  | n + 2, hr => simp at hr

theorem ex_pol (A : Option Addr) (c : Nat) (w : World) (h : Pt w A c [(1, 2), (2, 3)]) : Calls Tryz.prog 40 #[.int .u64 31, .slice A 2 c] w fun e w' => ∃ A1 c1, e = .returned (.tuple #[.slice A1 2 c1, .int .i64 0]) ∧ Sl w' A1 c1 [1, 1] ∧ Below w.heap.size w w' := by
  refine (pol_any 31 ok31 A c [(1, 2), (2, 3)] (el_dec (by decide)) (el_dec (by decide)) (by decide) w h).mono ?_
  rintro e w' (⟨_, A1, c1, he, hs, hb⟩ | ⟨hn, _⟩)
  · rw [show thru 31 [(1, 2), (2, 3)] = [1, 1] from by decide +kernel] at he hs
    exact ⟨A1, c1, he, hs, hb⟩
  · exact absurd (show (px [(1, 2), (2, 3)]).Nodup by decide) hn
theorem ex_dup (A : Option Addr) (c : Nat) (w : World) (h : Pt w A c [(1, 2), (1, 3)]) : Calls Tryz.prog 40 #[.int .u64 31, .slice A 2 c] w fun e w' => e = .returned (.tuple #[.slice none 0 0, .int .i64 1]) ∧ Below w.heap.size w w' := by
  refine (pol_any 31 ok31 A c [(1, 2), (1, 3)] (el_dec (by decide)) (el_dec (by decide)) (by decide) w h).mono ?_
  rintro e w' (⟨hn, _⟩ | ⟨_, he, hb⟩)
  · exact absurd hn (show ¬ (px [(1, 2), (1, 3)]).Nodup by decide)
  · exact ⟨he, hb⟩
end Go.Proofs.YtkhiiiggmhncbaaGreat

/- Arguments of layer 5's laws: a word, a slice of words, a slice of points, a point, the struct Ask; they read behind the call as before where only new memory was made. No conditions. -/
namespace Go.Proofs.YtkhiiiggmhncbaaGreat
set_option maxRecDepth 100000
open Go.ChangeShapes Go.WideShapes Go.ChangeAt Go.RowKit Go.Joins Go.Deep Go.WideElems PolyMath

theorem cells_pt : Tryz.prog.cellsOf 91 = 2 := by kernel_rfl
/-- A word. -/
def Wd (x : Int) : Prop := 0 ≤ x ∧ x ≤ 18446744073709551615

section
variable {H : Type} {enc : TypeId × Value → H}
theorem arg_word {W : World} {base : Nat} {v : Value} {d : DataW H} {p : List MemPlace} (hval : Value.okWide Tryz.prog W .any base 22 v) (h : DataW.Trod enc Tryz.prog W 0 (fun _ => true) true 22 v d p) : ∃ x, v = .int .u64 x ∧ Wd x := by
  obtain ⟨n, rfl, rfl, rfl, wf⟩ := open_int Tryz.underlying22 hval h
  exact ⟨n, rfl, bounds_w wf⟩
theorem arg_sl {W : World} {base : Nat} {v : Value} {d : DataW H} {p : List MemPlace} (hval : Value.okWide Tryz.prog W .any base 23 v) (h : DataW.Trod enc Tryz.prog W 0 (fun _ => true) true 23 v d p) (hlt : ∀ x ∈ p, x.block < W.heap.size) :
    ∃ A xs c, v = .slice A xs.length c ∧ Sl W A c xs ∧ Words xs := by
  obtain ⟨a0, len, cap, rfl⟩ := okWide_slice Tryz.underlying23 hval
  obtain ⟨fuel, hf⟩ := h
  simp only [Value.cells] at hf
  exact open_sl hf hlt
theorem arg_pt {W : World} {base : Nat} {v : Value} {d : DataW H} {p : List MemPlace} (hval : Value.okWide Tryz.prog W .any base 63 v) (h : DataW.Trod enc Tryz.prog W 0 (fun _ => true) true 63 v d p) (hlt : ∀ x ∈ p, x.block < W.heap.size) :
    ∃ A ps c, v = .slice A ps.length c ∧ Pt W A c ps ∧ PWords ps := by
  obtain ⟨a0, len, cap, rfl⟩ := okWide_slice Tryz.underlying63 hval
  obtain ⟨fuel, hf⟩ := h
  simp only [Value.cells] at hf
  exact open_pt Tryz.underlying63 Tryz.underlying91 cells_pt rfl rfl cells_u64 cells_u64 Tryz.underlying22 Tryz.underlying22 hf hlt
theorem arg_point {W : World} {base : Nat} {v : Value} {d : DataW H} {p : List MemPlace} (hval : Value.okWide Tryz.prog W .any base 91 v) (h : DataW.Trod enc Tryz.prog W 0 (fun _ => true) true 91 v d p) :
    ∃ x y, v = .agg #[.int .u64 x, .int .u64 y] ∧ Wd x ∧ Wd y := by
  obtain ⟨v0, v1, y0, y1, n, rfl, _, _, h0, h1⟩ := open_agg2 Tryz.underlying91 (by kernel_rfl) cells_pt hval h
  obtain ⟨a0, e0, rfl, w0⟩ := DataW.trod_int Tryz.underlying22 h0
  obtain ⟨a1, e1, rfl, w1⟩ := DataW.trod_int Tryz.underlying22 h1
  simp at e0 e1
  subst e0 e1
  exact ⟨a0, a1, rfl, bounds_w w0, bounds_w w1⟩
theorem stay_word {W W' : World} {v : Value} {d : DataW H} {p : List MemPlace} (h : DataW.Trod enc Tryz.prog W 0 (fun _ => true) true 22 v d p) (hb : Below W.heap.size W W') (hlt : ∀ x ∈ p, x.block < W.heap.size) (sp : Nat → Bool) (hsp : ∀ x ∈ p, sp x.block = true) :
    DataW.Trod enc Tryz.prog W' 0 sp true 22 v d p :=
  WideElems.Trod_stays laidOut (by kernel_rfl) (of_decide_eq_true (by kernel_rfl)) h (fun x hx => hb.same (hlt x hx)) hsp
theorem stay_pt {W W' : World} {v : Value} {d : DataW H} {p : List MemPlace} (h : DataW.Trod enc Tryz.prog W 0 (fun _ => true) true 63 v d p) (hb : Below W.heap.size W W') (hlt : ∀ x ∈ p, x.block < W.heap.size) (sp : Nat → Bool) (hsp : ∀ x ∈ p, sp x.block = true) :
    DataW.Trod enc Tryz.prog W' 0 sp true 63 v d p :=
  WideElems.Trod_stays laidOut (by kernel_rfl) (of_decide_eq_true (by kernel_rfl)) h (fun x hx => hb.same (hlt x hx)) hsp
theorem stay_point {W W' : World} {v : Value} {d : DataW H} {p : List MemPlace} (h : DataW.Trod enc Tryz.prog W 0 (fun _ => true) true 91 v d p) (hb : Below W.heap.size W W') (hlt : ∀ x ∈ p, x.block < W.heap.size) (sp : Nat → Bool) (hsp : ∀ x ∈ p, sp x.block = true) :
    DataW.Trod enc Tryz.prog W' 0 sp true 91 v d p :=
  WideElems.Trod_stays laidOut (by kernel_rfl) (of_decide_eq_true (by kernel_rfl)) h (fun x hx => hb.same (hlt x hx)) hsp
end

theorem el_of {p : Int} {xs : List Int} (hw : Words xs) (h : ∀ x ∈ xs, x < p) : El p xs := fun x hx => ⟨(hw x hx).1, h x hx⟩
theorem px_el {p : Int} {ps : List (Int × Int)} (hw : PWords ps) (h : ∀ q ∈ ps, q.1 < p ∧ q.2 < p) : El p (px ps) := fun x hx => by
  obtain ⟨q, hq, rfl⟩ := List.mem_map.1 hx
  exact ⟨(hw q hq).1.1, (h q hq).1⟩
theorem py_el {p : Int} {ps : List (Int × Int)} (hw : PWords ps) (h : ∀ q ∈ ps, q.1 < p ∧ q.2 < p) : El p (py ps) := fun x hx => by
  obtain ⟨q, hq, rfl⟩ := List.mem_map.1 hx
  exact ⟨(hw q hq).2.1, (h q hq).2⟩
/-- A number is a supported prime or not. -/
theorem sup_cases (p : Int) : (qOf p != 0) = false ∨ ((qOf p != 0) = true ∧ FieldMath.OkP p) := by
  by_cases h : FieldMath.OkP p
  · cases hb : (qOf p != 0) with
    | false => exact .inl rfl
    | true => exact .inr ⟨rfl, h⟩
  · exact .inl (by rw [qOf_other p h]; rfl)
end Go.Proofs.YtkhiiiggmhncbaaGreat

/- Slices of points that a call makes by append: rows of its own under calls that make new memory, two of them side by side; a step that appends to a row of its own. No conditions. -/
namespace Go.Proofs.YtkhiiiggmhncbaaGreat
set_option maxRecDepth 100000
open Go.RowKit PolyMath FieldMath

theorem info_pt : (Tryz.prog.info? 91).map (fun i => (i.zero, i.size, i.bytes)) = some (some (.agg #[.int .u64 0, .int .u64 0]), 2, 16) := by kernel_rfl
theorem own_belowN {w w' : World} {base t size n : Nat} {v : Value} {xs : List Value} (h : w.ownsRow base t size v n xs) (hb : Below w.heap.size w w') : w'.ownsRow base t size v n xs := by
  refine ⟨h.1, h.2.imp id ?_⟩
  rintro ⟨g, cap, cur, hv, h1, hh, r⟩
  exact ⟨g, cap, cur, hv, h1, (hb.block g (Array.getElem?_eq_some_iff.1 hh).1).trans hh, r⟩

/-- Two rows of points that lie apart. -/
structure Two (s : Nat) (w : World) (v u : Value) (k j : Nat) (P Q : List (Int × Int)) : Prop where
  a : w.ownsRow s 91 2 v k (pcells P)
  b : w.ownsRow s 91 2 u j (pcells Q)
  ne : ∀ e, v.ownBlock = some e → u.ownBlock = some e → False
theorem Two.swap {s : Nat} {w : World} {v u : Value} {k j : Nat} {P Q : List (Int × Int)} (h : Two s w v u k j P Q) : Two s w u v j k Q P := ⟨h.b, h.a, fun e h1 h2 => h.ne e h2 h1⟩
theorem Two.next {s : Nat} {w w' : World} {v u : Value} {k j : Nat} {P Q : List (Int × Int)} (h : Two s w v u k j P Q) (hb : Below w.heap.size w w') : Two s w' v u k j P Q := ⟨own_belowN h.a hb, own_belowN h.b hb, h.ne⟩
/-- One point more in the first. -/
theorem Two.add {s : Nat} {w w' : World} {v u : Value} {k j g cap H : Nat} {P Q : List (Int × Int)} {x y : Int} (h : Two s w v u k j P Q) (hH : w.heap.size = H)
    (hown : w'.ownsRow s 91 2 (.slice (some ⟨g, 0, none⟩) (k + 1) cap) (k + 1) (pcells P ++ [.int .u64 x, .int .u64 y])) (hg : w.grownBy w' v.ownBlock) (hat : v.ownBlock = some g ∨ g = H) :
    Two s w' (.slice (some ⟨g, 0, none⟩) (k + 1) cap) u (k + 1) j (P ++ [(x, y)]) Q where
  a := by rw [pcells_snoc]; exact hown
  b := World.ownsRow.kept h.b hg (by
    cases hu : u.ownBlock with
    | none => exact .inl rfl
    | some e => exact .inr fun e2 => h.ne e e2.symm hu)
  ne := fun e h1 h2 => by
    have e1 : g = e := by simpa [Value.ownBlock] using h1
    subst e1
    rcases hat with h3 | h3
    · exact h.ne g h3 h2
    · have := (World.ownsRow.lt h.b g h2).2
      omega

/-- The first k points of two lists of coordinates. -/
def zipL (xs ys : List Int) (k : Nat) : List (Int × Int) := (List.range k).map fun i => (co xs i, co ys i)
theorem zipL_len (xs ys : List Int) (k : Nat) : (zipL xs ys k).length = k := by unfold zipL; simp
theorem zipL_next (xs ys : List Int) (k : Nat) : zipL xs ys (k + 1) = zipL xs ys k ++ [(co xs k, co ys k)] := by unfold zipL; rw [List.range_succ, List.map_append]; rfl
theorem px_zipL (xs ys : List Int) {n : Nat} (h : xs.length = n) : px (zipL xs ys n) = xs := by
  unfold px zipL; rw [List.map_map, ← h]; exact range_co xs
theorem py_zipL (xs ys : List Int) {n : Nat} (h : ys.length = n) : py (zipL xs ys n) = ys := by
  unfold py zipL; rw [List.map_map, ← h]; exact range_co ys

/-- What is appended: the cells of points that are read. -/
theorem Pt.news {w : World} {ad : Addr} {c : Nat} {ps : List (Int × Int)} (h : Pt w (some ad) c ps) : ∀ j u, (pcells ps)[j]? = some u → w.cell? (ad.add j) = some u := by
  intro j u hj
  have hjl := (List.getElem?_eq_some_iff.1 hj).1
  rw [pcells_len] at hjl
  have hi : j / 2 < ps.length := by omega
  obtain ⟨b, off, x, y, hA, _, hq, hx, hy⟩ := h.at_ hi
  injection hA with hA
  subst hA
  have hp := pcells_at ps (j / 2) (x, y) hq
  rw [Addr.add_lit]
  rcases (show j = j / 2 * 2 ∨ j = j / 2 * 2 + 1 by omega) with e | e
  · rw [← e] at hx hp
    rw [hj] at hp
    rw [hx]; exact hp.1.symm
  · rw [Nat.add_assoc, ← e] at hy
    rw [← e, hj] at hp
    rw [hy]; exact hp.2.symm
theorem Pt.empty {w : World} {c : Nat} {ps : List (Int × Int)} (h : Pt w none c ps) : ps = [] ∧ c = 0 := by
  have h1 := h.nil rfl
  have h2 := h.cap
  exact ⟨List.eq_nil_of_length_eq_zero (by omega), h1⟩
theorem pc_one : ∀ (ps : List (Int × Int)), ∀ u ∈ pcells ps, u.oneCell' = true
  | [], _, h => by cases h
  | q :: qs, u, h => by
    rw [pcells] at h
    rcases List.mem_cons.1 h with h | h
    · subst h; rfl
    · rcases List.mem_cons.1 h with h | h
      · subst h; rfl
      · exact pc_one qs u h

section
variable {P : Program} (w : World)
/-- A step of a region that draws its order: append to a row of one's own, of as many elements as one likes. -/
theorem step_append_own {ops : Array Oper} {o : Oper} {a : Act} {K : Act → World → Prop} {Q : Exit → Act → World → Prop} {E : Prop} (hgd : o.guard = none) (s x : Operand) (t : TypeId)
    (ho : o.op = .call { callee := .builtin .append, args := #[s, x], argTypes := #[t, t] })
    (base : Nat) (e : TypeId) (i : TypeInfo) (z : Value) (size bytes : Nat) (ht : P.underlying t = some (.slice e)) (hi : P.info? e = some i) (hz : i.zero = some z)
    (hsize : i.size = size) (hby : i.bytes = bytes) (hzs : z.cells.size = size) (hsz : 0 < size)
    (v : Value) (n : Nat) (xs : List Value) (hs : a.eval s = v) (hown : w.ownsRow base e size v n xs)
    (ad : Addr) (m c : Nat) (news : List Value) (hx : a.eval x = .slice (some ad) m c) (hl : news.length = m * size) (hnews : ∀ j u, news[j]? = some u → w.cell? (ad.add j) = some u) (h1 : ∀ u ∈ news, u.oneCell' = true)
    (h63 : n + m ≤ maxLen) (hbytes : (n + m) * bytes ≤ 140737488355328) (hbase : base ≤ w.heap.size)
    (h : ∀ v' w', w'.ownsRow base e size v' (n + m) (xs ++ news) → w.grownBy w' v.ownBlock → K (a.put o.dst v') w') :
    if Region.wanted o (yielded ops a.tmps) = true then Oper.wp P o a w K Q else E := by
  have hw : Region.wanted o (yielded ops a.tmps) = true := by simp [Region.wanted, hgd]
  rw [if_pos hw]
  exact wp_append_own w s x t ho base e i z size bytes ht hi hz hsize hby hzs hsz v n xs hs hown ad m c news hx hl hnews h1 h63 hbytes hbase fun v' w' h2 h3 _ => h v' w' h2 h3
/-- .. append of nothing. -/
theorem step_append_nothing {ops : Array Oper} {o : Oper} {a : Act} {K : Act → World → Prop} {Q : Exit → Act → World → Prop} {E : Prop} (hgd : o.guard = none) (s x : Operand) (t : TypeId)
    (ho : o.op = .call { callee := .builtin .append, args := #[s, x], argTypes := #[t, t] }) (e : TypeId) (i : TypeInfo) (ht : P.underlying t = some (.slice e)) (hi : P.info? e = some i)
    (b : Option Addr) (m c : Nat) (hs : a.eval s = .slice b 0 0) (hx : a.eval x = .slice none m c) (hm : m = 0) (h : K (a.put o.dst (.slice b 0 0)) w) :
    if Region.wanted o (yielded ops a.tmps) = true then Oper.wp P o a w K Q else E := by
  subst hm
  have hw : Region.wanted o (yielded ops a.tmps) = true := by simp [Region.wanted, hgd]
  rw [if_pos hw]
  have hr := run_append_nothing (P := P) w t t o.type e i ht hi b 0 0 (Nat.le_refl _) (.slice none 0 c) (Src.ofNil w ht c)
  unfold Oper.wp execOp
  simp only [ho, resolve, invoke, builtin, Sem.run_bind, Sem.run_pure, Result.andThen_ok, List.map_toArray, List.map_cons, List.map_nil, hs, hx, hr]
  exact h
end
end Go.Proofs.YtkhiiiggmhncbaaGreat
