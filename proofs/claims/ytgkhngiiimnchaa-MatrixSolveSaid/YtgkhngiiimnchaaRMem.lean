/- Slices of slices of words: a matrix that came in reads as a list of rows; a matrix of the call's own, row by row, that may be written: a row changed, a header laid anew, two rows exchanged. Calls that make new memory leave it as it is. No conditions. -/
import Derived.Test.YtgkhngiiimnchaaPMul
import Derived.Test.YtgkhngiiimnchaaGElim
import Derived.Deep.RegionHeld3
import Derived.Deep.AppendLies
import Derived.Deep.Upon
namespace Go.Proofs.Ytgkhngiiimnchaa
open Go.RowKit PolyMath FieldMath MatMath

theorem info_sl : (Try.prog.info? 24).map (fun i => (i.zero, i.size, i.bytes)) = some (some (.slice none 0 0), 1, 24) := by kernel_rfl
theorem info_int : (Try.prog.info? 3).map (fun i => (i.zero, i.size, i.bytes)) = some (some (.int .i64 0), 1, 8) := by kernel_rfl
theorem grown_of {w w' : World} (h : Below w.heap.size w w') (row : Option Nat) : w.grownBy w' row := ⟨h.os, h.tape, h.output, h.size, fun b hb _ => h.block b hb⟩

/-- The slice at A with capacity c holds slices that hold the lists rows. -/
structure Sll (w : World) (A : Option Addr) (c : Nat) (rows : List (List Int)) : Prop where
  cap : rows.length ≤ c
  nil : A = none → c = 0
  rd : ∀ ad, A = some ad → rows ≠ [] → ∃ b off, ad = ⟨b, off, none⟩ ∧ b < w.heap.size ∧ ∀ j r, rows[j]? = some r → ∃ A' c', w.cell? ⟨b, off + j, none⟩ = some (.slice A' r.length c') ∧ Sl w A' c' r
section
variable {w w' : World} {A : Option Addr} {c : Nat} {rows : List (List Int)}
theorem Sll.nothing (w : World) : Sll w none 0 [] := ⟨Nat.le_refl _, (fun _ => rfl), (fun _ h => absurd h (by simp))⟩
theorem Sll.at_ {k : Nat} (h : Sll w A c rows) (hk : k < rows.length) : ∃ b off r A' c', A = some ⟨b, off, none⟩ ∧ b < w.heap.size ∧ rows[k]? = some r ∧ w.cell? ⟨b, off + k, none⟩ = some (.slice A' r.length c') ∧ Sl w A' c' r := by
  cases hA : A with
  | none => have := h.nil hA; have := h.cap; omega
  | some ad =>
    obtain ⟨b, off, rfl, hb, hc⟩ := h.rd ad hA (fun e => by rw [e] at hk; simp at hk)
    have hx := List.getElem?_eq_getElem hk
    obtain ⟨A', c', h1, h2⟩ := hc k _ hx
    exact ⟨b, off, _, A', c', rfl, hb, hx, h1, h2⟩
theorem Sll.next (h : Sll w A c rows) (hb : Below w.heap.size w w') : Sll w' A c rows :=
  ⟨h.cap, h.nil, fun ad hA hn => by
    obtain ⟨b, off, e, hlt, hc⟩ := h.rd ad hA hn
    refine ⟨b, off, e, Nat.lt_of_lt_of_le hlt hb.size, fun j r hx => ?_⟩
    obtain ⟨A', c', h1, h2⟩ := hc j r hx
    exact ⟨A', c', (hb.cell (p := ⟨b, off + j, none⟩) hlt).trans h1, h2.next hb⟩⟩
theorem Sll.push (h : Sll w A c rows) (o : Obj) : Sll (w.alloc o) A c rows := h.next ((Below.refl _ w).alloc (Nat.le_refl _) o)
end
/-- The block of the slice at A is one of words. -/
def Ty (w : World) (A : Option Addr) : Prop := ∀ ad, A = some ad → ∃ cur fz, w.heap[ad.block]? = some (.cells cur 22 fz)
theorem heap_lt {w : World} {b : Nat} {o : Obj} (h : w.heap[b]? = some o) : b < w.heap.size := (Array.getElem?_eq_some_iff.1 h).1
theorem Ty.next {w w' : World} {A : Option Addr} (h : Ty w A) (hb : Below w.heap.size w w') : Ty w' A := fun ad e => by
  obtain ⟨cur, fz, h1⟩ := h ad e
  exact ⟨cur, fz, (hb.block _ (heap_lt h1)).trans h1⟩
theorem Ty.grown {w w' : World} {A : Option Addr} {row : Option Nat} (h : Ty w A) (hg : w.grownBy w' row) (hr : ∀ ad, A = some ad → some ad.block ≠ row) : Ty w' A := fun ad e => by
  obtain ⟨cur, fz, h1⟩ := h ad e
  exact ⟨cur, fz, (hg.block _ (heap_lt h1) (hr ad e)).trans h1⟩
theorem own_tag {w : World} {base t n : Nat} {v : Value} {xs : List Value} (h : w.ownsRow base t 1 v n xs) : ∀ g, v.ownBlock = some g → ∃ cur fz, w.heap[g]? = some (.cells cur t fz) := by
  intro g hg
  rcases h.2 with ⟨rfl, _⟩ | ⟨g', cap, cur, rfl, _, hh, _⟩
  · cases hg
  · cases hg
    exact ⟨cur, (0, 0), hh⟩
theorem Ty.of_own {w : World} {base n m c : Nat} {A : Option Addr} {xs : List Value} (h : w.ownsRow base 22 1 (.slice A m c) n xs) : Ty w A := fun ad e => by
  subst e
  rcases h.2 with ⟨h0, _⟩ | ⟨g', cap, cur, h0, _, hh, _⟩
  · cases h0
  · cases h0
    exact ⟨cur, (0, 0), hh⟩
/-- Words lie in no block of slices. -/
theorem Ty.apart {w : World} {A : Option Addr} {base n : Nat} {v : Value} {xs : List Value} (h : Ty w A) (ho : w.ownsRow base 24 1 v n xs) : ∀ ad, A = some ad → some ad.block ≠ v.ownBlock := fun ad e e2 => by
  obtain ⟨cur, fz, h1⟩ := h ad e
  obtain ⟨cur', fz', h2⟩ := own_tag ho _ e2.symm
  rw [h1] at h2
  cases h2

theorem own_belowN {w w' : World} {base t size n : Nat} {v : Value} {xs : List Value} (h : w.ownsRow base t size v n xs) (hb : Below w.heap.size w w') : w'.ownsRow base t size v n xs := by
  refine ⟨h.1, h.2.imp id ?_⟩
  rintro ⟨g, cap, cur, hv, h1, hh, r⟩
  exact ⟨g, cap, cur, hv, h1, (hb.block g (Array.getElem?_eq_some_iff.1 hh).1).trans hh, r⟩

section
variable {P : Program} (w : World)
/-- A step of a region that draws its order: append to a row of one's own, of as many elements as one likes. -/
theorem step_append_own {ops : Array Oper} {o : Oper} {a : Act} {K : Act → World → Prop} {Q : Exit → Act → World → Prop} {E : Prop} (hgd : o.guard = none) (s x : Operand) (t : TypeId)
    (ho : o.op = .call { callee := .builtin .append, args := #[s, x], argTypes := #[t, t] })
    (base : Nat) (e : TypeId) (i : TypeInfo) (z : Value) (size bytes : Nat) (ht : P.underlying t = some (.slice e)) (hi : P.info? e = some i) (hz : i.zero = some z)
    (hsize : i.size = size) (hby : i.bytes = bytes) (hzs : z.cells.size = size) (hsz : 0 < size)
    (v : Value) (n : Nat) (xs : List Value) (hs : a.eval s = v) (hown : w.ownsRow base e size v n xs)
    (ad : Addr) (m c : Nat) (news : List Value) (hx : a.eval x = .slice (some ad) m c) (hl : news.length = m * size) (hnews : ∀ j u, news[j]? = some u → w.cell? (ad.add j) = some u) (h1 : ∀ u ∈ news, u.oneCell' = true)
    (h63 : n + m ≤ maxLen) (hbytes : (n + m) * bytes ≤ 140737488355328) (hbase : base ≤ w.heap.size)
    (h : ∀ v' w', w'.ownsRow base e size v' (n + m) (xs ++ news) → w.grownBy w' v.ownBlock → K (a.put o.dst v') w') :
    if Region.wanted o (yielded ops a.tmps) = true then Oper.wp P o a w K Q else E := by
  have hw : Region.wanted o (yielded ops a.tmps) = true := by simp [Region.wanted, hgd]
  rw [if_pos hw]
  exact wp_append_own w s x t ho base e i z size bytes ht hi hz hsize hby hzs hsz v n xs hs hown ad m c news hx hl hnews h1 h63 hbytes hbase fun v' w' h2 h3 _ => h v' w' h2 h3
/-- .. append of nothing. -/
theorem step_append_nothing {ops : Array Oper} {o : Oper} {a : Act} {K : Act → World → Prop} {Q : Exit → Act → World → Prop} {E : Prop} (hgd : o.guard = none) (s x : Operand) (t : TypeId)
    (ho : o.op = .call { callee := .builtin .append, args := #[s, x], argTypes := #[t, t] }) (e : TypeId) (i : TypeInfo) (ht : P.underlying t = some (.slice e)) (hi : P.info? e = some i)
    (b : Option Addr) (m c : Nat) (hs : a.eval s = .slice b 0 0) (hx : a.eval x = .slice none m c) (hm : m = 0) (h : K (a.put o.dst (.slice b 0 0)) w) :
    if Region.wanted o (yielded ops a.tmps) = true then Oper.wp P o a w K Q else E := by
  subst hm
  have hw : Region.wanted o (yielded ops a.tmps) = true := by simp [Region.wanted, hgd]
  rw [if_pos hw]
  have hr := run_append_nothing (P := P) w t t o.type e i ht hi b 0 0 (Nat.le_refl _) (.slice none 0 c) (Src.ofNil w ht c)
  unfold Oper.wp execOp
  simp only [ho, resolve, invoke, builtin, Sem.run_bind, Sem.run_pure, Result.andThen_ok, List.map_toArray, List.map_cons, List.map_nil, hs, hx, hr]
  exact h
end

theorem Sll.rowAt {w : World} {A : Option Addr} {c : Nat} {rows : List (List Int)} (h : Sll w A c rows) {i L : Nat} (hi : i < rows.length) (hl : (ro rows i).length = L) :
    ∃ b off A' c', A = some ⟨b, off, none⟩ ∧ b < w.heap.size ∧ w.cell? ⟨b, off + i, none⟩ = some (.slice A' L c') ∧ Sl w A' c' (ro rows i) := by
  obtain ⟨b, off, r, A', c', e, h1, h2, h3, h4⟩ := h.at_ hi
  rw [ro_at h2] at hl ⊢
  subst hl
  exact ⟨b, off, A', c', e, h1, h3, h4⟩
theorem Sll.drew {w : World} {A : Option Addr} {c : Nat} {rows : List (List Int)} (h : Sll w A c rows) : Sll w.drew A c rows := h.next (Below.refl _ w).drew
theorem Sl.drew {w : World} {A : Option Addr} {c : Nat} {rows : List Int} (h : Sl w A c rows) : Sl w.drew A c rows := h.next (Below.refl _ w).drew
theorem Sl.drewN {w : World} {A : Option Addr} {c : Nat} {xs : List Int} (h : Sl w A c xs) (n : Nat) : Sl (w.drewN n) A c xs := h.next (below_drewN (Below.refl _ w) n)
theorem Sll.drewN {w : World} {A : Option Addr} {c : Nat} {xs : List (List Int)} (h : Sll w A c xs) (n : Nat) : Sll (w.drewN n) A c xs := h.next (below_drewN (Below.refl _ w) n)
theorem quiet_more {P : Program} {f : FuncId} {args : Array Value} {w : World} {a n : Nat} {v : Value}
    (h : Calls P f args (w.drewN (a + n)) fun e w' => e = .returned v ∧ ∃ m, w' = (w.drewN (a + n)).drewN m) : Calls P f args (w.drewN (a + n)) fun e w'' => e = .returned v ∧ ∃ m, w'' = w.drewN (a + m) :=
  h.mono fun _ _ ⟨he, m, hm⟩ => ⟨he, n + m, hm.trans ((World.drewN_drewN _ _ _).trans (by rw [Nat.add_assoc]))⟩

/-- v holds the headers vs of N rows; the first k of them hold the lists rows; all of it is the call's own, and no two rows share a block. -/
structure MP (base : Nat) (w : World) (v : Value) (N k : Nat) (vs : List Value) (rows : List (List Int)) : Prop where
  head : w.ownsRow base 24 1 v N vs
  len : rows.length = N
  le : k ≤ N
  row : ∀ i, i < k → ∃ u, vs[i]? = some u ∧ w.ownsRow base 22 1 u (ro rows i).length ((ro rows i).map (Value.int .u64))
  apart : ∀ (i j : Nat) (u x : Value) (e : Nat), i < k → j < k → vs[i]? = some u → vs[j]? = some x → u.ownBlock = some e → x.ownBlock = some e → i = j

section
variable {base N k : Nat} {w w' : World} {v : Value} {vs : List Value} {rows : List (List Int)}
theorem MP.vlen (h : MP base w v N k vs rows) : vs.length = N := by have := h.head.1; omega
theorem MP.next (h : MP base w v N k vs rows) (hb : Below w.heap.size w w') : MP base w' v N k vs rows :=
  ⟨own_belowN h.head hb, h.len, h.le, fun i hi => by obtain ⟨u, h1, h2⟩ := h.row i hi; exact ⟨u, h1, own_belowN h2 hb⟩, h.apart⟩
theorem MP.own (h : MP base w v N k vs rows) {i : Nat} {u : Value} (hi : i < k) (hu : vs[i]? = some u) : w.ownsRow base 22 1 u (ro rows i).length ((ro rows i).map (Value.int .u64)) := by
  obtain ⟨u', h1, h2⟩ := h.row i hi
  rw [hu] at h1
  injection h1 with h1
  subst h1
  exact h2
/-- A row's block is not the block of the headers. -/
theorem MP.far (h : MP base w v N k vs rows) {i b : Nat} {u : Value} (hi : i < k) (hu : vs[i]? = some u) (hb : u.ownBlock = some b) : v.ownBlock ≠ some b := fun e => by
  obtain ⟨c1, f1, t1⟩ := own_tag (h.own hi hu) b hb
  obtain ⟨c2, f2, t2⟩ := own_tag h.head b e
  rw [t1] at t2
  cases t2
/-- What is read of a row's header. -/
theorem MP.hd {g c : Nat} (h : MP base w (.slice (some ⟨g, 0, none⟩) N c) N k vs rows) {i L : Nat} (hi : i < k) (hl : (ro rows i).length = L) (hL : 0 < L) :
    ∃ b cb, vs[i]? = some (.slice (some ⟨b, 0, none⟩) L cb) ∧ w.cell? ⟨g, i, none⟩ = some (.slice (some ⟨b, 0, none⟩) L cb) ∧ OwnAt w base b L cb (ro rows i) ∧ b ≠ g ∧ L ≤ cb := by
  obtain ⟨u, h1, h2⟩ := h.row i hi
  rw [hl] at h2
  obtain ⟨b, cb, rfl, hb, hlt⟩ := World.ownsRow.form h2 (by omega)
  refine ⟨b, cb, h1, (World.ownsRow.cellAt h.head i (by have := h.le; omega)).trans h1, h2, fun e => ?_, ?_⟩
  · exact h.far hi h1 rfl (by rw [e]; rfl)
  · have := Sl.of_own h2
    have h3 := this.cap
    omega
theorem MP.cell {g c : Nat} (h : MP base w (.slice (some ⟨g, 0, none⟩) N c) N k vs rows) {i : Nat} {u : Value} (hi : i < N) (hu : vs[i]? = some u) : w.cell? ⟨g, i, none⟩ = some u :=
  (World.ownsRow.cellAt h.head i (by omega)).trans hu
/-- A row is written. -/
theorem MP.change (h : MP base w v N k vs rows) {i L b cb : Nat} {r : List Int} (hi : i < k) (hv : vs[i]? = some (.slice (some ⟨b, 0, none⟩) L cb)) (ho : OwnAt w' base b L cb r) (hg : w.grownBy w' (some b)) : MP base w' v N k vs (rows.set i r) := by
  have hle := h.le
  have hN : i < rows.length := by rw [h.len]; omega
  refine ⟨World.ownsRow.kept h.head hg ?_, by rw [List.length_set]; exact h.len, h.le, fun j hj => ?_, h.apart⟩
  · exact .inr (h.far hi hv rfl)
  · rw [ro_set hN]
    by_cases e : j = i
    · subst e
      rw [if_pos rfl]
      exact ⟨_, hv, by rw [ho.len]; exact ho⟩
    · rw [if_neg e]
      obtain ⟨u, u1, u2⟩ := h.row j hj
      refine ⟨u, u1, World.ownsRow.kept u2 hg ?_⟩
      cases hu : u.ownBlock with
      | none => exact .inl rfl
      | some q => exact .inr fun e2 => e (h.apart j i u _ q hj hi u1 hv hu e2.symm)
/-- A header is laid anew: its row is the old one grown, or new. -/
theorem MP.lay {g c : Nat} (h : MP base w (.slice (some ⟨g, 0, none⟩) N c) N k vs rows) {i k' : Nat} {u : Value} {r : List Int} {row : Option Nat} (hik : i ≤ k) (hiN : i < N) (hk' : k' = max k (i + 1))
    (hg : w.grownBy w' row) (hrow : ∀ b, row = some b → i < k ∧ ∃ x, vs[i]? = some x ∧ x.ownBlock = some b) (ho : w'.ownsRow base 22 1 u r.length (r.map (Value.int .u64)))
    (hnew : ∀ b, u.ownBlock = some b → w.heap.size ≤ b ∨ row = some b) : MP base (w'.setCell ⟨g, i, none⟩ u) (.slice (some ⟨g, 0, none⟩) N c) N k' (vs.set i u) (rows.set i r) := by
  have hle := h.le
  have hvl := h.vlen
  have hN : i < rows.length := by rw [h.len]; omega
  have hfar : row ≠ some g := fun e => by
    obtain ⟨h1, x, h2, h3⟩ := hrow g e
    exact h.far h1 h2 h3 rfl
  have hhead : w'.ownsRow base 24 1 (.slice (some ⟨g, 0, none⟩) N c) N vs := World.ownsRow.kept h.head hg (.inr fun e => hfar e.symm)
  have hst := World.ownsRow.stored hhead i u
  have hglt := World.ownsRow.lt h.head g rfl
  -- words are kept by the store of the header
  have keep : ∀ {x : Value} {n : Nat} {xs : List Int}, w'.ownsRow base 22 1 x n (xs.map (Value.int .u64)) → (w'.setCell ⟨g, i, none⟩ u).ownsRow base 22 1 x n (xs.map (Value.int .u64)) := fun {x n xs} hx =>
    World.ownsRow.kept hx hst.2 (by
      cases hq : x.ownBlock with
      | none => exact .inl rfl
      | some b =>
        refine .inr fun e => ?_
        obtain ⟨c1, f1, t1⟩ := own_tag hx b hq
        obtain ⟨c2, f2, t2⟩ := own_tag hhead g rfl
        have : b = g := by simpa using e
        subst this
        rw [t1] at t2
        cases t2)
  -- the other rows
  have other : ∀ j, j < k → j ≠ i → ∃ x, vs[j]? = some x ∧ w'.ownsRow base 22 1 x (ro rows j).length ((ro rows j).map (Value.int .u64)) ∧ ∀ b, x.ownBlock = some b → b < w.heap.size ∧ row ≠ some b := fun j hj hne => by
    obtain ⟨x, h1, h2⟩ := h.row j hj
    have hno : ∀ b, x.ownBlock = some b → row ≠ some b := fun b hb e => by
      obtain ⟨h3, y, h4, h5⟩ := hrow b e
      exact hne (h.apart j i x y b hj h3 h1 h4 hb h5)
    refine ⟨x, h1, World.ownsRow.kept h2 hg ?_, fun b hb => ⟨(World.ownsRow.lt h2 b hb).2, hno b hb⟩⟩
    cases hx : x.ownBlock with
    | none => exact .inl rfl
    | some b => exact .inr fun e => hno b hx e.symm
  refine ⟨hst.1, by rw [List.length_set]; exact h.len, by omega, fun j hj => ?_, fun j j' x x' e hj hj' hx hx' he he' => ?_⟩
  · rw [ro_set hN]
    by_cases e : j = i
    · subst e
      rw [if_pos rfl]
      exact ⟨u, List.getElem?_set_self (by omega), keep ho⟩
    · rw [if_neg e]
      obtain ⟨x, h1, h2, _⟩ := other j (by omega) e
      exact ⟨x, by rw [List.getElem?_set_ne (fun q => e q.symm)]; exact h1, keep h2⟩
  · have new : ∀ j x, j < k' → j ≠ i → (vs.set i u)[j]? = some x → x.ownBlock = some e → u.ownBlock ≠ some e := fun j x hj hne hx he hu => by
      rw [List.getElem?_set_ne (fun q => hne q.symm)] at hx
      obtain ⟨y, h1, _, h3⟩ := other j (by omega) hne
      rw [hx] at h1
      injection h1 with h1
      subst h1
      have h4 := h3 e he
      rcases hnew e hu with h5 | h5
      · omega
      · exact h4.2 h5
    by_cases e1 : j = i
    · by_cases e2 : j' = i
      · omega
      · subst e1
        rw [List.getElem?_set_self (by omega)] at hx
        injection hx with hx
        subst hx
        exact absurd he (new j' x' hj' e2 hx' he')
    · by_cases e2 : j' = i
      · subst e2
        rw [List.getElem?_set_self (by omega)] at hx'
        injection hx' with hx'
        subst hx'
        exact absurd he' (new j x hj e1 hx he)
      · rw [List.getElem?_set_ne (fun q => e1 q.symm)] at hx
        rw [List.getElem?_set_ne (fun q => e2 q.symm)] at hx'
        exact h.apart j j' x x' e (by omega) (by omega) hx hx' he he'
/-- Two rows are exchanged. -/
theorem MP.swap {g c : Nat} (h : MP base w (.slice (some ⟨g, 0, none⟩) N c) N N vs rows) {i j : Nat} {u x : Value} (hi : i < N) (hj : j < N) (hne : i ≠ j) (hu : vs[i]? = some u) (hx : vs[j]? = some x) :
    MP base ((w.setCell ⟨g, i, none⟩ x).setCell ⟨g, j, none⟩ u) (.slice (some ⟨g, 0, none⟩) N c) N N ((vs.set i x).set j u) (swR rows i j) := by
  have hvl := h.vlen
  have hl := h.len
  have s1 := World.ownsRow.stored h.head i x
  have s2 := World.ownsRow.stored s1.1 j u
  have hg := grown_trans s1.2 s2.2
  have keep : ∀ {q : Nat} {y : Value}, q < N → vs[q]? = some y → ((w.setCell ⟨g, i, none⟩ x).setCell ⟨g, j, none⟩ u).ownsRow base 22 1 y (ro rows q).length ((ro rows q).map (Value.int .u64)) := fun {q y} hq hy =>
    World.ownsRow.kept (h.own hq hy) hg (by
      cases hb : y.ownBlock with
      | none => exact .inl rfl
      | some b => exact .inr fun e => h.far hq hy hb (by simpa [Value.ownBlock] using e.symm))
  have from_ : ∀ (q : Nat) (y : Value), ((vs.set i x).set j u)[q]? = some y → ∃ p, vs[p]? = some y ∧ ((q = j ∧ p = i) ∨ (q ≠ j ∧ q = i ∧ p = j) ∨ (q ≠ j ∧ q ≠ i ∧ p = q)) := fun q y hy => by
    by_cases e1 : q = j
    · subst e1
      rw [List.getElem?_set_self (by rw [List.length_set]; omega)] at hy
      injection hy with hy
      subst hy
      exact ⟨i, hu, .inl ⟨rfl, rfl⟩⟩
    · rw [List.getElem?_set_ne (fun e => e1 e.symm)] at hy
      by_cases e2 : q = i
      · subst e2
        rw [List.getElem?_set_self (by omega)] at hy
        injection hy with hy
        subst hy
        exact ⟨j, hx, .inr (.inl ⟨e1, rfl, rfl⟩)⟩
      · rw [List.getElem?_set_ne (fun e => e2 e.symm)] at hy
        exact ⟨q, hy, .inr (.inr ⟨e1, e2, rfl⟩)⟩
  refine ⟨s2.1, by rw [swR_len]; exact hl, Nat.le_refl _, fun q hq => ?_, fun q q' y y' e hq hq' hy hy' he he' => ?_⟩
  · unfold swR
    rw [ro_set (by rw [List.length_set]; omega)]
    by_cases e1 : q = j
    · subst e1
      rw [if_pos rfl]
      exact ⟨u, List.getElem?_set_self (by rw [List.length_set]; omega), keep hi hu⟩
    · rw [if_neg e1, ro_set (by omega), List.getElem?_set_ne (fun e => e1 e.symm)]
      by_cases e2 : q = i
      · subst e2
        rw [if_pos rfl]
        exact ⟨x, List.getElem?_set_self (by omega), keep hj hx⟩
      · rw [if_neg e2, List.getElem?_set_ne (fun e => e2 e.symm)]
        obtain ⟨y, h1, _⟩ := h.row q hq
        exact ⟨y, h1, keep hq h1⟩
  · obtain ⟨p, h1, c1⟩ := from_ q y hy
    obtain ⟨p', h2, c2⟩ := from_ q' y' hy'
    have := h.apart p p' y y' e (by omega) (by omega) h1 h2 he he'
    omega
/-- It reads as a list of rows. -/
theorem MP.form (h : MP base w v N N vs rows) : ∃ A c, v = .slice A N c ∧ Sll w A c rows := by
  have hvl := h.vlen
  have hl := h.len
  rcases h.head.2 with ⟨rfl, h0⟩ | ⟨g, cap, cur, rfl, _, hh, hc, _, h3, h4⟩
  · have : rows = [] := List.eq_nil_of_length_eq_zero (by omega)
    subst this h0
    exact ⟨_, 0, rfl, Sll.nothing w⟩
  · refine ⟨some ⟨g, 0, .none⟩, cap, rfl, by omega, (fun h => by cases h), fun ad e _ => ?_⟩
    injection e with e
    subst e
    refine ⟨g, 0, rfl, heap_lt hh, fun j l hl' => ?_⟩
    have hj := (List.getElem?_eq_some_iff.1 hl').1
    obtain ⟨u, h5, h6⟩ := h.row j (by omega)
    rw [ro_at hl'] at h6
    obtain ⟨A, c, rfl, h7⟩ := own_form h6
    refine ⟨A, c, ?_, h7⟩
    rw [cell_of_row w g (0 + j) cur 24 (0, 0) hh, Nat.zero_add]
    rw [← h4, List.getElem?_take, if_pos (by omega), Array.getElem?_toList] at h5
    exact h5
/-- The slice that lies at its place. -/
theorem MP.sll {g c : Nat} (h : MP base w (.slice (some ⟨g, 0, none⟩) N c) N N vs rows) : Sll w (some ⟨g, 0, none⟩) c rows := by
  obtain ⟨A, c', e, h1⟩ := h.form
  injection e with e1 e2 e3
  subst e1 e3
  exact h1
theorem Sll.drop {A : Option Addr} {b off c : Nat} (h : Sll w A c rows) (hA : A = some ⟨b, off, none⟩) {q : Nat} (hq : q ≤ rows.length) : Sll w (some ⟨b, off + q, none⟩) (c - q) (rows.drop q) := by
  subst hA
  refine ⟨by rw [List.length_drop]; have := h.cap; omega, (fun e => by cases e), fun ad e hn => ?_⟩
  injection e with e
  subst e
  obtain ⟨b', off', e', hlt, hc⟩ := h.rd _ rfl (fun e => hn (by rw [e]; simp))
  injection e' with e1 e2
  subst e1 e2
  refine ⟨b, off + q, rfl, hlt, fun j r hr => ?_⟩
  rw [List.getElem?_drop] at hr
  obtain ⟨A', c', h1, h2⟩ := hc (q + j) r hr
  exact ⟨A', c', by rw [Nat.add_assoc]; exact h1, h2⟩
end
end Go.Proofs.Ytgkhngiiimnchaa
