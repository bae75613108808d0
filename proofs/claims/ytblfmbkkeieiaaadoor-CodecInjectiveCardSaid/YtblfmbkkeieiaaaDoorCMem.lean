/- A slice of words that reads as a list, and a slice of such slices that reads as a list of lists, nil let in. No conditions. -/
import Derived.Test.YtblfmbkkeieiaaaDoorProg
import Derived.Test.YtblfmbkkeieiaaaDoorCMath
import Derived.WalkKit
import Derived.Below
import Derived.Deep.QuietTactic
import Derived.BigQuiet
import Derived.Lib.Hide
import Derived.WalkSmall
import Derived.Maps.AppendAt
import Derived.RangeFuncRecord
namespace Go.Proofs.YtblfmbkkeieiaaaDoor
open Go.RowKit CodMath

/-- The slice at A holds the words xs, below block B. -/
def Rd (B : Nat) (w : World) (A : Option Addr) (xs : List Int) : Prop :=
  xs ≠ [] → ∃ b off, A = some ⟨b, off, none⟩ ∧ b < B ∧ ∀ j x, xs[j]? = some x → w.cell? ⟨b, off + j, none⟩ = some (.int .u64 x)

section
variable {w w' : World} {B B' : Nat} {A : Option Addr} {xs : List Int}
theorem Rd.nil : Rd B w A [] := fun h => absurd rfl h
theorem Rd.at_ {k : Nat} (h : Rd B w A xs) (hk : k < xs.length) : ∃ b off x, A = some ⟨b, off, none⟩ ∧ b < B ∧ xs[k]? = some x ∧ w.cell? ⟨b, off + k, none⟩ = some (.int .u64 x) := by
  obtain ⟨b, off, e, hb, hc⟩ := h (fun e => by rw [e] at hk; simp at hk)
  exact ⟨b, off, xs[k], e, hb, List.getElem?_eq_getElem hk, hc k _ (List.getElem?_eq_getElem hk)⟩
theorem Rd.keep (h : Rd B w A xs) (hk : ∀ p : Addr, p.block < B → w'.cell? p = w.cell? p) : Rd B w' A xs := fun hn => by
  obtain ⟨b, off, e, hb, hc⟩ := h hn
  exact ⟨b, off, e, hb, fun j x hx => (hk ⟨b, off + j, none⟩ hb).trans (hc j x hx)⟩
theorem Rd.more (h : Rd B w A xs) (hB : B ≤ B') : Rd B' w A xs := fun hn => by
  obtain ⟨b, off, e, hb, hc⟩ := h hn
  exact ⟨b, off, e, by omega, hc⟩
theorem Rd.below (h : Rd B w A xs) (hb : Below B w w') : Rd B w' A xs := h.keep fun _ hp => hb.cell hp
theorem Rd.next (h : Rd w.heap.size w A xs) (hb : Below w.heap.size w w') : Rd w'.heap.size w' A xs := (h.below hb).more hb.size
theorem Rd.drop {b off : Nat} (h : Rd B w (some ⟨b, off, none⟩) xs) (k : Nat) : Rd B w (some ⟨b, off + k, none⟩) (xs.drop k) := fun hn => by
  obtain ⟨b', off', e, hb, hc⟩ := h (fun e => hn (by rw [e]; simp))
  cases e
  refine ⟨b, off + k, rfl, hb, fun j x hx => ?_⟩
  rw [Nat.add_assoc]
  exact hc (k + j) x (by rwa [List.getElem?_drop] at hx)
theorem Rd.push (h : Rd w.heap.size w A xs) (o : Obj) : Rd (w.alloc o).heap.size (w.alloc o) A xs := h.next ((Below.refl _ w).alloc (Nat.le_refl _) o)
end

/-- The slice at A holds the words xs, in a block of words below block B. -/
def RdT (B : Nat) (w : World) (A : Option Addr) (xs : List Int) : Prop :=
  xs ≠ [] → ∃ b off cs fz, A = some ⟨b, off, none⟩ ∧ b < B ∧ w.heap[b]? = some (.cells cs 40 fz) ∧ ∀ j x, xs[j]? = some x → cs[off + j]? = some (.int .u64 x)
section
variable {w w' : World} {B B' : Nat} {A : Option Addr} {xs : List Int}
theorem RdT.nil : RdT B w A [] := fun h => absurd rfl h
theorem RdT.rd (h : RdT B w A xs) : Rd B w A xs := fun hn => by
  obtain ⟨b, off, cs, fz, e, hb, hh, hc⟩ := h hn
  exact ⟨b, off, e, hb, fun j x hx => by rw [cell_of_row w b (off + j) cs 40 fz hh]; exact hc j x hx⟩
theorem RdT.more (h : RdT B w A xs) (hB : B ≤ B') : RdT B' w A xs := fun hn => by
  obtain ⟨b, off, cs, fz, e, hb, hh, hc⟩ := h hn
  exact ⟨b, off, cs, fz, e, by omega, hh, hc⟩
theorem RdT.below (h : RdT B w A xs) (hb : Below B w w') : RdT B w' A xs := fun hn => by
  obtain ⟨b, off, cs, fz, e, hlt, hh, hc⟩ := h hn
  exact ⟨b, off, cs, fz, e, hlt, (hb.block b hlt).trans hh, hc⟩
theorem RdT.next (h : RdT w.heap.size w A xs) (hb : Below w.heap.size w w') : RdT w'.heap.size w' A xs := (h.below hb).more hb.size
theorem RdT.push (h : RdT w.heap.size w A xs) (o : Obj) : RdT (w.alloc o).heap.size (w.alloc o) A xs := h.next ((Below.refl _ w).alloc (Nat.le_refl _) o)
theorem RdT.drop {b off : Nat} (h : RdT B w (some ⟨b, off, none⟩) xs) (k : Nat) : RdT B w (some ⟨b, off + k, none⟩) (xs.drop k) := fun hn => by
  obtain ⟨b', off', cs, fz, e, hb, hh, hc⟩ := h (fun e => hn (by rw [e]; simp))
  cases e
  refine ⟨b, off + k, cs, fz, rfl, hb, hh, fun j x hx => ?_⟩
  rw [Nat.add_assoc]
  exact hc (k + j) x (by rwa [List.getElem?_drop] at hx)
theorem RdT.take (h : RdT B w A xs) (k : Nat) : RdT B w A (xs.take k) := fun hn => by
  obtain ⟨b, off, cs, fz, e, hb, hh, hc⟩ := h (fun e => hn (by rw [e]; simp))
  exact ⟨b, off, cs, fz, e, hb, hh, fun j x hx => hc j x (by rw [List.getElem?_take] at hx; split at hx <;> first | exact hx | cases hx)⟩
/-- A row of slices that grows leaves words as they are. -/
theorem RdT.grown {row : Option Nat} (h : RdT w.heap.size w A xs) (hg : w.grownBy w' row) (hr : ∀ g, row = some g → ∃ cur fz, w.heap[g]? = some (.cells cur 22 fz)) (hs : w.heap.size ≤ w'.heap.size) : RdT w'.heap.size w' A xs := fun hn => by
  obtain ⟨b, off, cs, fz, e, hlt, hh, hc⟩ := h hn
  refine ⟨b, off, cs, fz, e, by omega, (hg.block b hlt fun e => ?_).trans hh, hc⟩
  obtain ⟨cur, fz', hg'⟩ := hr b e.symm
  rw [hg'] at hh
  cases hh
end

/-- A call hands back the words ys in memory of its own. -/
def Row (w : World) (e : Ending) (w' : World) (ys : List Int) : Prop :=
  ∃ A c, e = .returned (.slice A ys.length c) ∧ Rd w'.heap.size w' A ys ∧ Below w.heap.size w w'
/-- .. and no error. -/
def RowOK (w : World) (e : Ending) (w' : World) (ys : List Int) : Prop :=
  ∃ A c, e = .returned (.tuple #[.slice A ys.length c, .int .i64 0]) ∧ RdT w'.heap.size w' A ys ∧ ys.length ≤ c ∧ Below w.heap.size w w'

/-- The slice at A holds slices that hold the lists ls, all below block B. -/
def RdL (B : Nat) (w : World) (A : Option Addr) (ls : List (List Int)) : Prop :=
  ls ≠ [] → ∃ b off, A = some ⟨b, off, none⟩ ∧ b < B ∧ ∀ j l, ls[j]? = some l → ∃ A' c, w.cell? ⟨b, off + j, none⟩ = some (.slice A' l.length c) ∧ (A' = none → c = 0) ∧ Rd B w A' l
section
variable {w w' : World} {B B' : Nat} {A : Option Addr} {ls : List (List Int)}
theorem RdL.nil : RdL B w A [] := fun h => absurd rfl h
theorem RdL.at_ {k : Nat} (h : RdL B w A ls) (hk : k < ls.length) : ∃ b off l A' c, A = some ⟨b, off, none⟩ ∧ b < B ∧ ls[k]? = some l ∧ w.cell? ⟨b, off + k, none⟩ = some (.slice A' l.length c) ∧ (A' = none → c = 0) ∧ Rd B w A' l := by
  obtain ⟨b, off, e, hb, hc⟩ := h (fun e => by rw [e] at hk; simp at hk)
  obtain ⟨A', c, h1, h0, h2⟩ := hc k _ (List.getElem?_eq_getElem hk)
  exact ⟨b, off, ls[k], A', c, e, hb, List.getElem?_eq_getElem hk, h1, h0, h2⟩
theorem RdL.below (h : RdL B w A ls) (hb : Below B w w') : RdL B w' A ls := fun hn => by
  obtain ⟨b, off, e, hlt, hc⟩ := h hn
  refine ⟨b, off, e, hlt, fun j l hl => ?_⟩
  obtain ⟨A', c, h1, h0, h2⟩ := hc j l hl
  exact ⟨A', c, (hb.cell (p := ⟨b, off + j, none⟩) hlt).trans h1, h0, h2.below hb⟩
theorem RdL.more (h : RdL B w A ls) (hB : B ≤ B') : RdL B' w A ls := fun hn => by
  obtain ⟨b, off, e, hlt, hc⟩ := h hn
  refine ⟨b, off, e, by omega, fun j l hl => ?_⟩
  obtain ⟨A', c, h1, h0, h2⟩ := hc j l hl
  exact ⟨A', c, h1, h0, h2.more hB⟩
theorem RdL.next (h : RdL w.heap.size w A ls) (hb : Below w.heap.size w w') : RdL w'.heap.size w' A ls := (h.below hb).more hb.size
theorem RdL.push (h : RdL w.heap.size w A ls) (o : Obj) : RdL (w.alloc o).heap.size (w.alloc o) A ls := h.next ((Below.refl _ w).alloc (Nat.le_refl _) o)
end

/-- A call hands back the lists ls in memory that no list shares, and no error. -/
def LRowOK (w : World) (e : Ending) (w' : World) (ls : List (List Int)) : Prop :=
  ∃ A c, e = .returned (.tuple #[.slice A ls.length c, .int .i64 0]) ∧ RdL w'.heap.size w' A ls ∧ Below w.heap.size w w'

theorem info_u64 : (Tryd.prog.info? 40).map (fun i => (i.zero, i.size, i.bytes)) = some (some (.int .u64 0), 1, 8) := by kernel_rfl
theorem info_u8 : (Tryd.prog.info? 5).map (fun i => (i.zero, i.size, i.bytes)) = some (some (.int .u8 0), 1, 1) := by kernel_rfl
theorem info_row : (Tryd.prog.info? 22).map (fun i => (i.zero, i.size, i.bytes)) = some (some (.slice none 0 0), 1, 24) := by kernel_rfl

theorem RdT.of_own {w : World} {base : Nat} {A : Option Addr} {n c : Nat} {xs : List Int} (h : w.ownsRow base 40 1 (.slice A n c) n (xs.map (Value.int .u64))) : RdT w.heap.size w A xs := fun hn => by
  have hl : xs.length = n := by simpa using h.1
  have hpos : 0 < n := by rw [← hl]; exact List.length_pos_iff.2 hn
  rcases h.2 with ⟨_, h0⟩ | ⟨g, cap, cur, hv, _, hh, h1, h2, h3, h4⟩
  · omega
  · injection hv with hA _ _
    subst hA
    refine ⟨g, 0, cur, (0, 0), rfl, (Array.getElem?_eq_some_iff.1 hh).1, hh, fun j x hx => ?_⟩
    have hj := (List.getElem?_eq_some_iff.1 hx).1
    have h5 : (cur.toList.take (n * 1))[j]? = some (.int .u64 x) := by rw [h4, List.getElem?_map, hx]; rfl
    rw [List.getElem?_take, if_pos (by omega), Array.getElem?_toList] at h5
    rw [Nat.zero_add]
    exact h5
theorem own_form {w : World} {base n : Nat} {v : Value} {xs : List Int} (h : w.ownsRow base 40 1 v n (xs.map (Value.int .u64))) : ∃ A c, v = .slice A xs.length c ∧ xs.length ≤ c ∧ RdT w.heap.size w A xs := by
  have hl : xs.length = n := by simpa using h.1
  rcases h.2 with ⟨rfl, h0⟩ | ⟨g, cap, cur, rfl, _, _, hc, _⟩
  · have : xs = [] := List.eq_nil_of_length_eq_zero (by omega)
    subst this
    exact ⟨none, 0, rfl, Nat.le_refl _, RdT.nil⟩
  · exact ⟨some ⟨g, 0, none⟩, cap, by rw [hl], by omega, RdT.of_own h⟩
theorem own_below {w w' : World} {base t n : Nat} {v : Value} {xs : List Value} (h : w.ownsRow base t 1 v n xs) (hb : Below w.heap.size w w') : w'.ownsRow base t 1 v n xs := by
  refine ⟨h.1, h.2.imp id ?_⟩
  rintro ⟨g, cap, cur, hv, h1, hh, r⟩
  exact ⟨g, cap, cur, hv, h1, (hb.block g (Array.getElem?_eq_some_iff.1 hh).1).trans hh, r⟩
theorem own_tag {w : World} {base t n : Nat} {v : Value} {xs : List Value} (h : w.ownsRow base t 1 v n xs) : ∀ g, v.ownBlock = some g → ∃ cur fz, w.heap[g]? = some (.cells cur t fz) := by
  intro g hg
  rcases h.2 with ⟨rfl, _⟩ | ⟨g', cap, cur, rfl, _, hh, _⟩
  · cases hg
  · cases hg
    exact ⟨cur, (0, 0), hh⟩
theorem row_of_own {w : World} {B t g k : Nat} {xs : List Value} (h : w.ownsRow B t 1 (.slice (some ⟨g, 0, none⟩) k k) k xs) : w.heap[g]? = some (.cells xs.toArray t (0, 0)) := by
  rcases h.2 with ⟨hv, _⟩ | ⟨g', cap, cur, hv, _, hh, h1, h2, h3, h4⟩
  · cases hv
  · cases hv
    rw [hh, ← h4, List.take_of_length_le (by rw [Array.length_toList]; omega)]

/-- A row of slices that the call itself makes, which hold the lists ls. -/
def LOwn (base : Nat) (w : World) (v : Value) (ls : List (List Int)) : Prop :=
  ∃ vs : List Value, w.ownsRow base 22 1 v ls.length vs ∧ ∀ (j : Nat) (l : List Int), ls[j]? = some l → ∃ A c, vs[j]? = some (Value.slice A l.length c) ∧ (A = none → c = 0) ∧ RdT w.heap.size w A l
theorem LOwn.nil (base : Nat) (w : World) : LOwn base w (.slice none 0 0) [] := ⟨[], World.ownsRow_nil _ _ _ _, fun j l h => by simp at h⟩
theorem LOwn.next {base : Nat} {w w' : World} {v : Value} {ls : List (List Int)} (h : LOwn base w v ls) (hb : Below w.heap.size w w') : LOwn base w' v ls := by
  obtain ⟨vs, h1, h2⟩ := h
  refine ⟨vs, own_below h1 hb, fun j l hl => ?_⟩
  obtain ⟨A, c, h3, h0, h4⟩ := h2 j l hl
  exact ⟨A, c, h3, h0, h4.next hb⟩
/-- .. one list more. -/
theorem LOwn.add {base : Nat} {w w2 : World} {v v' : Value} {ls : List (List Int)} {vs : List Value} {l : List Int} {A : Option Addr} {c : Nat} (h1 : w.ownsRow base 22 1 v ls.length vs)
    (h2 : ∀ (j : Nat) (l : List Int), ls[j]? = some l → ∃ A c, vs[j]? = some (Value.slice A l.length c) ∧ (A = none → c = 0) ∧ RdT w.heap.size w A l) (h0 : A = none → c = 0) (hl : RdT w.heap.size w A l)
    (hown : w2.ownsRow base 22 1 v' (ls.length + 1) (vs ++ [Value.slice A l.length c])) (hg : w.grownBy w2 v.ownBlock) : LOwn base w2 v' (ls ++ [l]) := by
  have hs : w.heap.size ≤ w2.heap.size := hg.size
  have hvl : vs.length = ls.length := by simpa using h1.1
  refine ⟨vs ++ [.slice A l.length c], by rw [List.length_append]; exact hown, fun j l' hj => ?_⟩
  by_cases hlt : j < ls.length
  · rw [List.getElem?_append_left hlt] at hj
    obtain ⟨A', c', h3, h5, h4⟩ := h2 j l' hj
    exact ⟨A', c', by rw [List.getElem?_append_left (by omega)]; exact h3, h5, h4.grown hg (own_tag h1) hs⟩
  · rw [List.getElem?_append_right (by omega)] at hj
    obtain ⟨hj', e⟩ := List.getElem?_eq_some_iff.1 hj
    simp only [List.length_singleton] at hj'
    obtain rfl : j = ls.length := by omega
    simp only [Nat.sub_self, List.getElem_cons_zero] at e
    subst e
    exact ⟨A, c, by rw [List.getElem?_append_right (by omega), hvl, Nat.sub_self]; rfl, h0, hl.grown hg (own_tag h1) hs⟩
theorem LOwn.form {base : Nat} {w : World} {v : Value} {ls : List (List Int)} (h : LOwn base w v ls) : ∃ A c, v = .slice A ls.length c ∧ RdL w.heap.size w A ls := by
  obtain ⟨vs, h1, h2⟩ := h
  rcases h1.2 with ⟨rfl, h0⟩ | ⟨g, cap, cur, rfl, _, hh, hc, _, h3, h4⟩
  · have : ls = [] := List.eq_nil_of_length_eq_zero h0
    subst this
    exact ⟨none, 0, rfl, RdL.nil⟩
  · refine ⟨some ⟨g, 0, none⟩, cap, rfl, fun _ => ⟨g, 0, rfl, (Array.getElem?_eq_some_iff.1 hh).1, fun j l hl => ?_⟩⟩
    obtain ⟨A, c, h5, h7, h6⟩ := h2 j l hl
    refine ⟨A, c, ?_, h7, h6.rd⟩
    rw [cell_of_row w g (0 + j) cur 22 (0, 0) hh, Nat.zero_add]
    have hj := (List.getElem?_eq_some_iff.1 hl).1
    rw [← h4, List.getElem?_take, if_pos (by omega), Array.getElem?_toList] at h5
    exact h5
theorem set_here (xs : List Int) (m : Nat) (v : Int) : (xs ++ List.replicate (m + 1) 0).set xs.length v = xs ++ [v] ++ List.replicate m 0 := by
  rw [List.set_append_right _ _ (Nat.le_refl _), Nat.sub_self, List.replicate_succ, List.set_cons_zero, List.append_assoc]; rfl
theorem bnew {B : Nat} {a w : World} (h : Below B a w) (o : Obj) (hB : B ≤ a.heap.size) : Below B a (w.alloc o) := h.alloc (Nat.le_trans hB h.size) o
theorem Rd.lit (w : World) (xs : List Int) : Rd (w.alloc (.cells (xs.map (Value.int .u64)).toArray 40)).heap.size (w.alloc (.cells (xs.map (Value.int .u64)).toArray 40)) (some ⟨w.heap.size, 0, none⟩) xs := fun _ => by
  refine ⟨w.heap.size, 0, rfl, by simp, fun j x hx => ?_⟩
  rw [cell_of_row _ w.heap.size (0 + j) (xs.map (Value.int .u64)).toArray 40 (0, 0) (World.alloc_heap_new w _)]
  simp [hx]
theorem Rd.l1 (w : World) (x : Int) : Rd (w.alloc (.cells #[.int .u64 x] 40)).heap.size (w.alloc (.cells #[.int .u64 x] 40)) (some ⟨w.heap.size, 0, none⟩) [x] := Rd.lit w [x]
theorem Rd.l4 (w : World) (x y z t : Int) : Rd (w.alloc (.cells #[.int .u64 x, .int .u64 y, .int .u64 z, .int .u64 t] 40)).heap.size (w.alloc (.cells #[.int .u64 x, .int .u64 y, .int .u64 z, .int .u64 t] 40)) (some ⟨w.heap.size, 0, none⟩) [x, y, z, t] := Rd.lit w [x, y, z, t]
end Go.Proofs.YtblfmbkkeieiaaaDoor
