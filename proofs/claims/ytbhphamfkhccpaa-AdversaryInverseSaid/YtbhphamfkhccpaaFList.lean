/- Lists of numbers that a call makes by append; the parties outside a coalition and its extension, of the reference of layer 12. Conditions: at most 13 parties. -/
import Derived.Test.YtbhphamfkhccpaaFCoal
namespace Go.Proofs.Ytbhphamfkhccpaa
set_option maxRecDepth 100000
open Go.RowKit PolyMath FieldMath PartyMath

theorem info_int : (Try.prog.info? 3).map (fun i => (i.zero, i.size, i.bytes)) = some (some (.int .i64 0), 1, 8) := by kernel_rfl
theorem own_belowN {w w' : World} {base t size n : Nat} {v : Value} {xs : List Value} (h : w.ownsRow base t size v n xs) (hb : Below w.heap.size w w') : w'.ownsRow base t size v n xs := by
  refine ⟨h.1, h.2.imp id ?_⟩
  rintro ⟨g, cap, cur, hv, h1, hh, r⟩
  exact ⟨g, cap, cur, hv, h1, (hb.block g (Array.getElem?_eq_some_iff.1 hh).1).trans hh, r⟩
theorem own_tagN {w : World} {base t size n : Nat} {v : Value} {xs : List Value} (h : w.ownsRow base t size v n xs) : ∀ g, v.ownBlock = some g → ∃ cur fz, w.heap[g]? = some (.cells cur t fz) := by
  intro g hg
  rcases h.2 with ⟨rfl, _⟩ | ⟨g', cap, cur, rfl, _, hh, _⟩
  · cases hg
  · cases hg
    exact ⟨cur, _, hh⟩
/-- Rows of two types lie in two blocks. -/
theorem own_apart {w : World} {base base' t t' size size' n n' : Nat} {v v' : Value} {xs xs' : List Value} (h : w.ownsRow base t size v n xs) (h' : w.ownsRow base' t' size' v' n' xs') (hne : t ≠ t') : v.ownBlock = none ∨ v'.ownBlock ≠ v.ownBlock := by
  cases hv : v.ownBlock with
  | none => exact .inl rfl
  | some g =>
    refine .inr fun e => hne ?_
    obtain ⟨c1, f1, e1⟩ := own_tagN h g hv
    obtain ⟨c2, f2, e2⟩ := own_tagN h' g e
    rw [e1] at e2
    injection e2 with e2
    injection e2
theorem Si.of_own {w : World} {base : Nat} {A : Option Addr} {n c : Nat} {xs : List Int} (h : w.ownsRow base 3 1 (.slice A n c) n (xs.map (Value.int .i64))) : Si w A c xs := by
  have hl : xs.length = n := by simpa using h.1
  rcases h.2 with ⟨hv, h0⟩ | ⟨g, cap, cur, hv, _, hh, h1, h2, h3, h4⟩
  · injection hv with hA hn hc
    subst hA hc
    exact ⟨by omega, (fun _ => rfl), (fun _ h => absurd h (by simp))⟩
  · injection hv with hA hn hc
    subst hA hc
    refine ⟨by omega, (fun h => absurd h (by simp)), (fun ad hA _ => ?_)⟩
    injection hA with hA
    subst hA
    refine ⟨g, 0, rfl, (Array.getElem?_eq_some_iff.1 hh).1, fun j x hx => ?_⟩
    have hj := (List.getElem?_eq_some_iff.1 hx).1
    have h5 : (cur.toList.take (n * 1))[j]? = some (.int .i64 x) := by rw [h4, List.getElem?_map, hx]; rfl
    rw [List.getElem?_take, if_pos (by omega), Array.getElem?_toList] at h5
    rw [cell_of_row w g (0 + j) cur 3 (0, 0) hh, Nat.zero_add]
    exact h5
theorem iown_form {w : World} {base n : Nat} {v : Value} {xs : List Int} (h : w.ownsRow base 3 1 v n (xs.map (Value.int .i64))) : ∃ A c, v = .slice A xs.length c ∧ Si w A c xs := by
  have hl : xs.length = n := by simpa using h.1
  rcases h.2 with ⟨rfl, h0⟩ | ⟨g, cap, cur, rfl, _, _, hc, _⟩
  · subst h0; exact ⟨none, 0, by rw [hl], Si.of_own h⟩
  · exact ⟨some ⟨g, 0, none⟩, cap, by rw [hl], Si.of_own h⟩
/-- The numbers xs lie in a slice of the call's own, from block B on. -/
def OI (w : World) (B : Nat) (v : Value) (xs : List Int) : Prop := w.ownsRow B 3 1 v xs.length (xs.map (Value.int .i64))
theorem OI.next {w w' : World} {B : Nat} {v : Value} {xs : List Int} (h : OI w B v xs) (hb : Below w.heap.size w w') : OI w' B v xs := own_belowN h hb
theorem OI.form {w : World} {B : Nat} {v : Value} {xs : List Int} (h : OI w B v xs) : ∃ A c, v = .slice A xs.length c ∧ Si w A c xs := iown_form h
theorem OI.nil (w : World) (B : Nat) : OI w B (.slice none 0 0) [] := World.ownsRow_nil _ _ _ _
theorem OI.open_ {w : World} {B : Nat} {v : Value} {xs : List Int} (h : OI w B v xs) (hn : xs ≠ []) : ∃ g c, v = .slice (some ⟨g, 0, none⟩) xs.length c ∧ B ≤ g ∧ g < w.heap.size ∧ xs.length ≤ c ∧ ∀ j x, xs[j]? = some x → w.cell? ⟨g, j, none⟩ = some (.int .i64 x) := by
  obtain ⟨A, c, rfl, hs⟩ := h.form
  cases A with
  | none =>
    have := hs.nil rfl
    have := hs.cap
    exact absurd (List.eq_nil_of_length_eq_zero (by omega)) hn
  | some ad =>
    obtain ⟨b, off, rfl, hb, hc⟩ := hs.rd ad rfl hn
    rcases h.2 with ⟨h1, _⟩ | ⟨g, cap, cur, h1, h2, _⟩
    · cases h1
    · injection h1 with h1
      injection h1 with h1
      injection h1 with h3 h4
      subst h3 h4
      exact ⟨b, c, rfl, h2, hb, hs.cap, fun j x hj => by have := hc j x hj; rwa [Nat.zero_add] at this⟩
/-- A call hands back numbers in a slice of its own. -/
def RowO (w : World) (e : Ending) (w' : World) (ys : List Int) : Prop := ∃ v, e = .returned v ∧ OI w' w.heap.size v ys ∧ Below w.heap.size w w'
theorem OI.snoc {w : World} {B k : Nat} {v : Value} {xs : List Int} {x : Int} (hk : xs.length = k) (h : w.ownsRow B 3 1 v (k + 1) ((xs.map (Value.int .i64)) ++ [.int .i64 x])) : OI w B v (xs ++ [x]) := by
  unfold OI
  rw [List.map_append, List.length_append, hk]
  exact h

/-- One number more at the end of an own list. -/
theorem OI.weak {w : World} {B B' : Nat} {v : Value} {xs : List Int} (h : OI w B v xs) (hB : B' ≤ B) : OI w B' v xs := by
  refine ⟨h.1, h.2.imp id ?_⟩
  rintro ⟨g, cap, cur, hv, h1, r⟩
  exact ⟨g, cap, cur, hv, Nat.le_trans hB h1, r⟩

end Go.Proofs.Ytbhphamfkhccpaa
