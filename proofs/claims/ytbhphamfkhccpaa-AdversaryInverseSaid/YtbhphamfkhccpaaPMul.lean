/- Mul and Scale of package poly: the trimmed product; nothing that lay is changed. Conditions: a supported prime, polynomials over its field of at most 400 coefficients. -/
import Derived.Test.YtbhphamfkhccpaaPBase
import Derived.StillTailTactics
namespace Go.Proofs.Ytbhphamfkhccpaa
set_option maxRecDepth 100000
open Go.RowKit PolyMath FieldMath

theorem still_of {P : Program} {f : FuncId} {args : Array Value} {w : World} {v : Value} (h : Calls P f args w fun e w' => e = .returned v ∧ w = w') : Calls P f args w (fun e w'' => e = .returned v ∧ w'' = w) :=
  h.mono fun _ _ ⟨he, hm⟩ => ⟨he, hm.symm⟩
theorem grown_trans {X Y Z : World} {row : Option Nat} (h : X.grownBy Y row) (k : Y.grownBy Z row) : X.grownBy Z row :=
  ⟨k.os.trans h.os, k.tape.trans h.tape, k.output.trans h.output, Nat.le_trans h.size k.size, fun b hb hr => (k.block b (Nat.lt_of_lt_of_le hb h.size) hr).trans (h.block b hb hr)⟩
theorem grown_drew {X Y : World} {row : Option Nat} (h : X.grownBy Y row) : X.grownBy Y.drew row := ⟨h.os, h.tape, h.output, h.size, h.block⟩
theorem Sl.grown {w w' : World} {A : Option Addr} {c : Nat} {xs : List Int} {row : Option Nat} (h : Sl w A c xs) (hg : w.grownBy w' row) (hr : ∀ ad, A = some ad → some ad.block ≠ row) : Sl w' A c xs :=
  ⟨h.cap, h.nil, fun ad hA hn => by
    obtain ⟨b, off, rfl, hb, hc⟩ := h.rd ad hA hn
    exact ⟨b, off, rfl, Nat.lt_of_lt_of_le hb hg.size, fun j x hx => hg.cell (hc j x hx) (hr ⟨b, off, none⟩ hA)⟩⟩

/-- The row at g, n words with room for c, holds the words xs, and may be written. -/
def OwnAt (w : World) (base g n c : Nat) (xs : List Int) : Prop := w.ownsRow base 22 1 (.slice (some ⟨g, 0, none⟩) n c) n (xs.map (Value.int .u64))
theorem OwnAt.lt {w : World} {base g n c : Nat} {xs : List Int} (h : OwnAt w base g n c xs) : base ≤ g ∧ g < w.heap.size := World.ownsRow.lt h g rfl
theorem OwnAt.len {w : World} {base g n c : Nat} {xs : List Int} (h : OwnAt w base g n c xs) : xs.length = n := by have := h.1; simpa using this
theorem OwnAt.cell {w : World} {base g n c i : Nat} {x : Int} {xs : List Int} (h : OwnAt w base g n c xs) (hx : xs[i]? = some x) : w.cell? ⟨g, i, none⟩ = some (.int .u64 x) := by
  have hi : i < n := by have := (List.getElem?_eq_some_iff.1 hx).1; rw [h.len] at this; exact this
  exact (World.ownsRow.cellAt h i (by omega)).trans (by rw [List.getElem?_map, hx]; rfl)
theorem OwnAt.frozen {w : World} {base g n c : Nat} {xs : List Int} (h : OwnAt w base g n c xs) (i : Nat) : w.frozen? ⟨g, i, none⟩ = false := World.ownsRow.frozenAt h i
theorem OwnAt.put {w : World} {base g n c : Nat} {xs : List Int} (h : OwnAt w base g n c xs) (i : Nat) (x : Int) : OwnAt (w.setCell ⟨g, i, none⟩ (.int .u64 x)) base g n c (xs.set i x) := by
  have := (World.ownsRow.stored h i (.int .u64 x)).1
  rw [← List.map_set] at this
  exact this
theorem OwnAt.grow {w : World} {base g n c : Nat} {xs : List Int} (h : OwnAt w base g n c xs) (i : Nat) (x : Int) : w.grownBy (w.setCell ⟨g, i, none⟩ (.int .u64 x)) (some g) := (World.ownsRow.stored h i (.int .u64 x)).2
theorem OwnAt.push {w : World} {base g n c : Nat} {xs : List Int} (h : OwnAt w base g n c xs) (o : Obj) : OwnAt (w.alloc o) base g n c xs := World.ownsRow.alloc h o
theorem OwnAt.drew {w : World} {base g n c : Nat} {xs : List Int} (h : OwnAt w base g n c xs) : OwnAt w.drew base g n c xs := h
theorem OwnAt.sl {w : World} {base g n c : Nat} {xs : List Int} (h : OwnAt w base g n c xs) : Sl w (some ⟨g, 0, none⟩) c xs := Sl.of_own h
theorem OwnAt.kept {w w' : World} {base g n c : Nat} {xs : List Int} {row : Option Nat} (h : OwnAt w base g n c xs) (hg : w.grownBy w' row) (hr : some g ≠ row) : OwnAt w' base g n c xs :=
  World.ownsRow.kept h hg (.inr hr)

/-- What the loops over the terms hold. -/
def Terms (w0 w1 : World) (p : Int) (a b : List Int) (g c I K : Nat) (w : World) : Prop :=
  OwnAt w w0.heap.size g (a.length + b.length - 1) c (mulL p a b (a.length + b.length - 1) I K) ∧ w1.grownBy w (some g)

theorem pmul_trims (p : Int) (a b : List Int) : pmul p (trim a) (trim b) = pmul p a b :=
  same_of (pmul_trim _ _ _) (pmul_trim _ _ _) fun n => by rw [co_pmul, co_pmul, conv_ext (co_trim a) (co_trim b)]
theorem pmul_one (p k : Int) (a : List Int) : pmul p [k] a = pscl p k a :=
  same_of (pmul_trim _ _ _) (pscl_trim _ _ _) fun n => by
    rw [co_pmul, co_pscl, conv_ext (f := co [k]) (g := co a) (f' := fun i => if i = 0 then k else 0) (g' := co a) (fun i => co_mono k 0 i) (fun _ => rfl), conv_mono, if_pos (Nat.zero_le _), Nat.sub_zero]
theorem Sl.trims {w : World} {A : Option Addr} {c : Nat} {xs : List Int} (h : Sl w A c xs) : Sl w A c (trim xs) := h.take _

end Go.Proofs.Ytbhphamfkhccpaa
