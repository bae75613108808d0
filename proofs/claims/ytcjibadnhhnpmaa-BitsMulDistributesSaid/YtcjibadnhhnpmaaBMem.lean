/- A slice of words that reads as a list, nil let in; the functions of layer 2 and of its reference that only read. Conditions: lists of at most 1000 elements where a loop goes through them. -/
import Derived.Test.YtcjibadnhhnpmaaProg
import Derived.Test.YtcjibadnhhnpmaaBMath
import Derived.WalkKit
import Derived.Below
import Derived.Deep.QuietTactic
import Derived.BigQuiet
import Derived.Lib.Hide
namespace Go.Proofs.Ytcjibadnhhnpmaa
open Go.RowKit BitMath

/-- The slice at A holds the words xs, below block B. -/
def Rd (B : Nat) (w : World) (A : Option Addr) (xs : List Int) : Prop :=
  xs ≠ [] → ∃ b off, A = some ⟨b, off, none⟩ ∧ b < B ∧ ∀ j x, xs[j]? = some x → w.cell? ⟨b, off + j, none⟩ = some (.int .u64 x)

section
variable {w w' : World} {B B' : Nat} {A : Option Addr} {xs : List Int}
theorem Rd.nil : Rd B w A [] := fun h => absurd rfl h
theorem Rd.at_ {k : Nat} (h : Rd B w A xs) (hk : k < xs.length) : ∃ b off x, A = some ⟨b, off, none⟩ ∧ b < B ∧ xs[k]? = some x ∧ w.cell? ⟨b, off + k, none⟩ = some (.int .u64 x) := by
  obtain ⟨b, off, e, hb, hc⟩ := h (fun e => by rw [e] at hk; simp at hk)
  exact ⟨b, off, xs[k], e, hb, List.getElem?_eq_getElem hk, hc k _ (List.getElem?_eq_getElem hk)⟩
theorem Rd.keep (h : Rd B w A xs) (hk : ∀ p : Addr, p.block < B → w'.cell? p = w.cell? p) : Rd B w' A xs := fun hn => by
  obtain ⟨b, off, e, hb, hc⟩ := h hn
  exact ⟨b, off, e, hb, fun j x hx => (hk ⟨b, off + j, none⟩ hb).trans (hc j x hx)⟩
theorem Rd.more (h : Rd B w A xs) (hB : B ≤ B') : Rd B' w A xs := fun hn => by
  obtain ⟨b, off, e, hb, hc⟩ := h hn
  exact ⟨b, off, e, by omega, hc⟩
theorem Rd.below (h : Rd B w A xs) (hb : Below B w w') : Rd B w' A xs := h.keep fun _ hp => hb.cell hp
theorem Rd.take (h : Rd B w A xs) (k : Nat) : Rd B w A (xs.take k) := fun hn => by
  obtain ⟨b, off, e, hb, hc⟩ := h (fun e => hn (by rw [e]; simp))
  exact ⟨b, off, e, hb, fun j x hx => hc j x (by rw [List.getElem?_take] at hx; split at hx <;> first | exact hx | cases hx)⟩
theorem Rd.next (h : Rd w.heap.size w A xs) (hb : Below w.heap.size w w') : Rd w'.heap.size w' A xs := (h.below hb).more hb.size
end

/-- A call hands back the words ys in memory of its own. -/
def Row (w : World) (e : Ending) (w' : World) (ys : List Int) : Prop :=
  ∃ A c, e = .returned (.slice A ys.length c) ∧ Rd w'.heap.size w' A ys ∧ Below w.heap.size w w'

theorem bitAt_any (A : Option Addr) (xs : List Int) (c i B : Nat) (w : World) (h : Rd B w A xs) :
    Calls Try.prog 35 #[.slice A xs.length c, .int .i64 i] w fun e w' => e = .returned (.int .u64 (xs[i]?.getD 0)) ∧ w = w' := by
  by_cases hlt : i < xs.length
  · obtain ⟨b, off, x, rfl, _, hx, hc⟩ := h.at_ hlt
    rw [hx]
    go_enter Try.func35, Try.ntmps35
    go_wp2
    go_ret
    exact ⟨rfl, rfl⟩
  · rw [List.getElem?_eq_none (by omega)]
    go_enter Try.func35, Try.ntmps35
    go_wp2
    go_ret
    exact ⟨rfl, rfl⟩

theorem rBit_any (A : Option Addr) (xs : List Int) (c i B : Nat) (w : World) (h : Rd B w A xs) :
    Calls Try.prog 32 #[.slice A xs.length c, .int .i64 i] w fun e w' => e = .returned (.int .u64 (xs[i]?.getD 0)) ∧ w = w' := by
  by_cases hlt : i < xs.length
  · obtain ⟨b, off, x, rfl, _, hx, hc⟩ := h.at_ hlt
    rw [hx]
    go_enter Try.func32, Try.ntmps32
    go_wp2
    go_ret
    exact ⟨rfl, rfl⟩
  · rw [List.getElem?_eq_none (by omega)]
    go_enter Try.func32, Try.ntmps32
    go_wp2
    go_ret
    exact ⟨rfl, rfl⟩

end Go.Proofs.Ytcjibadnhhnpmaa
