/- Same, SameRows, Below, Points, Unlike, Places of the reference of layer 5; nothing that lay is changed. Conditions: words, at most 100 of them. -/
import Derived.Test.YtbhphamfkhccpaaPStep
import Derived.Test.YtbhphamfkhccpaaIMem
namespace Go.Proofs.Ytbhphamfkhccpaa
set_option maxRecDepth 100000
open Go.RowKit PolyMath FieldMath

theorem Sl.drewN {w : World} {A : Option Addr} {c : Nat} {xs : List Int} (h : Sl w A c xs) (n : Nat) : Sl (w.drewN n) A c xs := h.next (below_drewN (Below.refl _ w) n)
theorem Sll.drewN {w : World} {A : Option Addr} {c : Nat} {xs : List (List Int)} (h : Sll w A c xs) (n : Nat) : Sll (w.drewN n) A c xs := h.next (below_drewN (Below.refl _ w) n)

theorem quiet_more {P : Program} {f : FuncId} {args : Array Value} {w : World} {a n : Nat} {v : Value}
    (h : Calls P f args (w.drewN (a + n)) fun e w' => e = .returned v ∧ ∃ m, w' = (w.drewN (a + n)).drewN m) : Calls P f args (w.drewN (a + n)) fun e w'' => e = .returned v ∧ ∃ m, w'' = w.drewN (a + m) :=
  h.mono fun _ _ ⟨he, m, hm⟩ => ⟨he, n + m, hm.trans ((World.drewN_drewN _ _ _).trans (by rw [Nat.add_assoc]))⟩

theorem below_any (p : Int) (A : Option Addr) (c : Nat) (xs : List Int) (w : World) (h : Sl w A c xs) (hl : xs.length ≤ 9223372036854775807) :
    Calls Try.prog 36 #[.int .u64 p, .slice A xs.length c] w fun e w' => e = .returned (.bool (decide (∀ x ∈ xs, x < p))) ∧ w = w' := by
  go_enter Try.func36, Try.ntmps36
  go_wp2
  go_loop [5] (fun i => ∃ k : Nat, k ≤ xs.length ∧ i = .int .i64 k ∧ Hid (∀ x ∈ xs.take k, x < p)) (fun i => xs.length - (intOf i).toNat)
  case atStart => exact ⟨0, Nat.zero_le _, rfl, Lib.hid (fun x hx => by simp at hx)⟩
  case round =>
    obtain ⟨k, hk, rfl, hE⟩ := hrel
    by_cases hlt : k < xs.length
    · obtain ⟨b, off, x, hA, _, hx, hc⟩ := h.at_ hlt
      subst hA
      have hX := Lib.hid hx
      have hi1 : (k : Int) < xs.length := by omega
      clear hx
      by_cases hxp : x < p
      · have hN := Lib.hid (show ∀ y ∈ xs.take (k + 1), y < p from fun y hy => by
          rw [List.take_add_one, hX.out] at hy
          rcases List.mem_append.1 hy with h1 | h1
          · exact hE.out y h1
          · have : y = x := by simpa using h1
            subst this; exact hxp)
        go_wp2
        go_round
        case rel => exact ⟨k + 1, by omega, by simp, hN⟩
        case measure => simp [intOf]; omega
      · have hN := Lib.hid (show ¬ ∀ y ∈ xs, y < p from fun h => hxp (h x (List.mem_of_getElem? hX.out)))
        have hxp' : p ≤ x := by omega
        go_wp2
        go_ret
        exact ⟨by rw [decide_eq_false hN.out]; rfl, rfl⟩
    · obtain rfl : k = xs.length := by omega
      go_wp2
      go_ret
      exact ⟨by rw [decide_eq_true (by have := hE.out; rwa [List.take_length] at this)]; rfl, rfl⟩

end Go.Proofs.Ytbhphamfkhccpaa
