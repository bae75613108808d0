/- Contracts of layer 4 in the forms that the laws use. Conditions: as for the contracts that they come from. -/
import Derived.Test.YtkkfkkicbgejaaaPOpen
namespace Go.Proofs.Ytkkfkkicbgejaaa
set_option maxRecDepth 100000
open Go.RowKit PolyMath FieldMath

theorem deg_pos (A : Option Addr) (c d : Nat) (xs : List Int) (w : World) (h : Sl w A c xs) (hl : xs.length ≤ 1000) (hd : tn xs = d + 1) :
    Calls Try.prog 74 #[.slice A xs.length c] w fun e w' => e = .returned (.int .i64 (d : Int)) ∧ w = w' := by
  have := degree_any A c xs w h hl
  rwa [hd, show (((d + 1 : Nat) : Int) - 1) = (d : Int) from by omega] at this
theorem deg_zero (A : Option Addr) (c : Nat) (xs : List Int) (w : World) (h : Sl w A c xs) (hl : xs.length ≤ 1000) (hd : tn xs = 0) :
    Calls Try.prog 74 #[.slice A xs.length c] w fun e w' => e = .returned (.int .i64 (-1)) ∧ w = w' := by
  have := degree_any A c xs w h hl
  rwa [hd, show (((0 : Nat) : Int) - 1) = -1 from rfl] at this
theorem deg_prod (p : Int) (hp : OkP p) (A : Option Addr) (c d d' : Nat) (a b : List Int) (ha : El p a) (hb : El p b) (la : a.length ≤ 400) (lb : b.length ≤ 400) (h1 : tn a = d + 1) (h2 : tn b = d' + 1) (w : World) (h : Sl w A c (pmul p a b)) :
    Calls Try.prog 74 #[.slice A (pmul p a b).length c] w fun e w' => e = .returned (.int .i64 ((d : Int) + d')) ∧ w = w' := by
  have hl := pmul_len p a b
  have := deg_pos A c (d + d') (pmul p a b) w h (by omega) (by rw [tn_pmul hp.good ha hb (by omega) (by omega)]; omega)
  rwa [Int.natCast_add] at this
theorem eval_sum (p x : Int) (hp : OkP p) (hx : 0 ≤ x ∧ x < p) (A : Option Addr) (c : Nat) (a b : List Int) (la : a.length ≤ 400) (lb : b.length ≤ 400) (w : World) (h : Sl w A c (padd p a b)) :
    Calls Try.prog 25 #[.int .u64 p, .slice A (padd p a b).length c, .int .u64 x] w fun e w' => e = .returned (.int .u64 (fadd p (pev p a x) (pev p b x))) ∧ Below w.heap.size w w' := by
  have hbd := hp.bd
  have := eval_any p x hp hx A c (padd p a b) (padd_el (by omega) _ _) (by have := padd_len p a b; omega) w h
  rwa [pev_padd] at this
theorem eval_prod (p x : Int) (hp : OkP p) (hx : 0 ≤ x ∧ x < p) (A : Option Addr) (c : Nat) (a b : List Int) (la : a.length ≤ 200) (lb : b.length ≤ 200) (w : World) (h : Sl w A c (pmul p a b)) :
    Calls Try.prog 25 #[.int .u64 p, .slice A (pmul p a b).length c, .int .u64 x] w fun e w' => e = .returned (.int .u64 (fmul p (pev p a x) (pev p b x))) ∧ Below w.heap.size w w' := by
  have hbd := hp.bd
  have := eval_any p x hp hx A c (pmul p a b) (pmul_el (by omega) _ _) (by have := pmul_len p a b; omega) w h
  rwa [pev_pmul] at this
theorem coef_0 (A : Option Addr) (c : Nat) (xs : List Int) (v : Int) (w : World) (h : Sl w A c xs) (hv : co xs 0 = v) :
    Calls Try.prog 75 #[.slice A xs.length c, .int .i64 0] w fun e w' => e = .returned (.int .u64 v) ∧ w = w' := by
  have := coef_any A c xs 0 w h
  rwa [show coI xs 0 = co xs 0 from rfl, hv] at this
theorem tn_lin (z : Int) : tn [z, 1] = 1 + 1 := by simp [tn]
end Go.Proofs.Ytkkfkkicbgejaaa
