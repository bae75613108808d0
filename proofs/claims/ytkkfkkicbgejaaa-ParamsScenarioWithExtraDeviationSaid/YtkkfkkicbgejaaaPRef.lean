/- Eval, Add, Scale, Sub, Words of the reference of layer 4: values, sums, multiples, differences; nothing that lay is changed. Conditions: a supported prime, polynomials over its field of at most 400 coefficients, elements. -/
import Derived.Test.YtkkfkkicbgejaaaPMul
import Derived.Maps.AppendAt
namespace Go.Proofs.Ytkkfkkicbgejaaa
set_option maxRecDepth 100000
open Go.RowKit PolyMath FieldMath

theorem own_next {w : World} {base k : Nat} {v : Value} {f : Nat → Int} (h : w.ownsRow base 22 1 v (k + 1) (((List.range k).map f).map (Value.int .u64) ++ [.int .u64 (f k)])) :
    w.ownsRow base 22 1 v (k + 1) (((List.range (k + 1)).map f).map (Value.int .u64)) := by
  rw [map_next, List.map_append]; exact h

theorem rInv_any (p a : Int) (hp : OkP p) (ha0 : 0 < a) (ha : a < p) (w : World) :
    Calls Try.prog 37 #[.int .u64 p, .int .u64 a] w fun e w' => e = .returned (.tuple #[.int .u64 (fpow p a (p - 2)), .int .i64 0]) ∧ w = w' := by
  have hbd := hp.bd
  go_enter Try.func37, Try.ntmps37
  go_wp2_with (go_at_call 59; refine (rPow_any _ _ _ hp (by omega) (by omega) (by omega) (by omega) _).mono ?_; rintro e w' ⟨rfl, rfl⟩)
  go_ret2
  exact ⟨rfl, rfl⟩

/-- The elements that Words makes of the first twelve words. -/
def wds (p : Int) (l : List Int) : List Int := (l.take 12).map (· % p)
theorem wds_len (p : Int) (l : List Int) : (wds p l).length ≤ 12 := by unfold wds; rw [List.length_map, List.length_take]; omega
theorem wds_el {p : Int} (hp : 0 < p) (l : List Int) : El p (wds p l) := by
  intro x hx
  obtain ⟨y, _, rfl⟩ := List.mem_map.1 hx
  exact md _ _ hp
theorem wds_eq (p : Int) (l : List Int) : (List.range (min l.length 12)).map (fun n => co l n % p) = wds p l := by
  unfold wds
  rw [show (l.take 12) = (List.range (min l.length 12)).map (co l) from ?_, List.map_map]
  · rfl
  · apply List.ext_getElem (by simp; omega)
    intro n h1 h2
    rw [List.getElem_map, List.getElem_range, List.getElem_take, co_get]

end Go.Proofs.Ytkkfkkicbgejaaa
