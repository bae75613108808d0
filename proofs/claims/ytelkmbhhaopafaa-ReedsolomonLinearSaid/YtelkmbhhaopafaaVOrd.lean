/- What the order of the points, a shift by a polynomial and the bounds mean for Decode's answer, with no walk in sight. Conditions: p one of the primes, as said. -/
import Derived.Test.YtelkmbhhaopafaaVLaw
namespace Go.Proofs.Ytelkmbhhaopafaa
set_option maxRecDepth 100000
open PolyMath FieldMath MatMath

theorem px_rev (ps : List (Int × Int)) : px ps.reverse = (px ps).reverse := by unfold px; exact List.map_reverse
theorem py_rev (ps : List (Int × Int)) : py ps.reverse = (py ps).reverse := by unfold py; exact List.map_reverse
theorem el_rev {p : Int} {xs : List Int} (h : El p xs) : El p xs.reverse := fun x hx => h x (List.mem_reverse.1 hx)
theorem valid_rev {ps : List (Int × Int)} {deg wg : Int} : Valid ps.reverse deg wg ↔ Valid ps deg wg := by
  unfold Valid
  rw [List.length_reverse, px_rev, (List.reverse_perm _).nodup_iff]
theorem dec_rev {p : Int} {ps : List (Int × Int)} {d k : Nat} {f : List Int} : Dec p ps.reverse d k f ↔ Dec p ps d k f := by
  have e : (errs p f ps.reverse).length = (errs p f ps).length := by rw [errs_rev]; simp
  constructor
  · exact fun h => ⟨h.el, h.tr, h.le, by rw [← e]; exact h.few⟩
  · exact fun h => ⟨h.el, h.tr, h.le, by rw [e]; exact h.few⟩
theorem errI_rev_len (p : Int) (f : List Int) (ps : List (Int × Int)) : (errI p f ps.reverse).length = (errI p f ps).length := by rw [errI_len, errI_len, errs_rev]; simp
theorem errI_rev_at {p : Int} {f : List Int} {ps : List (Int × Int)} {i : Nat} {a b : Int} (ha : (errI p f ps)[i]? = some a) (hb : (errI p f ps.reverse)[(errI p f ps).length - 1 - i]? = some b) : a = (ps.length : Int) - 1 - b := by
  unfold errI at ha hb
  rw [List.getElem?_map] at ha hb
  obtain ⟨x, hx, rfl⟩ := Option.map_eq_some_iff.1 ha
  obtain ⟨y, hy, rfl⟩ := Option.map_eq_some_iff.1 hb
  rw [errs_rev, List.getElem?_map] at hy
  obtain ⟨z, hz, rfl⟩ := Option.map_eq_some_iff.1 hy
  have hi := (List.getElem?_eq_some_iff.1 hx).1
  rw [List.getElem?_reverse (by rw [List.length_map]; omega), List.length_map, show (errs p f ps).length - 1 - ((errs p f ps).length - 1 - i) = i by omega, hx] at hz
  injection hz with hz
  subst hz
  have := (mem_errs.1 (List.mem_of_getElem? hx)).1
  omega
theorem errI_at_le {p : Int} {f : List Int} {ps : List (Int × Int)} {i : Nat} {a : Int} (ha : (errI p f ps)[i]? = some a) : 0 ≤ a ∧ a < ps.length := by
  unfold errI at ha
  rw [List.getElem?_map] at ha
  obtain ⟨x, hx, rfl⟩ := Option.map_eq_some_iff.1 ha
  have := (mem_errs.1 (List.mem_of_getElem? hx)).1
  omega
theorem rev_next {ps : List (Int × Int)} {k : Nat} {x y : Int} (hk : k < ps.length) (h : ps[ps.length - 1 - k]? = some (x, y)) : ps.reverse.take (k + 1) = ps.reverse.take k ++ [(x, y)] := by
  rw [List.take_add_one, List.getElem?_reverse hk, h]; rfl

/-! ### A shift by a polynomial -/
theorem moved_el {p : Int} (hp : 0 < p) {g : List Int} {ps : List (Int × Int)} : El p (py (moved p g ps)) := fun z hz => by
  unfold moved py at hz
  rw [List.map_map] at hz
  obtain ⟨q, _, rfl⟩ := List.mem_map.1 hz
  exact md _ _ hp
theorem moved_next {p : Int} {g : List Int} {ps : List (Int × Int)} {k : Nat} {x y : Int} (h : ps[k]? = some (x, y)) : (moved p g ps).take (k + 1) = (moved p g ps).take k ++ [(x, fadd p y (pev p g x))] := by
  rw [List.take_add_one]
  unfold moved
  rw [List.getElem?_map, h]; rfl
theorem valid_moved {p : Int} {g : List Int} {ps : List (Int × Int)} {deg wg : Int} : Valid (moved p g ps) deg wg ↔ Valid ps deg wg := by
  unfold Valid
  rw [moved_len, moved_px]
theorem dec_moved {p : Int} (hp : 0 < p) {ps : List (Int × Int)} (hy : El p (py ps)) {d k : Nat} {f g : List Int} (hg : tn g ≤ d + 1) (h : Dec p ps d k f) : Dec p (moved p g ps) d k (padd p f g) := by
  have h1 := h.le
  have h2 := padd_len p f (trim g)
  rw [trim_length] at h2
  have h3 : padd p f (trim g) = padd p f g := same_of (padd_trim _ _ _) (padd_trim _ _ _) fun n => by rw [co_padd, co_padd, co_trim]
  rw [h3] at h2
  refine ⟨padd_el hp _ _, padd_trim _ _ _, by omega, ?_⟩
  rw [errs_moved hp hy]
  exact h.few
theorem dec_back {p : Int} (hp : 0 < p) {ps : List (Int × Int)} (hy : El p (py ps)) {d k : Nat} {f g : List Int} (hg : tn g ≤ d + 1) (h : Dec p (moved p g ps) d k f) : Dec p ps d k (psub p f g) := by
  have h1 := h.le
  have h2 := psub_len p f (trim g)
  rw [trim_length] at h2
  have h3 : psub p f (trim g) = psub p f g := same_of (psub_trim _ _ _) (psub_trim _ _ _) fun n => by rw [co_psub, co_psub, co_trim]
  rw [h3] at h2
  refine ⟨psub_el hp _ _, psub_trim _ _ _, by omega, ?_⟩
  have e := errs_moved hp hy (psub p f g) g
  rw [psub_padd hp h.el, h.tr] at e
  rw [← e]
  exact h.few
end Go.Proofs.Ytelkmbhhaopafaa
