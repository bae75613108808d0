/- ExtendCoalition and HonestParties of package params at valid coalitions. Nothing that lay is changed. Conditions: a valid coalition. -/
import Derived.Test.YtbhphamfkhccpaaFArr
import Derived.Deep.RegionHeld3
namespace Go.Proofs.Ytbhphamfkhccpaa
set_option maxRecDepth 100000
open Go.RowKit PolyMath FieldMath PartyMath

/-- What a valid coalition is. -/
structure Coal (p : Int) (N T : Nat) (xs : List Int) : Prop where
  ok : OkP p
  n4 : 4 ≤ N
  n13 : N ≤ 13
  t1 : 1 ≤ T
  t3 : 3 * T < N
  len : xs.length ≤ T
  asc : asc N 0 xs = true
theorem Coal.of {p n t : Int} {xs : List Int} (h : vC p n t xs = true) : ∃ N T : Nat, n = N ∧ t = T ∧ Coal p N T xs := by
  unfold vC at h
  rw [Bool.and_eq_true, Bool.and_eq_true, decide_eq_true_eq] at h
  obtain ⟨h1, h2, h3⟩ := h
  obtain ⟨hp, n1, n2, t1, t2⟩ := vS_is.1 h1
  obtain ⟨N, rfl⟩ := Int.eq_ofNat_of_zero_le (show 0 ≤ n by omega)
  obtain ⟨T, rfl⟩ := Int.eq_ofNat_of_zero_le (show 0 ≤ t by omega)
  exact ⟨N, T, rfl, rfl, hp, by omega, by omega, by omega, by omega, by omega, h3⟩
theorem Coal.is {p : Int} {N T : Nat} {xs : List Int} (h : Coal p N T xs) : vC p N T xs = true := by
  unfold vC
  rw [vS_is.2 ⟨h.ok, by have := h.n4; omega, by have := h.n13; omega, by have := h.t1; omega, by have := h.t3; omega⟩, decide_eq_true (show (xs.length : Int) ≤ T by have := h.len; omega), h.asc]
  rfl
theorem Coal.mem {p : Int} {N T : Nat} {xs : List Int} (h : Coal p N T xs) : ∀ x ∈ xs, 1 ≤ x ∧ x ≤ N := fun x hx => by have := ((asc_iff _ _ _).1 h.asc).1 x hx; omega
theorem Coal.b13 {p : Int} {N T : Nat} {xs : List Int} (h : Coal p N T xs) : ∀ x ∈ xs, 0 ≤ x ∧ x ≤ 13 := fun x hx => by have := h.mem x hx; have := h.n13; omega
theorem Coal.nums {p : Int} {N T : Nat} {xs : List Int} (h : Coal p N T xs) : Nums xs := fun x hx => by have := h.b13 x hx; omega
theorem Coal.l1000 {p : Int} {N T : Nat} {xs : List Int} (h : Coal p N T xs) : xs.length ≤ 1000 := by have := h.len; have := h.t3; have := h.n13; omega
/-- The extended coalition is one, too. -/
theorem Coal.ext {p : Int} {N T : Nat} {xs : List Int} (h : Coal p N T xs) : Coal p N T (ext xs N (T - xs.length)) where
  ok := h.ok
  n4 := h.n4
  n13 := h.n13
  t1 := h.t1
  t3 := h.t3
  len := by have := h.len; have := h.t3; rw [ext_len h.asc (by omega)]; omega
  asc := asc_sel _ _
theorem Coal.full {p : Int} {N T : Nat} {xs : List Int} (h : Coal p N T xs) : (PartyMath.ext xs N (T - xs.length)).length = T := by have := h.len; have := h.t3; rw [ext_len h.asc (by omega)]; omega

theorem hon_sel (xs : List Int) (N : Nat) : sel (fun i => decide (i ∈ xs) == false) N = hon xs N := by
  unfold hon
  congr 1
  funext i
  by_cases h : i ∈ xs <;> simp [h]
theorem sel_true (f : Int → Bool) (N : Nat) : sel (fun i => f i == true) N = sel f N := by
  congr 1
  funext i
  cases f i <;> rfl

end Go.Proofs.Ytbhphamfkhccpaa
