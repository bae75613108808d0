/- DivMod of package poly: quotient and remainder, or ErrZero where the divisor is zero; nothing that lay is changed. Conditions: a supported prime, polynomials over its field of at most 400 coefficients. -/
import Derived.Test.YtkkfkkicbgejaaaPEval
import Derived.Test.YtkkfkkicbgejaaaPDivM
import Derived.Lib.SmallJoins
import Derived.Deep.RegionHeld3
namespace Go.Proofs.Ytkkfkkicbgejaaa
set_option maxRecDepth 100000
open Go.RowKit Go.Shelf PolyMath FieldMath
attribute [local go_sem] Oper.semAt_some

set_option maxRecDepth 100000 in
set_option maxHeartbeats 2000000 in
theorem div_zero (p : Int) (hp : OkP p) (A B : Option Addr) (ca cb : Nat) (a b : List Int) (lb : b.length ≤ 400) (w : World) (hrb : Sl w B cb b) (hb0 : tn b = 0) :
    Calls Try.prog 55 #[.int .u64 p, .slice A a.length ca, .slice B b.length cb] w fun e w' => e = .returned (.tuple #[.slice none 0 0, .slice none 0 0, .int .i64 8]) ∧ Below w.heap.size w w' := by
  have hbd := hp.bd
  have hB0 : Below w.heap.size w ((w.alloc (.cells #[.int .u64 p] 22)).alloc (.cells #[.slice B b.length cb] 33)) := ((Below.refl _ w).alloc (Nat.le_refl _) _).alloc (by simp) _
  have hdeg := degree_any B cb b _ (hrb.next hB0) (by omega)
  rw [hb0] at hdeg
  have hcf := fun W (h : Below w.heap.size w W) => coef_any B cb b (-1) W (hrb.next h)
  rw [show coI b (-1) = 0 from rfl] at hcf
  refine (callsIn_wide (n := 3)).1 ?_
  refine callsIn_of_wp_marks Try.func55 rfl trivial ?_ rfl
  simp only [Try.ntmps55, List.size_toArray, List.length_cons, List.length_nil, Nat.reduceAdd, Nat.reduceSub, Array.replicate_succ, Array.replicate_zero, List.push_toArray, List.append_toArray, List.nil_append, List.cons_append]
  gi_wp2_with (refine ⟨trivial, ?_⟩; gi_at_call 74; refine (callsIn_wide.2 hdeg).mono ?_; rintro e w' ⟨rfl, rfl⟩)
  rw [wpIn_wide]
  have hB1 := hB0.alloc hB0.size (.cells #[.int .i64 (-1)] 3)
  have b1 := ((Boxed.new w 22 (.int .u64 p)).alloc (.cells #[.slice B b.length cb] 33)).alloc (.cells #[.int .i64 (-1)] 3)
  have b2 := (Boxed.new (w.alloc (.cells #[.int .u64 p] 22)) 33 (.slice B b.length cb)).alloc (.cells #[.int .i64 (-1)] 3)
  have b3 := Boxed.new ((w.alloc (.cells #[.int .u64 p] 22)).alloc (.cells #[.slice B b.length cb] 33)) 3 (.int .i64 (-1))
  simp only [World.size_alloc] at b2 b3
  clear hdeg hB0
  generalize ((w.alloc (.cells #[.int .u64 p] 22)).alloc (.cells #[.slice B b.length cb] 33)).alloc (.cells #[.int .i64 (-1)] 3) = W3 at hB1 b1 b2 b3 ⊢
  have c1 := b1.cell
  have c2 := b2.cell
  have c3 := b3.cell
  go_region_held3 (fun w' => w'.cell? ⟨w.heap.size, 0, none⟩ = some (.int .u64 p) ∧ w'.cell? ⟨w.heap.size + 1, 0, none⟩ = some (.slice B b.length cb) ∧ w'.cell? ⟨w.heap.size + 1 + 1, 0, none⟩ = some (.int .i64 (-1))) (first | exact ⟨c1, c2, c3⟩ | exact ⟨Lib.cell?_alloc_some _ c1, Lib.cell?_alloc_some _ c2, Lib.cell?_alloc_some _ c3⟩)
    (first | (go_at_call 75; refine (hcf _ ?_).mono ?_; (first | exact hB1.drew | exact (hB1.alloc hB1.size _).drew); rintro e w' ⟨rfl, rfl⟩) | (go_at_call 71; refine (inverse_zero _ _).mono ?_; rintro e w' ⟨rfl, rfl⟩))
  all_goals
    gi_wp2
    exact ⟨_, results_tmp3 rfl _ _ _, rfl, (hB1.alloc hB1.size _).drew⟩

end Go.Proofs.Ytkkfkkicbgejaaa
