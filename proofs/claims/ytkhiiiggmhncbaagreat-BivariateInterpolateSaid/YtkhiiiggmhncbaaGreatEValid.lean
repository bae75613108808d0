/- Fair of the reference of layer 10, validRows and validTranslation of its laws; only new memory is made. No conditions. -/
import Derived.Test.YtkhiiiggmhncbaaGreatESym
import Derived.Test.YtkhiiiggmhncbaaGreatERef
import Derived.Test.YtkhiiiggmhncbaaGreatME
namespace Go.Proofs.YtkhiiiggmhncbaaGreat
set_option maxRecDepth 100000
open Go.RowKit PolyMath FieldMath MatMath

def fair10B (p : Int) (S : List (List Int)) (most : Nat) : Bool := fairB p S most && sqB S
def vrB (p : Int) (xs : List Int) (rows : List (List Int)) : Bool := fairB p rows 8 && belB p xs 8
theorem vr_any (p T : Int) (A B : Option Addr) (ca cb n m : Nat) (xs : List Int) (rows : List (List Int)) (hx : xs.length = n) (hr : rows.length = m) (w : World) (sx : Sl w A ca xs) (sr : Sll w B cb rows) :
    Calls Tryz.prog 4 #[.agg #[.int .u64 p, .int .i64 T, .slice A n ca, .slice B m cb]] w fun e w' => e = .returned (.bool (vrB p xs rows)) ∧ Below w.heap.size w w' := by
  have hB0 := bnew (Below.refl w.heap.size w) (.cells #[.int .u64 p, .int .i64 T, .slice A n ca, .slice B m cb] 26) (Nat.le_refl _)
  have hf := fair_any p B cb 8 rows (by decide) _ (sr.push (.cells #[.int .u64 p, .int .i64 T, .slice A n ca, .slice B m cb] 26))
  have hq := fun W (hW : Below w.heap.size w W) => below_any6 p A ca 8 xs (by decide) W (sx.next hW)
  rw [hr] at hf
  rw [hx] at hq
  have hc0 : ∀ (o : Nat) (v : Value), #[Value.int .u64 p, .int .i64 T, .slice A n ca, .slice B m cb][o]? = some v → (w.alloc (.cells #[.int .u64 p, .int .i64 T, .slice A n ca, .slice B m cb] 26)).cell? ⟨w.heap.size, o, none⟩ = some v := fun o v hv => by
    rw [cell_of_row _ w.heap.size o _ 26 (0, 0) (World.alloc_heap_new w _)]; exact hv
  have hs0 : (w.alloc (.cells #[.int .u64 p, .int .i64 T, .slice A n ca, .slice B m cb] 26)).heap.size = w.heap.size + 1 := World.size_alloc _ _
  have c0 := hc0 0 _ rfl
  have c2 := hc0 2 _ rfl
  clear hx hr hc0
  cases he : fairB p rows 8 with
  | false =>
    have hR : Hid (vrB p xs rows = false) := Lib.hid (by unfold vrB; rw [he]; rfl)
    rw [he] at hf
    clear he hq c0 c2 hs0
    go_enter Tryz.func4, Tryz.ntmps4
    go_wp2_with fail
    refine hf.mono ?_; rintro e w1 ⟨rfl, hb⟩
    go_wp2
    go_ret
    rw [hR.out]
    exact ⟨rfl, hB0.trans (hb.mono hB0.size)⟩
  | true =>
    have hR : Hid (vrB p xs rows = belB p xs 8) := Lib.hid (by unfold vrB; rw [he]; rfl)
    rw [he] at hf
    have HC0 := Lib.hid c0
    have HC2 := Lib.hid c2
    have HS0 := Lib.hid hs0
    clear he c0 c2 hs0
    generalize belB p xs 8 = q at hR hq
    go_enter Tryz.func4, Tryz.ntmps4
    go_wp2_with fail
    refine hf.mono ?_; rintro e w1 ⟨rfl, hb⟩
    have d0 := (hb.cell (p := ⟨w.heap.size, 0, none⟩) (by rw [HS0.out]; exact Nat.lt_succ_self _)).trans HC0.out
    have d2 := (hb.cell (p := ⟨w.heap.size, 2, none⟩) (by rw [HS0.out]; exact Nat.lt_succ_self _)).trans HC2.out
    have hB1 := hB0.trans (hb.mono hB0.size)
    clear hb hB0
    go_wp2_with fail
    refine (hq w1 hB1).mono ?_; rintro e w' ⟨rfl, rfl⟩
    go_wp2
    go_ret
    rw [hR.out]
    exact ⟨rfl, hB1⟩

def vtB (p : Int) (S : List (List Int)) (xs : List Int) (D X : Int) : Bool := fair10B p S 6 && symB S && belB p xs 6 && decide (xs.length + 1 = S.length) && decide xs.Nodup && decide (D < p) && decide (X < p) && decide (∀ x ∈ xs, x ≠ 0)
theorem vt_false {p : Int} {S : List (List Int)} {xs : List Int} {D X : Int} (h : ¬ (fair10B p S 6 = true ∧ symB S = true ∧ belB p xs 6 = true ∧ xs.length + 1 = S.length ∧ xs.Nodup ∧ D < p ∧ X < p ∧ ∀ x ∈ xs, x ≠ 0)) : vtB p S xs D X = false := by
  cases hv : vtB p S xs D X with
  | false => rfl
  | true =>
    unfold vtB at hv
    simp only [Bool.and_eq_true, decide_eq_true_eq] at hv
    exact absurd ⟨hv.1.1.1.1.1.1.1, hv.1.1.1.1.1.1.2, hv.1.1.1.1.1.2, hv.1.1.1.1.2, hv.1.1.1.2, hv.1.1.2, hv.1.2, hv.2⟩ h
theorem vt_true {p : Int} {S : List (List Int)} {xs : List Int} {D X : Int} : vtB p S xs D X = true ↔ (fair10B p S 6 = true ∧ symB S = true ∧ belB p xs 6 = true ∧ xs.length + 1 = S.length ∧ xs.Nodup ∧ D < p ∧ X < p ∧ ∀ x ∈ xs, x ≠ 0) := by
  unfold vtB
  simp only [Bool.and_eq_true, decide_eq_true_eq, and_assoc]
end Go.Proofs.YtkhiiiggmhncbaaGreat
