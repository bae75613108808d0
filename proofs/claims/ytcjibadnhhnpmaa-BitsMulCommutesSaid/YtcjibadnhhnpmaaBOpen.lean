/- A slice of words that came in reads as a list; and it reads behind the call as before where only new memory was made. No conditions. -/
import Derived.Test.YtcjibadnhhnpmaaFrame
import Derived.Test.YtcjibadnhhnpmaaBAwake
import Derived.ChangeSlices
import Derived.Carry
namespace Go.Proofs.Ytcjibadnhhnpmaa
open Go.ChangeShapes Go.WideShapes Go.ChangeAt Go.RowKit BitMath

theorem laidOut : laidOutB Try.prog = true := by kernel_rfl
theorem cells_u64 : Try.prog.cellsOf 22 = 1 := by kernel_rfl

/-- Each element is a word. -/
def Words (xs : List Int) : Prop := ∀ x ∈ xs, 0 ≤ x ∧ x ≤ 18446744073709551615

section
variable {H : Type} {enc : TypeId × Value → H}
theorem open_words {W : World} {base : Nat} {v : Value} {d : DataW H} {p : List MemPlace} (hval : Value.okWide Try.prog W .any base 24 v) (h : DataW.Trod enc Try.prog W 0 (fun _ => true) true 24 v d p)
    (hlt : ∀ x ∈ p, x.block < W.heap.size) : ∃ A xs c, v = .slice A xs.length c ∧ Rd W.heap.size W A xs ∧ Words xs := by
  obtain ⟨a0, len, cap, rfl⟩ := okWide_slice Try.underlying24 hval
  obtain ⟨fuel, hf⟩ := h
  rcases open_ints Try.underlying24 Try.underlying22 cells_u64 hf with ⟨hcs, hx⟩ | ⟨a, len', cap', zs, hcs, _, hl, hm, hz, hx, hcell, hwz⟩
  · simp [Value.cells] at hcs
    obtain ⟨rfl, rfl, rfl⟩ := hcs
    exact ⟨none, [], 0, rfl, Rd.nil, fun x hx => by cases hx⟩
  · simp [Value.cells] at hcs
    obtain ⟨rfl, rfl, rfl⟩ := hcs
    simp only [Prod.mk.injEq] at hx
    obtain ⟨rfl, rfl⟩ := hx
    simp only [if_true] at hz
    have hlen : (zs.take len).length = len := by rw [List.length_take]; omega
    refine ⟨some a, zs.take len, cap, by rw [hlen], fun hn => ?_, fun x hx => ?_⟩
    · have hpos : 0 < len := by rw [← hlen]; exact List.length_pos_iff.2 hn
      obtain ⟨b, off, spot⟩ := a
      have hspot : spot = none := by simpa [Addr.add] using World.cell?_spot (hcell 0 (by omega))
      subst hspot
      refine ⟨b, off, rfl, hlt (.cell b off) (MemPlace.mem_row.2 ⟨0, by omega, by simp⟩), fun j x hx => ?_⟩
      have hj : j < len := by have := (List.getElem?_eq_some_iff.1 hx).1; omega
      rw [← add_plain, hcell j (by omega)]
      rw [List.getElem?_take, if_pos hj] at hx
      rw [List.getD_eq_getElem?_getD, hx]; rfl
    · have h1 := hwz x (List.mem_of_mem_take hx)
      have e1 : IntKind.u64.min = 0 := rfl
      have e2 : IntKind.u64.max = 18446744073709551615 := rfl
      simp only [Lit.wf, Bool.and_eq_true, decide_eq_true_eq] at h1
      omega

theorem stays {W W' : World} {v : Value} {d : DataW H} {p : List MemPlace} (h : DataW.Trod enc Try.prog W 0 (fun _ => true) true 24 v d p) (hb : Below W.heap.size W W') (hlt : ∀ x ∈ p, x.block < W.heap.size) (sp : Nat → Bool) (hsp : ∀ x ∈ p, sp x.block = true) :
    DataW.Trod enc Try.prog W' 0 sp true 24 v d p :=
  WideElems.Trod_stays laidOut (by kernel_rfl) (of_decide_eq_true (by kernel_rfl)) h (fun x hx => hb.same (hlt x hx)) hsp
end

theorem small100 (A : Option Addr) (xs : List Int) (c B : Nat) (w : World) (h : Rd B w A xs) : Calls Try.prog 18 #[.slice A xs.length c, .int .i64 100] w fun e w' => e = .returned (.bool (isSmall xs 100)) ∧ w = w' := small_any A xs c B 100 w h (by decide)
theorem small60 (A : Option Addr) (xs : List Int) (c B : Nat) (w : World) (h : Rd B w A xs) : Calls Try.prog 18 #[.slice A xs.length c, .int .i64 60] w fun e w' => e = .returned (.bool (isSmall xs 60)) ∧ w = w' := small_any A xs c B 60 w h (by decide)
theorem small20 (A : Option Addr) (xs : List Int) (c B : Nat) (w : World) (h : Rd B w A xs) : Calls Try.prog 18 #[.slice A xs.length c, .int .i64 20] w fun e w' => e = .returned (.bool (isSmall xs 20)) ∧ w = w' := small_any A xs c B 20 w h (by decide)
theorem isSmall_of {xs : List Int} {m : Nat} (h : Bits xs) (hl : xs.length ≤ m) : isSmall xs m = true := by unfold isSmall; rw [decide_eq_true hl, isBits_of h]; rfl
theorem isSmall_bits {xs : List Int} {m : Nat} (hw : Words xs) (h : isSmall xs m = true) : xs.length ≤ m ∧ Bits xs := by
  unfold isSmall at h
  rw [Bool.and_eq_true] at h
  exact ⟨of_decide_eq_true h.1, (isBits_iff fun x hx => (hw x hx).1).1 h.2⟩

theorem val_add {a b : List Int} (ha : Bits a) (hb : Bits b) : val (digs (val a + val b) (max a.length b.length + 1)) = val a + val b := by
  have a1 := val_nonneg ha
  have a2 := val_nonneg hb
  have a3 := Int.lt_of_lt_of_le (val_lt ha) (p2le (Nat.le_max_left a.length b.length))
  have a4 := Int.lt_of_lt_of_le (val_lt hb) (p2le (Nat.le_max_right a.length b.length))
  exact val_digs_of (by omega) (by rw [p2s]; omega)
theorem val_mul {a b : List Int} (ha : Bits a) (hb : Bits b) : val (digs (val a * val b) (a.length + b.length)) = val a * val b :=
  val_digs_of (Int.mul_nonneg (val_nonneg ha) (val_nonneg hb)) (prod_lt ha hb)
theorem val_sub {a b : List Int} (ha : Bits a) (hb : Bits b) : val (digs (ssub (val a) (val b)) a.length) = ssub (val a) (val b) := by
  have a1 := val_nonneg ha
  have a2 := val_nonneg hb
  have a3 := val_lt ha
  unfold ssub
  split <;> exact val_digs_of (by omega) (by omega)

end Go.Proofs.Ytcjibadnhhnpmaa
