/- Arguments of layer 6's laws: a word, a slice of words, a slice of slices of words, the struct Operands; they read behind the call as before where only new memory was made. No conditions. -/
import Derived.Test.YtgkhngiiimnchaaFrame
import Derived.Test.YtgkhngiiimnchaaRAwake
import Derived.ChangeSlices
import Derived.Carry
import Derived.Deep.Matrix
namespace Go.Proofs.Ytgkhngiiimnchaa
open Go.ChangeShapes Go.WideShapes Go.ChangeAt Go.RowKit Go.Joins Go.Deep Go.WideElems PolyMath MatMath

/-- Words. -/
def Words (xs : List Int) : Prop := ∀ x ∈ xs, 0 ≤ x ∧ x ≤ 18446744073709551615
theorem laidOut : laidOutB Try.prog = true := by kernel_rfl
theorem cells_u64 : Try.prog.cellsOf 22 = 1 := by kernel_rfl
theorem cells_row : Try.prog.cellsOf 24 = 1 := by kernel_rfl
theorem cells_ops : Try.prog.cellsOf 26 = 4 := by kernel_rfl
/-- A word. -/
def Wd (x : Int) : Prop := 0 ≤ x ∧ x ≤ 18446744073709551615

section
variable {H : Type} {enc : TypeId × Value → H}
theorem open_sl {W : World} {v : Value} {fuel : Nat} {y : DataW H × List MemPlace} (hf : DataW.trod enc Try.prog W 0 (fun _ => true) true fuel 24 [v] = some y) (hlt : ∀ x ∈ y.2, x.block < W.heap.size) :
    ∃ A xs c, v = .slice A xs.length c ∧ Sl W A c xs ∧ Words xs := by
  rcases open_ints Try.underlying24 Try.underlying22 cells_u64 hf with ⟨hcs, hx⟩ | ⟨a, len', cap', zs, hcs, _, hl, hm, hz, hx, hcell, hwz⟩
  · injection hcs with hcs _
    subst hcs
    exact ⟨none, [], 0, rfl, Sl.nothing _, fun x hx => (by cases hx)⟩
  · injection hcs with hcs _
    subst hcs hx
    simp only [if_true] at hz
    have hlen : (zs.take len').length = len' := by rw [List.length_take]; omega
    refine ⟨some a, zs.take len', cap', by rw [hlen], ⟨by omega, (fun h => by cases h), fun ad hA hn => ?_⟩, fun x hx => ?_⟩
    · injection hA with hA
      subst hA
      have hpos : 0 < len' := by rw [← hlen]; exact List.length_pos_iff.2 hn
      obtain ⟨b, off, spot⟩ := a
      have hspot : spot = none := by simpa [Addr.add] using World.cell?_spot (hcell 0 (by omega))
      subst hspot
      refine ⟨b, off, rfl, hlt (.cell b off) (MemPlace.mem_row.2 ⟨0, by omega, by simp⟩), fun j x hx => ?_⟩
      have hj : j < len' := by have := (List.getElem?_eq_some_iff.1 hx).1; omega
      rw [← add_plain, hcell j (by omega)]
      rw [List.getElem?_take, if_pos hj] at hx
      rw [List.getD_eq_getElem?_getD, hx]; rfl
    · have h1 := hwz x (List.mem_of_mem_take hx)
      have e1 : IntKind.u64.min = 0 := rfl
      have e2 : IntKind.u64.max = 18446744073709551615 := rfl
      simp only [Lit.wf, Bool.and_eq_true, decide_eq_true_eq] at h1
      omega

theorem bounds_w {a : Int} (h : (Lit.int .u64 a).wf = true) : 0 ≤ a ∧ a ≤ 18446744073709551615 := by
  have e1 : IntKind.u64.min = 0 := rfl
  have e2 : IntKind.u64.max = 18446744073709551615 := rfl
  simp only [Lit.wf, Bool.and_eq_true, decide_eq_true_eq] at h
  omega


theorem arg_word {W : World} {base : Nat} {v : Value} {d : DataW H} {p : List MemPlace} (hval : Value.okWide Try.prog W .any base 22 v) (h : DataW.Trod enc Try.prog W 0 (fun _ => true) true 22 v d p) : ∃ x, v = .int .u64 x ∧ Wd x := by
  obtain ⟨n, rfl, rfl, rfl, wf⟩ := open_int Try.underlying22 hval h
  exact ⟨n, rfl, bounds_w wf⟩
theorem arg_sl {W : World} {base : Nat} {v : Value} {d : DataW H} {p : List MemPlace} (hval : Value.okWide Try.prog W .any base 24 v) (h : DataW.Trod enc Try.prog W 0 (fun _ => true) true 24 v d p) (hlt : ∀ x ∈ p, x.block < W.heap.size) :
    ∃ A xs c, v = .slice A xs.length c ∧ Sl W A c xs ∧ Words xs := by
  obtain ⟨a0, len, cap, rfl⟩ := okWide_slice Try.underlying24 hval
  obtain ⟨fuel, hf⟩ := h
  simp only [Value.cells] at hf
  exact open_sl hf hlt
theorem open_ll {W : World} {v : Value} {fuel : Nat} {y : DataW H × List MemPlace} (hf : DataW.trod enc Try.prog W 0 (fun _ => true) true fuel 23 [v] = some y) (hlt : ∀ x ∈ y.2, x.block < W.heap.size) :
    ∃ A rows c, v = .slice A rows.length c ∧ Sll W A c rows ∧ (∀ r ∈ rows, Words r) ∧ rows.length ≤ 9223372036854775807 := by
  rcases Deep.open_int_rows Try.underlying23 Try.underlying24 Try.underlying22 cells_row cells_u64 hf with ⟨hcs, hx⟩ | ⟨a, len', cap', A, L, C, Z, hcs, _, hl, hm, hx, hall⟩
  · injection hcs with hcs _
    subst hcs
    exact ⟨none, [], 0, rfl, Sll.nothing W, fun l hl => (by cases hl), Nat.zero_le _⟩
  · injection hcs with hcs _
    subst hcs hx
    have hlen : ∀ r, r < len' → ((Z r).take (L r)).length = L r := fun r hr => by
      obtain ⟨_, h1, _, h3, _⟩ := hall r (by omega)
      rw [List.length_take]
      omega
    refine ⟨some a, (List.range len').map fun r => (Z r).take (L r), cap', by rw [List.length_map, List.length_range], ⟨by rw [List.length_map, List.length_range]; omega, (fun h => by cases h), fun ad e hn => ?_⟩, fun l hl x hx => ?_, by rw [List.length_map, List.length_range]; simp only [maxLen] at hm; omega⟩
    · injection e with e
      subst e
      have hpos : 0 < len' := by
        rcases Nat.eq_zero_or_pos len' with h0 | h0
        · rw [h0] at hn; exact absurd rfl hn
        · exact h0
      obtain ⟨b, off, spot⟩ := a
      have hspot : spot = none := by simpa [Addr.add] using World.cell?_spot (hall 0 (by omega)).1
      subst hspot
      refine ⟨b, off, rfl, hlt (.cell b off) (List.mem_append_left _ (MemPlace.mem_row.2 ⟨0, by omega, by simp⟩)), fun j l hl => ?_⟩
      rw [List.getElem?_map] at hl
      obtain ⟨r, hr, rfl⟩ := Option.map_eq_some_iff.1 hl
      obtain ⟨hjl, rfl⟩ := List.getElem?_eq_some_iff.1 hr
      rw [List.length_range] at hjl
      simp only [List.getElem_range]
      obtain ⟨h1, h2, h3, h4, h5, h6, h7⟩ := hall j (by omega)
      refine ⟨A j, C j, by rw [hlen j hjl, ← add_plain]; exact h1, by rw [hlen j hjl]; omega, h6, fun ar hA hne => ?_⟩
      have hLp : 0 < L j := by
        rcases Nat.eq_zero_or_pos (L j) with h0 | h0
        · rw [h0, List.take_zero] at hne; exact absurd rfl hne
        · exact h0
      obtain ⟨_, hc⟩ := h7 ar hA
      obtain ⟨b2, off2, spot2⟩ := ar
      have hspot2 : spot2 = none := by simpa [Addr.add] using World.cell?_spot (hc 0 (by omega))
      subst hspot2
      refine ⟨b2, off2, rfl, ?_, fun i x hx => ?_⟩
      · refine hlt (.cell b2 off2) (List.mem_append_right _ (List.mem_flatMap.2 ⟨j, List.mem_range.2 (by omega), ?_⟩))
        simp only [Deep.intRowPlaces, hA]
        exact MemPlace.mem_row.2 ⟨0, by omega, by simp⟩
      · have hi : i < L j := by have := (List.getElem?_eq_some_iff.1 hx).1; rw [hlen j hjl] at this; exact this
        rw [← add_plain, hc i (by omega)]
        rw [List.getElem?_take, if_pos hi] at hx
        rw [List.getD_eq_getElem?_getD, hx]; rfl
    · obtain ⟨r, hr, rfl⟩ := List.mem_map.1 hl
      rw [List.mem_range] at hr
      obtain ⟨_, _, _, _, h5, _⟩ := hall r (by omega)
      have h1 := h5 x (List.mem_of_mem_take hx)
      have e1 : IntKind.u64.min = 0 := rfl
      have e2 : IntKind.u64.max = 18446744073709551615 := rfl
      simp only [Lit.wf, Bool.and_eq_true, decide_eq_true_eq] at h1
      omega
theorem arg_ll {W : World} {base : Nat} {v : Value} {d : DataW H} {p : List MemPlace} (hval : Value.okWide Try.prog W .any base 23 v) (h : DataW.Trod enc Try.prog W 0 (fun _ => true) true 23 v d p) (hlt : ∀ x ∈ p, x.block < W.heap.size) :
    ∃ A rows c, v = .slice A rows.length c ∧ Sll W A c rows ∧ (∀ r ∈ rows, Words r) ∧ rows.length ≤ 9223372036854775807 := by
  obtain ⟨a0, len, cap, rfl⟩ := okWide_slice Try.underlying23 hval
  obtain ⟨fuel, hf⟩ := h
  simp only [Value.cells] at hf
  exact open_ll hf hlt
theorem arg_ops {W : World} {base : Nat} {v : Value} {d : DataW H} {p : List MemPlace} (hval : Value.okWide Try.prog W .any base 26 v) (h : DataW.Trod enc Try.prog W 0 (fun _ => true) true 26 v d p) (hlt : ∀ x ∈ p, x.block < W.heap.size) :
    ∃ P A a ca B b cb V x cv, v = .agg #[.int .u64 P, .slice A a.length ca, .slice B b.length cb, .slice V x.length cv] ∧ Wd P ∧ Sll W A ca a ∧ (∀ r ∈ a, Words r) ∧ Sll W B cb b ∧ (∀ r ∈ b, Words r) ∧ Sl W V cv x ∧ Words x := by
  obtain ⟨v0, v1, v2, v3, y0, y1, y2, y3, n, rfl, _, rfl, h0, h1, h2, h3⟩ := open_agg4 Try.underlying26 (by kernel_rfl) cells_ops hval h
  obtain ⟨a0, e0, rfl, w0⟩ := DataW.trod_int Try.underlying22 h0
  obtain ⟨A, xa, ca, rfl, sa, wa, _⟩ := open_ll h1 (fun x hx => hlt x (by simp [hx]))
  obtain ⟨B, xb, cb, rfl, sb, wb, _⟩ := open_ll h2 (fun x hx => hlt x (by simp [hx]))
  obtain ⟨V, xv, cv, rfl, sv, wv⟩ := open_sl h3 (fun x hx => hlt x (by simp [hx]))
  simp at e0
  subst e0
  exact ⟨a0, A, xa, ca, B, xb, cb, V, xv, cv, rfl, bounds_w w0, sa, wa, sb, wb, sv, wv⟩

theorem stay_word {W W' : World} {v : Value} {d : DataW H} {p : List MemPlace} (h : DataW.Trod enc Try.prog W 0 (fun _ => true) true 22 v d p) (hb : Below W.heap.size W W') (hlt : ∀ x ∈ p, x.block < W.heap.size) (sp : Nat → Bool) (hsp : ∀ x ∈ p, sp x.block = true) :
    DataW.Trod enc Try.prog W' 0 sp true 22 v d p :=
  WideElems.Trod_stays laidOut (by kernel_rfl) (of_decide_eq_true (by kernel_rfl)) h (fun x hx => hb.same (hlt x hx)) hsp
theorem stays {W W' : World} {v : Value} {d : DataW H} {p : List MemPlace} (h : DataW.Trod enc Try.prog W 0 (fun _ => true) true 24 v d p) (hb : Below W.heap.size W W') (hlt : ∀ x ∈ p, x.block < W.heap.size) (sp : Nat → Bool) (hsp : ∀ x ∈ p, sp x.block = true) :
    DataW.Trod enc Try.prog W' 0 sp true 24 v d p :=
  WideElems.Trod_stays laidOut (by kernel_rfl) (of_decide_eq_true (by kernel_rfl)) h (fun x hx => hb.same (hlt x hx)) hsp
theorem stay_ll {W W' : World} {v : Value} {d : DataW H} {p : List MemPlace} (h : DataW.Trod enc Try.prog W 0 (fun _ => true) true 23 v d p) (hb : Below W.heap.size W W') (hlt : ∀ x ∈ p, x.block < W.heap.size) (sp : Nat → Bool) (hsp : ∀ x ∈ p, sp x.block = true) :
    DataW.Trod enc Try.prog W' 0 sp true 23 v d p :=
  WideElems.Trod_stays laidOut (by kernel_rfl) (of_decide_eq_true (by kernel_rfl)) h (fun x hx => hb.same (hlt x hx)) hsp
theorem stay_ops {W W' : World} {v : Value} {d : DataW H} {p : List MemPlace} (h : DataW.Trod enc Try.prog W 0 (fun _ => true) true 26 v d p) (hb : Below W.heap.size W W') (hlt : ∀ x ∈ p, x.block < W.heap.size) (sp : Nat → Bool) (hsp : ∀ x ∈ p, sp x.block = true) :
    DataW.Trod enc Try.prog W' 0 sp true 26 v d p :=
  WideElems.Trod_stays laidOut (by kernel_rfl) (of_decide_eq_true (by kernel_rfl)) h (fun x hx => hb.same (hlt x hx)) hsp
end

theorem el_of {p : Int} {xs : List Int} (hw : Words xs) (h : ∀ x ∈ xs, x < p) : El p xs := fun x hx => ⟨(hw x hx).1, h x hx⟩
/-- A number is a supported prime or not. -/
theorem sup_cases (p : Int) : (qOf p != 0) = false ∨ ((qOf p != 0) = true ∧ FieldMath.OkP p) := by
  by_cases h : FieldMath.OkP p
  · cases hb : (qOf p != 0) with
    | false => exact .inl rfl
    | true => exact .inr ⟨rfl, h⟩
  · exact .inl (by rw [qOf_other p h]; rfl)

/-- What a fair matrix is. -/
theorem fair_is {p : Int} {rows : List (List Int)} {most : Nat} (hm : most ≤ 100) (hw : ∀ r ∈ rows, Words r) (h : fairB p rows most = true) : FieldMath.OkP p ∧ Sized rows ∧ (∀ r ∈ rows, El p r) ∧ rows.length ≤ most ∧ ∀ i, (ro rows i).length ≤ most := by
  unfold fairB at h
  rw [Bool.and_eq_true, decide_eq_true_eq] at h
  obtain ⟨h1, h2, h3⟩ := h
  have hr : ∀ r ∈ rows, r.length ≤ most ∧ ∀ x ∈ r, x < p := fun r hr => by
    obtain ⟨i, hi⟩ := List.mem_iff_getElem?.1 hr
    have h4 := h3 i (List.getElem?_eq_some_iff.1 hi).1
    rw [ro_at hi] at h4
    exact of_decide_eq_true h4
  have hl : ∀ i, (ro rows i).length ≤ most := fun i => by
    by_cases h : i < rows.length
    · exact (hr _ (List.mem_of_getElem? (ro_get h))).1
    · unfold ro; rw [List.getElem?_eq_none (by omega)]; exact Nat.zero_le _
  refine ⟨?_, ⟨by omega, fun i => Nat.le_trans (hl i) hm⟩, fun r hr' => el_of (hw r hr') (hr r hr').2, h2, hl⟩
  rcases sup_cases p with h4 | ⟨_, h4⟩
  · rw [h1] at h4; cases h4
  · exact h4
theorem bel_is {p : Int} {xs : List Int} {most : Nat} (hw : Words xs) (h : belB p xs most = true) : El p xs ∧ xs.length ≤ most := by
  have := of_decide_eq_true h
  exact ⟨el_of hw this.2, this.1⟩
end Go.Proofs.Ytgkhngiiimnchaa
