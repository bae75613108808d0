/- Arguments of layer 3's laws: slices of words, slices of such slices and strings read as lists, and they read behind the call as before where only new memory was made; what the listed variables hold. No conditions. -/
import Derived.Test.YtblfmbkkeieiaaaDoorFrame
import Derived.Test.YtblfmbkkeieiaaaDoorCards
import Derived.Test.YtblfmbkkeieiaaaDoorTie
import Derived.Test.YtblfmbkkeieiaaaDoorCAwake
import Derived.ChangeSlices
import Derived.Carry
import Derived.Deep.Matrix
import Derived.SizedLaws
import Derived.Stop.LaidErr
import Derived.MakeChecks
import Derived.Lib.LaidTab
namespace Go.Proofs.YtblfmbkkeieiaaaDoor
open Go.ChangeShapes Go.WideShapes Go.ChangeAt Go.RowKit CodMath

theorem laidOut : laidOutB Tryd.prog = true := by kernel_rfl
theorem cells_u64 : Tryd.prog.cellsOf 40 = 1 := by kernel_rfl
theorem cells_row : Tryd.prog.cellsOf 22 = 1 := by kernel_rfl

/-! ### The listed variables -/
theorem gPow : (Tryd.prog.globals[0]?).map (·.type) = some 84 := by kernel_rfl
theorem cells_pow : Tryd.prog.cellsOf 84 = 20 := by kernel_rfl
theorem gErr : Tryd.prog.globalNamed "strconv.ErrRange" = some 2 := by kernel_rfl
theorem gErrType : (Tryd.prog.globals[2]?).map (·.type) = some 57 := by kernel_rfl
theorem cells_es : Tryd.prog.cellsOf 96 = 1 := by kernel_rfl
theorem cells_str : Tryd.prog.cellsOf 9 = 1 := by kernel_rfl
theorem star : "*" ++ "errors.errorString" = "*errors.errorString" := by decide
theorem row_es (u : TypeId) (h : Tryd.prog.typeName? 3 u = some "*errors.errorString") : u = 94 :=
  typeName_ptr_named (nm := "errors.errorString") (by rw [star]; kernel_rfl) (by kernel_rfl) (by decide) u (by rw [star]; exact h)

theorem env_of {W : World} (h : laidMetH Tryd.prog Rows.codecEncodeWordsRow.laid W) : Env W := by
  rw [MakeChecks.laidMetH_plain _ _ _ (by kernel_rfl)] at h
  have h2 := h.tail.tail
  refine ⟨Lib.tabIs_of_head gTab gPow Tryd.underlying84 Tryd.underlying40 cells_u64 cells_pow h2, ?_⟩
  obtain ⟨a1, s1, hv1, -, -, -⟩ := laid_sentinel h2.tail gErr gErrType Tryd.underlying57 row_es Tryd.underlying94 Tryd.underlying96 rfl rfl Tryd.underlying9 cells_es cells_str
  exact ⟨_, by have h0 := World.var?_cell gErr hv1 0; simpa using h0, Or.inr ⟨_, _, rfl⟩⟩

/-! ### Slices of words -/
section
variable {H : Type} {enc : TypeId × Value → H}
theorem open_words {W : World} {base : Nat} {v : Value} {d : DataW H} {p : List MemPlace} (hval : Value.okWide Tryd.prog W .any base 22 v) (h : DataW.Trod enc Tryd.prog W 0 (fun _ => true) true 22 v d p)
    (hlt : ∀ x ∈ p, x.block < W.heap.size) : ∃ A xs c, v = .slice A xs.length c ∧ Rd W.heap.size W A xs ∧ Words xs ∧ (A = none → c = 0) := by
  obtain ⟨a0, len, cap, rfl⟩ := okWide_slice Tryd.underlying22 hval
  obtain ⟨fuel, hf⟩ := h
  rcases open_ints Tryd.underlying22 Tryd.underlying40 cells_u64 hf with ⟨hcs, hx⟩ | ⟨a, len', cap', zs, hcs, _, hl, hm, hz, hx, hcell, hwz⟩
  · simp [Value.cells] at hcs
    obtain ⟨rfl, rfl, rfl⟩ := hcs
    exact ⟨none, [], 0, rfl, Rd.nil, fun x hx => (by cases hx), fun _ => rfl⟩
  · simp [Value.cells] at hcs
    obtain ⟨rfl, rfl, rfl⟩ := hcs
    simp only [Prod.mk.injEq] at hx
    obtain ⟨rfl, rfl⟩ := hx
    simp only [if_true] at hz
    have hlen : (zs.take len).length = len := by rw [List.length_take]; omega
    refine ⟨some a, zs.take len, cap, by rw [hlen], fun hn => ?_, fun x hx => ?_, fun h => by cases h⟩
    · have hpos : 0 < len := by rw [← hlen]; exact List.length_pos_iff.2 hn
      obtain ⟨b, off, spot⟩ := a
      have hspot : spot = none := by simpa [Addr.add] using World.cell?_spot (hcell 0 (by omega))
      subst hspot
      refine ⟨b, off, rfl, hlt (.cell b off) (MemPlace.mem_row.2 ⟨0, by omega, by simp⟩), fun j x hx => ?_⟩
      have hj : j < len := by have := (List.getElem?_eq_some_iff.1 hx).1; omega
      rw [← add_plain, hcell j (by omega)]
      rw [List.getElem?_take, if_pos hj] at hx
      rw [List.getD_eq_getElem?_getD, hx]; rfl
    · have h1 := hwz x (List.mem_of_mem_take hx)
      have e1 : IntKind.u64.min = 0 := rfl
      have e2 : IntKind.u64.max = 18446744073709551615 := rfl
      simp only [Lit.wf, Bool.and_eq_true, decide_eq_true_eq] at h1
      omega
theorem stays {W W' : World} {v : Value} {d : DataW H} {p : List MemPlace} (h : DataW.Trod enc Tryd.prog W 0 (fun _ => true) true 22 v d p) (hb : Below W.heap.size W W') (hlt : ∀ x ∈ p, x.block < W.heap.size) (sp : Nat → Bool) (hsp : ∀ x ∈ p, sp x.block = true) :
    DataW.Trod enc Tryd.prog W' 0 sp true 22 v d p :=
  WideElems.Trod_stays laidOut (by kernel_rfl) (of_decide_eq_true (by kernel_rfl)) h (fun x hx => hb.same (hlt x hx)) hsp
theorem staysL {W W' : World} {v : Value} {d : DataW H} {p : List MemPlace} (h : DataW.Trod enc Tryd.prog W 0 (fun _ => true) true 31 v d p) (hb : Below W.heap.size W W') (hlt : ∀ x ∈ p, x.block < W.heap.size) (sp : Nat → Bool) (hsp : ∀ x ∈ p, sp x.block = true) :
    DataW.Trod enc Tryd.prog W' 0 sp true 31 v d p :=
  WideElems.Trod_stays laidOut (by kernel_rfl) (of_decide_eq_true (by kernel_rfl)) h (fun x hx => hb.same (hlt x hx)) hsp

/-! ### Slices of slices of words -/
theorem weights_all {P : Program} {e : TypeId} {D : DataW H} {ds : List (DataW H)} (h : D ∈ ds) : ∀ n ∈ D.weights P e, n ∈ DataW.weightsAll P e ds := by
  induction ds with
  | nil => cases h
  | cons x r ih =>
    intro n hn
    simp only [DataW.weightsAll, List.mem_append]
    rcases List.mem_cons.1 h with rfl | h
    · exact .inl hn
    · exact .inr (ih h n hn)

theorem open_lists {W : World} {base : Nat} {v : Value} {d : DataW H} {p : List MemPlace} (hval : Value.okWide Tryd.prog W .any base 31 v) (h : DataW.Trod enc Tryd.prog W 0 (fun _ => true) true 31 v d p)
    (hlt : ∀ x ∈ p, x.block < W.heap.size) (hsz : ∀ n ∈ d.weights Tryd.prog 31, n ≤ reachBytes) :
    ∃ A ls c, v = .slice A ls.length c ∧ RdL W.heap.size W A ls ∧ (∀ l ∈ ls, Words l) ∧ ls.length ≤ 1000000000000000000 ∧ ∀ l ∈ ls, l.length ≤ 1000000000000000000 := by
  obtain ⟨a0, len, cap, rfl⟩ := okWide_slice Tryd.underlying31 hval
  obtain ⟨fuel, hf⟩ := h
  rcases Deep.open_int_rows Tryd.underlying31 Tryd.underlying22 Tryd.underlying40 cells_row cells_u64 hf with ⟨hcs, hx⟩ | ⟨a, len', cap', A, L, C, Z, hcs, _, hl, hm, hx, hall⟩
  · simp [Value.cells] at hcs
    obtain ⟨rfl, rfl, rfl⟩ := hcs
    exact ⟨none, [], 0, rfl, RdL.nil, fun l hl => (by cases hl), by simp, fun l hl => (by cases hl)⟩
  · simp [Value.cells] at hcs
    obtain ⟨rfl, rfl, rfl⟩ := hcs
    simp only [Prod.mk.injEq] at hx
    obtain ⟨rfl, rfl⟩ := hx
    have hb24 : Tryd.prog.bytesOf 22 = 24 := by kernel_rfl
    have hb8 : Tryd.prog.bytesOf 40 = 8 := by kernel_rfl
    have hR := reachBytes_lt
    have e47 : (2 : Nat) ^ 47 = 140737488355328 := by decide
    have hlen : ∀ r, r < len → ((Z r).take (L r)).length = L r := fun r hr => by
      obtain ⟨_, h1, _, h3, _⟩ := hall r (by omega)
      rw [List.length_take]
      omega
    have hmem : ∀ {l : List Int}, l ∈ (List.range len).map (fun r => (Z r).take (L r)) → ∃ r, r < len ∧ l = (Z r).take (L r) := fun {l} hl => by
      obtain ⟨r, hr, rfl⟩ := List.mem_map.1 hl
      exact ⟨r, List.mem_range.1 hr, rfl⟩
    have hLs : len * 24 ≤ reachBytes := by
      have h1 := hsz _ (by simp only [DataW.weights, Tryd.underlying31]; exact List.mem_cons_self)
      rw [hb24, List.length_map, List.length_range, List.length_map, List.length_range] at h1
      exact Nat.le_trans (Nat.mul_le_mul (Nat.le_add_right _ _) (Nat.le_refl 24)) h1
    have hLr : ∀ r, r < len → L r * 8 ≤ reachBytes := fun r hr => by
      cases hA : A r with
      | none =>
        obtain ⟨_, h1, _, _, _, h6, _⟩ := hall r (by omega)
        have := h6 hA
        rw [show L r = 0 from by omega]
        omega
      | some ar =>
        have h1 := hsz ((L r + ((Z r).drop (L r)).length) * 8) (by
          simp only [DataW.weights, Tryd.underlying31]
          refine List.mem_cons_of_mem _ (List.mem_append_left _ (weights_all (D := Deep.intRow .u64 (A r) (L r) (Z r)) (List.mem_map.2 ⟨r, List.mem_range.2 hr, rfl⟩) _ ?_))
          simp only [Deep.intRow, hA, DataW.weights, Tryd.underlying22, hb8, lits, List.length_map, hlen r hr]
          exact List.mem_cons_self)
        exact Nat.le_trans (Nat.mul_le_mul (Nat.le_add_right _ _) (Nat.le_refl 8)) h1
    refine ⟨some a, (List.range len).map fun r => (Z r).take (L r), cap, by rw [List.length_map, List.length_range], fun hn => ?_, fun l hl x hx => ?_, by rw [List.length_map, List.length_range]; omega, fun l hl => ?_⟩
    · have hpos : 0 < len := by
        rcases Nat.eq_zero_or_pos len with h0 | h0
        · rw [h0] at hn; exact absurd rfl hn
        · exact h0
      obtain ⟨b, off, spot⟩ := a
      have hspot : spot = none := by simpa [Addr.add] using World.cell?_spot (hall 0 (by omega)).1
      subst hspot
      refine ⟨b, off, rfl, hlt (.cell b off) (List.mem_append_left _ (MemPlace.mem_row.2 ⟨0, by omega, by simp⟩)), fun j l hl => ?_⟩
      rw [List.getElem?_map] at hl
      obtain ⟨r, hr, rfl⟩ := Option.map_eq_some_iff.1 hl
      obtain ⟨hjl, rfl⟩ := List.getElem?_eq_some_iff.1 hr
      rw [List.length_range] at hjl
      simp only [List.getElem_range]
      obtain ⟨h1, h2, h3, h4, h5, h6, h7⟩ := hall j (by omega)
      refine ⟨A j, C j, by rw [hlen j hjl, ← add_plain]; exact h1, h6, fun hne => ?_⟩
      cases hA : A j with
      | none =>
        have := h6 hA
        exact absurd (List.eq_nil_of_length_eq_zero (by rw [hlen j hjl]; omega)) hne
      | some ar =>
        have hLp : 0 < L j := by
          rcases Nat.eq_zero_or_pos (L j) with h0 | h0
          · rw [h0, List.take_zero] at hne; exact absurd rfl hne
          · exact h0
        obtain ⟨_, hc⟩ := h7 ar hA
        obtain ⟨b2, off2, spot2⟩ := ar
        have hspot2 : spot2 = none := by simpa [Addr.add] using World.cell?_spot (hc 0 (by omega))
        subst hspot2
        refine ⟨b2, off2, rfl, ?_, fun i x hx => ?_⟩
        · refine hlt (.cell b2 off2) (List.mem_append_right _ (List.mem_flatMap.2 ⟨j, List.mem_range.2 (by omega), ?_⟩))
          simp only [Deep.intRowPlaces, hA]
          exact MemPlace.mem_row.2 ⟨0, by omega, by simp⟩
        · have hi : i < L j := by have := (List.getElem?_eq_some_iff.1 hx).1; rw [hlen j hjl] at this; exact this
          rw [← add_plain, hc i (by omega)]
          rw [List.getElem?_take, if_pos hi] at hx
          rw [List.getD_eq_getElem?_getD, hx]; rfl
    · obtain ⟨r, hr, rfl⟩ := hmem hl
      obtain ⟨_, _, _, _, h5, _⟩ := hall r (by omega)
      have h1 := h5 x (List.mem_of_mem_take hx)
      have e1 : IntKind.u64.min = 0 := rfl
      have e2 : IntKind.u64.max = 18446744073709551615 := rfl
      simp only [Lit.wf, Bool.and_eq_true, decide_eq_true_eq] at h1
      omega
    · obtain ⟨r, hr, rfl⟩ := hmem hl
      have := hLr r hr
      rw [hlen r hr]
      omega
end
end Go.Proofs.YtblfmbkkeieiaaaDoor
