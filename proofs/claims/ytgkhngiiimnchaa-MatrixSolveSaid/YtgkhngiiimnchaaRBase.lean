/- columns, rectangular, square of package matrix (over slices.IndexFunc and ContainsFunc with the code's closures): they only read. Conditions: at most 1000 rows. -/
import Derived.Test.YtgkhngiiimnchaaRMem
import Derived.RangeFuncBox
namespace Go.Proofs.Ytgkhngiiimnchaa
open Go.RowKit PolyMath FieldMath MatMath

/-- The columns of the first row. -/
def ncol (R : List (List Int)) : Nat := (ro R 0).length
/-- All rows are as long as the first. -/
def rect (R : List (List Int)) : Bool := !(R.findIdx? fun r => r.length != ncol R).isSome
theorem rect_iff {R : List (List Int)} : rect R = true ↔ ∀ i, i < R.length → (ro R i).length = ncol R := by
  unfold rect
  rw [Bool.not_eq_true', Option.isSome_eq_false_iff, Option.isNone_iff_eq_none, List.findIdx?_eq_none_iff]
  constructor
  · intro h i hi
    have := h _ (List.mem_of_getElem? (ro_get hi))
    simpa using this
  · intro h r hr
    obtain ⟨i, hi⟩ := List.mem_iff_getElem?.1 hr
    have := h i (List.getElem?_eq_some_iff.1 hi).1
    rw [ro_at hi] at this
    simpa using this
def squ (R : List (List Int)) : Bool := decide (0 < R.length) && (R.length == ncol R) && rect R
theorem squ_iff {R : List (List Int)} : squ R = true ↔ 0 < R.length ∧ R.length = ncol R ∧ rect R = true := by
  unfold squ; rw [Bool.and_eq_true, Bool.and_eq_true, decide_eq_true_eq, beq_iff_eq, and_assoc]

theorem columns_any (A : Option Addr) (c : Nat) (rows : List (List Int)) (w : World) (h : Sll w A c rows) :
    Calls Try.prog 34 #[.slice A rows.length c] w fun e w' => e = .returned (.int .i64 (ncol rows)) ∧ w = w' := by
  by_cases h0 : rows.length = 0
  · have hR : rows = [] := List.eq_nil_of_length_eq_zero h0
    subst hR
    go_enter Try.func34, Try.ntmps34
    go_wp2
    go_ret
    exact ⟨rfl, rfl⟩
  · obtain ⟨b, off, A', c', rfl, hb, hc, hs⟩ := h.rowAt (i := 0) (L := ncol rows) (by omega) rfl
    have hz : ((rows.length : Int) == 0) = false := beq_eq_false_iff_ne.2 (by omega)
    have hpos : (0 : Int) < rows.length := by omega
    rw [Nat.add_zero] at hc
    go_enter Try.func34, Try.ntmps34
    go_wp2
    go_ret
    exact ⟨rfl, rfl⟩

theorem rect1_any (A : Option Addr) (c n : Nat) (r : List Int) (hn : r.length = n) (N B : Nat) (w : World) (hB : Boxed w B 3 (.int .i64 N)) :
    Calls Try.prog 52 #[.slice A n c, .pointer (some ⟨B, 0, none⟩)] w fun e w' => e = .returned (.bool (r.length != N)) ∧ w = w' := by
  have hc := hB.cell
  have hE : Hid ((n != N) = (r.length != N)) := Lib.hid (by rw [hn])
  clear hB hn
  go_enter Try.func52, Try.ntmps52
  go_wp2
  go_ret
  rw [← hE.out]
  exact ⟨congrArg (fun b => Ending.returned (Value.bool b)) (show ((n : Int) != (N : Int)) = (n != N) by rw [Bool.eq_iff_iff, bne_iff_ne, bne_iff_ne]; omega), rfl⟩
theorem elim1_any (A : Option Addr) (c n : Nat) (r : List Int) (hn : r.length = n) (k B : Nat) (w : World) (hB : Boxed w B 3 (.int .i64 k)) (hs : Sl w A c r) (hk : k < n) :
    Calls Try.prog 56 #[.slice A n c, .pointer (some ⟨B, 0, none⟩)] w fun e w' => e = .returned (.bool (co r k != 0)) ∧ w = w' := by
  have hc := hB.cell
  obtain ⟨b, off, x, rfl, _, hx, hcx⟩ := hs.at_ (k := k) (by omega)
  have hX := Lib.hid (co_at hx)
  have hkn : (k : Int) < n := by omega
  clear hB hn hx
  go_enter Try.func56, Try.ntmps56
  go_wp2
  go_ret
  rw [hX.out]
  exact ⟨rfl, rfl⟩
theorem solve1_any (A : Option Addr) (c n : Nat) (r : List Int) (hn : r.length = n) (k B : Nat) (w : World) (hB : Boxed w B 3 (.int .i64 k)) (hs : Sl w A c r) (hk : k < n) :
    Calls Try.prog 44 #[.slice A n c, .pointer (some ⟨B, 0, none⟩)] w fun e w' => e = .returned (.bool (co r k != 0)) ∧ w = w' := by
  have hc := hB.cell
  obtain ⟨b, off, x, rfl, _, hx, hcx⟩ := hs.at_ (k := k) (by omega)
  have hX := Lib.hid (co_at hx)
  have hkn : (k : Int) < n := by omega
  clear hB hn hx
  go_enter Try.func44, Try.ntmps44
  go_wp2
  go_ret
  rw [hX.out]
  exact ⟨rfl, rfl⟩

/-- What IndexFunc answers. -/
def idxI : Option Nat → Int
  | none => -1
  | some b => b
/-- A function value that says of each row whether P holds. -/
def Tells (F : FuncId) (pt : Value) (P : List Int → Bool) (rows : List (List Int)) (w : World) : Prop :=
  ∀ i A' c', i < rows.length → Sl w A' c' (ro rows i) → Calls Try.prog F #[.slice A' (ro rows i).length c', pt] w fun e w' => e = .returned (.bool (P (ro rows i))) ∧ w = w'

theorem index_rect (pt : Value) (P : List Int → Bool) (A : Option Addr) (c n : Nat) (rows : List (List Int)) (hn : rows.length = n) (hl : n ≤ 1000) (w : World) (h : Sll w A c rows) (hF : Tells 52 pt P rows w) :
    Calls Try.prog 55 #[.slice A n c, .func (.func 52) #[] #[pt]] w fun e w' => e = .returned (.int .i64 (idxI (rows.findIdx? P))) ∧ w = w' := by
  have hN := Lib.hid hn
  clear hn
  go_enter Try.func55, Try.ntmps55
  go_wp2
  go_loop [8] (fun i => ∃ k : Nat, k ≤ n ∧ i = .int .i64 k ∧ Hid (∀ j, j < k → P (ro rows j) = false)) (fun i => n - (intOf i).toNat)
  case atStart => exact ⟨0, Nat.zero_le _, rfl, Lib.hid (fun j hj => by omega)⟩
  case round =>
    obtain ⟨k, hk, rfl, hE⟩ := hrel
    by_cases hlt : k < n
    · obtain ⟨b, off, A', c', hA, hb, hc, hs⟩ := h.rowAt (i := k) (L := (ro rows k).length) (by rw [hN.out]; exact hlt) rfl
      have hcall := hF k A' c' (by rw [hN.out]; exact hlt) hs
      subst hA
      have hkn : (k : Int) < n := by omega
      cases hP : P (ro rows k) with
      | false =>
        rw [hP] at hcall
        have hE2 : Hid (∀ j, j < k + 1 → P (ro rows j) = false) := Lib.hid fun j hj => by
          by_cases e : j = k
          · subst e; exact hP
          · exact hE.out j (by omega)
        clear hE hP
        go_wp2_with (go_at_call 52; refine hcall.mono ?_; rintro e w' ⟨rfl, rfl⟩)
        go_round
        case rel => exact ⟨k + 1, by omega, by simp, hE2⟩
        case measure => simp [intOf]; omega
      | true =>
        rw [hP] at hcall
        have hR : Hid (rows.findIdx? P = some k) := Lib.hid (by
          rw [List.findIdx?_eq_some_iff_getElem]
          refine ⟨by rw [hN.out]; exact hlt, ?_, fun j hj => ?_⟩
          · rw [← hP, ro_at (List.getElem?_eq_getElem (by rw [hN.out]; exact hlt))]
          · have h1 := hE.out j hj
            rw [ro_at (List.getElem?_eq_getElem (by rw [hN.out]; omega))] at h1
            rw [h1]; simp)
        clear hE hP
        go_wp2_with (go_at_call 52; refine hcall.mono ?_; rintro e w' ⟨rfl, rfl⟩)
        go_ret
        rw [hR.out]
        exact ⟨rfl, rfl⟩
    · obtain rfl : k = n := by omega
      have hR : Hid (rows.findIdx? P = none) := Lib.hid (by
        rw [List.findIdx?_eq_none_iff]
        intro r hr
        obtain ⟨i, hi⟩ := List.mem_iff_getElem?.1 hr
        have h1 := hE.out i (by rw [← hN.out]; exact (List.getElem?_eq_some_iff.1 hi).1)
        rw [ro_at hi] at h1
        exact h1)
      clear hE
      go_wp2
      go_ret
      rw [hR.out]
      exact ⟨rfl, rfl⟩

theorem index_elim (pt : Value) (P : List Int → Bool) (A : Option Addr) (c n : Nat) (rows : List (List Int)) (hn : rows.length = n) (hl : n ≤ 1000) (w : World) (h : Sll w A c rows) (hF : Tells 56 pt P rows w) :
    Calls Try.prog 55 #[.slice A n c, .func (.func 56) #[] #[pt]] w fun e w' => e = .returned (.int .i64 (idxI (rows.findIdx? P))) ∧ w = w' := by
  have hN := Lib.hid hn
  clear hn
  go_enter Try.func55, Try.ntmps55
  go_wp2
  go_loop [8] (fun i => ∃ k : Nat, k ≤ n ∧ i = .int .i64 k ∧ Hid (∀ j, j < k → P (ro rows j) = false)) (fun i => n - (intOf i).toNat)
  case atStart => exact ⟨0, Nat.zero_le _, rfl, Lib.hid (fun j hj => by omega)⟩
  case round =>
    obtain ⟨k, hk, rfl, hE⟩ := hrel
    by_cases hlt : k < n
    · obtain ⟨b, off, A', c', hA, hb, hc, hs⟩ := h.rowAt (i := k) (L := (ro rows k).length) (by rw [hN.out]; exact hlt) rfl
      have hcall := hF k A' c' (by rw [hN.out]; exact hlt) hs
      subst hA
      have hkn : (k : Int) < n := by omega
      cases hP : P (ro rows k) with
      | false =>
        rw [hP] at hcall
        have hE2 : Hid (∀ j, j < k + 1 → P (ro rows j) = false) := Lib.hid fun j hj => by
          by_cases e : j = k
          · subst e; exact hP
          · exact hE.out j (by omega)
        clear hE hP
        go_wp2_with (go_at_call 56; refine hcall.mono ?_; rintro e w' ⟨rfl, rfl⟩)
        go_round
        case rel => exact ⟨k + 1, by omega, by simp, hE2⟩
        case measure => simp [intOf]; omega
      | true =>
        rw [hP] at hcall
        have hR : Hid (rows.findIdx? P = some k) := Lib.hid (by
          rw [List.findIdx?_eq_some_iff_getElem]
          refine ⟨by rw [hN.out]; exact hlt, ?_, fun j hj => ?_⟩
          · rw [← hP, ro_at (List.getElem?_eq_getElem (by rw [hN.out]; exact hlt))]
          · have h1 := hE.out j hj
            rw [ro_at (List.getElem?_eq_getElem (by rw [hN.out]; omega))] at h1
            rw [h1]; simp)
        clear hE hP
        go_wp2_with (go_at_call 56; refine hcall.mono ?_; rintro e w' ⟨rfl, rfl⟩)
        go_ret
        rw [hR.out]
        exact ⟨rfl, rfl⟩
    · obtain rfl : k = n := by omega
      have hR : Hid (rows.findIdx? P = none) := Lib.hid (by
        rw [List.findIdx?_eq_none_iff]
        intro r hr
        obtain ⟨i, hi⟩ := List.mem_iff_getElem?.1 hr
        have h1 := hE.out i (by rw [← hN.out]; exact (List.getElem?_eq_some_iff.1 hi).1)
        rw [ro_at hi] at h1
        exact h1)
      clear hE
      go_wp2
      go_ret
      rw [hR.out]
      exact ⟨rfl, rfl⟩

theorem index_solve (pt : Value) (P : List Int → Bool) (A : Option Addr) (c n : Nat) (rows : List (List Int)) (hn : rows.length = n) (hl : n ≤ 1000) (w : World) (h : Sll w A c rows) (hF : Tells 44 pt P rows w) :
    Calls Try.prog 55 #[.slice A n c, .func (.func 44) #[] #[pt]] w fun e w' => e = .returned (.int .i64 (idxI (rows.findIdx? P))) ∧ w = w' := by
  have hN := Lib.hid hn
  clear hn
  go_enter Try.func55, Try.ntmps55
  go_wp2
  go_loop [8] (fun i => ∃ k : Nat, k ≤ n ∧ i = .int .i64 k ∧ Hid (∀ j, j < k → P (ro rows j) = false)) (fun i => n - (intOf i).toNat)
  case atStart => exact ⟨0, Nat.zero_le _, rfl, Lib.hid (fun j hj => by omega)⟩
  case round =>
    obtain ⟨k, hk, rfl, hE⟩ := hrel
    by_cases hlt : k < n
    · obtain ⟨b, off, A', c', hA, hb, hc, hs⟩ := h.rowAt (i := k) (L := (ro rows k).length) (by rw [hN.out]; exact hlt) rfl
      have hcall := hF k A' c' (by rw [hN.out]; exact hlt) hs
      subst hA
      have hkn : (k : Int) < n := by omega
      cases hP : P (ro rows k) with
      | false =>
        rw [hP] at hcall
        have hE2 : Hid (∀ j, j < k + 1 → P (ro rows j) = false) := Lib.hid fun j hj => by
          by_cases e : j = k
          · subst e; exact hP
          · exact hE.out j (by omega)
        clear hE hP
        go_wp2_with (go_at_call 44; refine hcall.mono ?_; rintro e w' ⟨rfl, rfl⟩)
        go_round
        case rel => exact ⟨k + 1, by omega, by simp, hE2⟩
        case measure => simp [intOf]; omega
      | true =>
        rw [hP] at hcall
        have hR : Hid (rows.findIdx? P = some k) := Lib.hid (by
          rw [List.findIdx?_eq_some_iff_getElem]
          refine ⟨by rw [hN.out]; exact hlt, ?_, fun j hj => ?_⟩
          · rw [← hP, ro_at (List.getElem?_eq_getElem (by rw [hN.out]; exact hlt))]
          · have h1 := hE.out j hj
            rw [ro_at (List.getElem?_eq_getElem (by rw [hN.out]; omega))] at h1
            rw [h1]; simp)
        clear hE hP
        go_wp2_with (go_at_call 44; refine hcall.mono ?_; rintro e w' ⟨rfl, rfl⟩)
        go_ret
        rw [hR.out]
        exact ⟨rfl, rfl⟩
    · obtain rfl : k = n := by omega
      have hR : Hid (rows.findIdx? P = none) := Lib.hid (by
        rw [List.findIdx?_eq_none_iff]
        intro r hr
        obtain ⟨i, hi⟩ := List.mem_iff_getElem?.1 hr
        have h1 := hE.out i (by rw [← hN.out]; exact (List.getElem?_eq_some_iff.1 hi).1)
        rw [ro_at hi] at h1
        exact h1)
      clear hE
      go_wp2
      go_ret
      rw [hR.out]
      exact ⟨rfl, rfl⟩

theorem contains_rect (pt : Value) (P : List Int → Bool) (A : Option Addr) (c n : Nat) (rows : List (List Int)) (hn : rows.length = n) (hl : n ≤ 1000) (w : World) (h : Sll w A c rows) (hF : Tells 52 pt P rows w) :
    Calls Try.prog 43 #[.slice A n c, .func (.func 52) #[] #[pt]] w fun e w' => e = .returned (.bool (rows.findIdx? P).isSome) ∧ w = w' := by
  have hi := index_rect pt P A c n rows hn hl w h hF
  have hE : Hid (decide (0 ≤ idxI (rows.findIdx? P)) = (rows.findIdx? P).isSome) := Lib.hid (by
    cases rows.findIdx? P with
    | none => rfl
    | some b => exact decide_eq_true (Int.natCast_nonneg b))
  generalize idxI (rows.findIdx? P) = I at *
  go_enter Try.func43, Try.ntmps43
  go_wp2_with fail
  refine hi.mono ?_; rintro e w' ⟨rfl, rfl⟩
  go_wp2_with fail
  go_ret
  rw [← hE.out]
  exact ⟨rfl, rfl⟩

theorem contains_solve (pt : Value) (P : List Int → Bool) (A : Option Addr) (c n : Nat) (rows : List (List Int)) (hn : rows.length = n) (hl : n ≤ 1000) (w : World) (h : Sll w A c rows) (hF : Tells 44 pt P rows w) :
    Calls Try.prog 43 #[.slice A n c, .func (.func 44) #[] #[pt]] w fun e w' => e = .returned (.bool (rows.findIdx? P).isSome) ∧ w = w' := by
  have hi := index_solve pt P A c n rows hn hl w h hF
  have hE : Hid (decide (0 ≤ idxI (rows.findIdx? P)) = (rows.findIdx? P).isSome) := Lib.hid (by
    cases rows.findIdx? P with
    | none => rfl
    | some b => exact decide_eq_true (Int.natCast_nonneg b))
  generalize idxI (rows.findIdx? P) = I at *
  go_enter Try.func43, Try.ntmps43
  go_wp2_with fail
  refine hi.mono ?_; rintro e w' ⟨rfl, rfl⟩
  go_wp2_with fail
  go_ret
  rw [← hE.out]
  exact ⟨rfl, rfl⟩

theorem rectangular_any (A : Option Addr) (c : Nat) (rows : List (List Int)) (hl : rows.length ≤ 1000) (w : World) (h : Sll w A c rows) :
    Calls Try.prog 33 #[.slice A rows.length c] w fun e w' => e = .returned (.bool (rect rows)) ∧ Below w.heap.size w w' := by
  have hcol := columns_any A c rows w h
  have hcon := contains_rect (.pointer (some ⟨w.heap.size, 0, none⟩)) (fun r => r.length != ncol rows) A c rows.length rows rfl hl (w.alloc (.cells #[.int .i64 (ncol rows)] 3)) (h.push _)
    (fun i A' c' hi hs => rect1_any A' c' _ (ro rows i) rfl (ncol rows) w.heap.size _ (Boxed.new w _ _))
  have hE : Hid ((!(rows.findIdx? fun r => r.length != ncol rows).isSome) = rect rows) := Lib.hid rfl
  have hB := Lib.hid (bnew (Below.refl w.heap.size w) (.cells #[.int .i64 (ncol rows)] 3) (Nat.le_refl _))
  generalize (rows.findIdx? fun r => r.length != ncol rows).isSome = I at *
  go_enter Try.func33, Try.ntmps33
  go_wp2_with fail
  refine hcol.mono ?_; rintro e w' ⟨rfl, rfl⟩
  go_wp2_with fail
  refine hcon.mono ?_; rintro e w' ⟨rfl, rfl⟩
  go_wp2_with fail
  go_ret
  rw [← hE.out]
  exact ⟨rfl, hB.out⟩

theorem square_any (A : Option Addr) (c : Nat) (rows : List (List Int)) (hl : rows.length ≤ 1000) (w : World) (h : Sll w A c rows) :
    Calls Try.prog 41 #[.slice A rows.length c] w fun e w' => e = .returned (.bool (squ rows)) ∧ Below w.heap.size w w' := by
  have hcol := columns_any A c rows w h
  have hrec := rectangular_any A c rows hl w h
  have hE : Hid (squ rows = (decide (0 < rows.length) && (rows.length == ncol rows) && rect rows)) := Lib.hid rfl
  generalize rect rows = RC at *
  generalize ncol rows = NC at *
  by_cases h0 : 0 < rows.length
  · have h0' : (0 : Int) < rows.length := by omega
    by_cases h1 : rows.length = NC
    · have hF : Hid (squ rows = RC) := Lib.hid (by rw [hE.out, decide_eq_true h0, beq_iff_eq.2 h1]; rfl)
      have h1' : ((rows.length : Int) == NC) = true := beq_iff_eq.2 (by omega)
      have H1 := Lib.hid h1
      clear h1 hE
      go_enter Try.func41, Try.ntmps41
      go_wp2_with fail
      refine hcol.mono ?_; rintro e w' ⟨rfl, rfl⟩
      go_wp2_with fail
      refine hrec.mono ?_; rintro e w' ⟨rfl, hb⟩
      go_wp2_with fail
      go_ret
      rw [hF.out]
      exact ⟨rfl, hb⟩
    · have hF : Hid (squ rows = false) := Lib.hid (by rw [hE.out, beq_eq_false_iff_ne.2 h1, Bool.and_false, Bool.false_and])
      have h1' : ((rows.length : Int) == NC) = false := beq_eq_false_iff_ne.2 (by omega)
      clear hE
      go_enter Try.func41, Try.ntmps41
      go_wp2_with fail
      refine hcol.mono ?_; rintro e w' ⟨rfl, rfl⟩
      go_wp2_with fail
      go_ret
      rw [hF.out]
      exact ⟨rfl, Below.refl _ _⟩
  · have hF : Hid (squ rows = false) := Lib.hid (by rw [hE.out, decide_eq_false h0, Bool.false_and, Bool.false_and])
    have h0' : ¬ (0 : Int) < rows.length := by omega
    clear hE
    go_enter Try.func41, Try.ntmps41
    go_wp2_with fail
    go_ret
    rw [hF.out]
    exact ⟨rfl, Below.refl _ _⟩
end Go.Proofs.Ytgkhngiiimnchaa
