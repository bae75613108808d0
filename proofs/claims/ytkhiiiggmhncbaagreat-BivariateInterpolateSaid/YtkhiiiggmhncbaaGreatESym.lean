/- haveLength, isSquare and IsSymmetric of package bivariate (over slices.ContainsFunc and IndexFunc with the code's closure), Square and IsSymmetric of the reference: they only read. Conditions: at most 100 rows. -/
import Derived.Test.YtkhiiiggmhncbaaGreatEMath
import Derived.Test.YtkhiiiggmhncbaaGreatMD
namespace Go.Proofs.YtkhiiiggmhncbaaGreat
set_option maxRecDepth 100000
open Go.RowKit PolyMath FieldMath MatMath

theorem hl1_any (A : Option Addr) (c n : Nat) (r : List Int) (hn : r.length = n) (N B : Nat) (w : World) (hB : Boxed w B 3 (.int .i64 N)) :
    Calls Tryz.prog 39 #[.slice A n c, .pointer (some ⟨B, 0, none⟩)] w fun e w' => e = .returned (.bool (r.length != N)) ∧ w = w' := by
  have hc := hB.cell
  have hE : Hid ((n != N) = (r.length != N)) := Lib.hid (by rw [hn])
  clear hB hn
  go_enter Tryz.func39, Tryz.ntmps39
  go_wp2
  go_ret
  rw [← hE.out]
  exact ⟨congrArg (fun b => Ending.returned (Value.bool b)) (show ((n : Int) != (N : Int)) = (n != N) by rw [Bool.eq_iff_iff, bne_iff_ne, bne_iff_ne]; omega), rfl⟩
theorem index_hl (pt : Value) (P : List Int → Bool) (A : Option Addr) (c n : Nat) (rows : List (List Int)) (hn : rows.length = n) (hl : n ≤ 1000) (w : World) (h : Sll w A c rows) (hF : Tells 39 pt P rows w) :
    Calls Tryz.prog 63 #[.slice A n c, .func (.func 39) #[] #[pt]] w fun e w' => e = .returned (.int .i64 (idxI (rows.findIdx? P))) ∧ w = w' := by
  have hN := Lib.hid hn
  clear hn
  go_enter Tryz.func63, Tryz.ntmps63
  go_wp2
  go_loop [8] (fun i => ∃ k : Nat, k ≤ n ∧ i = .int .i64 k ∧ Hid (∀ j, j < k → P (ro rows j) = false)) (fun i => n - (intOf i).toNat)
  case atStart => exact ⟨0, Nat.zero_le _, rfl, Lib.hid (fun j hj => by omega)⟩
  case round =>
    obtain ⟨k, hk, rfl, hE⟩ := hrel
    by_cases hlt : k < n
    · obtain ⟨b, off, A', c', hA, hb, hc, hs⟩ := h.rowAt (i := k) (L := (ro rows k).length) (by rw [hN.out]; exact hlt) rfl
      have hcall := hF k A' c' (by rw [hN.out]; exact hlt) hs
      subst hA
      have hkn : (k : Int) < n := by omega
      cases hP : P (ro rows k) with
      | false =>
        rw [hP] at hcall
        have hE2 : Hid (∀ j, j < k + 1 → P (ro rows j) = false) := Lib.hid fun j hj => by
          by_cases e : j = k
          · subst e; exact hP
          · exact hE.out j (by omega)
        clear hE hP
        go_wp2_with (go_at_call 39; refine hcall.mono ?_; rintro e w' ⟨rfl, rfl⟩)
        go_round
        case rel => exact ⟨k + 1, by omega, by simp, hE2⟩
        case measure => simp [intOf]; omega
      | true =>
        rw [hP] at hcall
        have hR : Hid (rows.findIdx? P = some k) := Lib.hid (by
          rw [List.findIdx?_eq_some_iff_getElem]
          refine ⟨by rw [hN.out]; exact hlt, ?_, fun j hj => ?_⟩
          · rw [← hP, ro_at (List.getElem?_eq_getElem (by rw [hN.out]; exact hlt))]
          · have h1 := hE.out j hj
            rw [ro_at (List.getElem?_eq_getElem (by rw [hN.out]; omega))] at h1
            rw [h1]; simp)
        clear hE hP
        go_wp2_with (go_at_call 39; refine hcall.mono ?_; rintro e w' ⟨rfl, rfl⟩)
        go_ret
        rw [hR.out]
        exact ⟨rfl, rfl⟩
    · obtain rfl : k = n := by omega
      have hR : Hid (rows.findIdx? P = none) := Lib.hid (by
        rw [List.findIdx?_eq_none_iff]
        intro r hr
        obtain ⟨i, hi⟩ := List.mem_iff_getElem?.1 hr
        have h1 := hE.out i (by rw [← hN.out]; exact (List.getElem?_eq_some_iff.1 hi).1)
        rw [ro_at hi] at h1
        exact h1)
      clear hE
      go_wp2
      go_ret
      rw [hR.out]
      exact ⟨rfl, rfl⟩
theorem contains_hl (pt : Value) (P : List Int → Bool) (A : Option Addr) (c n : Nat) (rows : List (List Int)) (hn : rows.length = n) (hl : n ≤ 1000) (w : World) (h : Sll w A c rows) (hF : Tells 39 pt P rows w) :
    Calls Tryz.prog 38 #[.slice A n c, .func (.func 39) #[] #[pt]] w fun e w' => e = .returned (.bool (rows.findIdx? P).isSome) ∧ w = w' := by
  have hi := index_hl pt P A c n rows hn hl w h hF
  have hE : Hid (decide (0 ≤ idxI (rows.findIdx? P)) = (rows.findIdx? P).isSome) := Lib.hid (by
    cases rows.findIdx? P with
    | none => rfl
    | some b => exact decide_eq_true (Int.natCast_nonneg b))
  generalize idxI (rows.findIdx? P) = I at *
  go_enter Tryz.func38, Tryz.ntmps38
  go_wp2_with fail
  refine hi.mono ?_; rintro e w' ⟨rfl, rfl⟩
  go_wp2_with fail
  go_ret
  rw [← hE.out]
  exact ⟨rfl, rfl⟩
/-- All rows have the length L. -/
def lenB (R : List (List Int)) (L : Nat) : Bool := !(R.findIdx? fun r => r.length != L).isSome
theorem lenB_iff {R : List (List Int)} {L : Nat} : lenB R L = true ↔ ∀ i, i < R.length → (ro R i).length = L := by
  unfold lenB
  rw [Bool.not_eq_true', Option.isSome_eq_false_iff, Option.isNone_iff_eq_none, List.findIdx?_eq_none_iff]
  constructor
  · intro h i hi
    have := h _ (List.mem_of_getElem? (ro_get hi))
    simpa using this
  · intro h r hr
    obtain ⟨i, hi⟩ := List.mem_iff_getElem?.1 hr
    have := h i (List.getElem?_eq_some_iff.1 hi).1
    rw [ro_at hi] at this
    simpa using this
/-- Square, with at least one row. -/
def sqB (R : List (List Int)) : Bool := decide (0 < R.length) && lenB R R.length
theorem sqB_iff {R : List (List Int)} : sqB R = true ↔ 0 < R.length ∧ ∀ i, i < R.length → (ro R i).length = R.length := by unfold sqB; rw [Bool.and_eq_true, decide_eq_true_eq, lenB_iff]
/-- .. and symmetric. -/
def symB (R : List (List Int)) : Bool := sqB R && decide (Sym R)
theorem symB_iff {R : List (List Int)} : symB R = true ↔ sqB R = true ∧ Sym R := by unfold symB; rw [Bool.and_eq_true, decide_eq_true_eq]
theorem haveLength_any (A : Option Addr) (c L : Nat) (rows : List (List Int)) (hl : rows.length ≤ 1000) (w : World) (h : Sll w A c rows) :
    Calls Tryz.prog 18 #[.slice A rows.length c, .int .i64 L] w fun e w' => e = .returned (.bool (lenB rows L)) ∧ Below w.heap.size w w' := by
  have hcon := contains_hl (.pointer (some ⟨w.heap.size, 0, none⟩)) (fun r => r.length != L) A c rows.length rows rfl hl (w.alloc (.cells #[.int .i64 L] 3)) (h.push _)
    (fun i A' c' hi hs => hl1_any A' c' _ (ro rows i) rfl L w.heap.size _ (Boxed.new w _ _))
  have hE : Hid ((!(rows.findIdx? fun r => r.length != L).isSome) = lenB rows L) := Lib.hid rfl
  have hB := Lib.hid (bnew (Below.refl w.heap.size w) (.cells #[.int .i64 L] 3) (Nat.le_refl _))
  generalize (rows.findIdx? fun r => r.length != L).isSome = I at *
  go_enter Tryz.func18, Tryz.ntmps18
  go_wp2_with fail
  refine hcon.mono ?_; rintro e w' ⟨rfl, rfl⟩
  go_wp2_with fail
  go_ret
  rw [← hE.out]
  exact ⟨rfl, hB.out⟩
theorem isSquare_any (A : Option Addr) (c : Nat) (rows : List (List Int)) (hl : rows.length ≤ 1000) (w : World) (h : Sll w A c rows) :
    Calls Tryz.prog 29 #[.slice A rows.length c] w fun e w' => e = .returned (.bool (sqB rows)) ∧ Below w.heap.size w w' := by
  have hH := haveLength_any A c rows.length rows hl w h
  by_cases h0 : 0 < rows.length
  · have hE : Hid (lenB rows rows.length = sqB rows) := Lib.hid (by unfold sqB; rw [decide_eq_true h0]; rfl)
    have h0' : (0 : Int) < rows.length := by omega
    clear h0
    generalize lenB rows rows.length = I at *
    go_enter Tryz.func29, Tryz.ntmps29
    go_wp2_with fail
    refine hH.mono ?_; rintro e w' ⟨rfl, hb⟩
    go_wp2_with fail
    go_ret
    rw [← hE.out]
    exact ⟨rfl, hb⟩
  · have hE : Hid (false = sqB rows) := Lib.hid (by unfold sqB; rw [decide_eq_false h0]; rfl)
    have h0' : ¬ (0 : Int) < rows.length := by omega
    clear hH h0
    go_enter Tryz.func29, Tryz.ntmps29
    go_wp2
    go_ret
    rw [← hE.out]
    exact ⟨rfl, Below.refl _ _⟩

theorem mx_at2 {rows : List (List Int)} {i j : Nat} {x : Int} (h : (ro rows i)[j]? = some x) : mx rows i j = x := co_at h

set_option maxHeartbeats 1000000 in
theorem isSym_any (A : Option Addr) (c : Nat) (rows : List (List Int)) (hl : rows.length ≤ 1000) (w : World) (h : Sll w A c rows) :
    Calls Tryz.prog 12 #[.slice A rows.length c] w fun e w' => e = .returned (.bool (symB rows)) ∧ Below w.heap.size w w' := by
  have hsq := isSquare_any A c rows hl w h
  cases hq : sqB rows with
  | false =>
    rw [hq] at hsq
    have hR : Hid (symB rows = false) := Lib.hid (by unfold symB; rw [hq]; rfl)
    clear hq
    go_enter Tryz.func12, Tryz.ntmps12
    go_wp2_with fail
    refine hsq.mono ?_; rintro e w1 ⟨rfl, hb⟩
    go_wp2
    go_ret
    rw [hR.out]
    exact ⟨rfl, hb⟩
  | true =>
    rw [hq] at hsq
    have hrow := Lib.hid (sqB_iff.1 hq).2
    have hQ := Lib.hid hq
    clear hq
    go_enter Tryz.func12, Tryz.ntmps12
    go_wp2_with fail
    refine hsq.mono ?_; rintro e w1 ⟨rfl, hb⟩
    have h1 := h.next hb
    clear hsq h
    go_wp2
    go_loop [12] (fun i => ∃ k : Nat, k ≤ rows.length ∧ i = .int .i64 k ∧ Hid (∀ i, i < k → ∀ j, j < i → mx rows i j = mx rows j i)) (fun i => rows.length - (intOf i).toNat)
    case atStart => exact ⟨0, Nat.zero_le _, rfl, Lib.hid (fun i hi => absurd hi (Nat.not_lt_zero _))⟩
    case round =>
      obtain ⟨k, hk, rfl, hO⟩ := hrel
      by_cases hlt : k < rows.length
      · obtain ⟨b, off, A1, c1, hA, _, hc, hs⟩ := h1.rowAt (i := k) hlt (hrow.out k hlt)
        have hcap : rows.length ≤ c1 := by have := hs.cap; rw [hrow.out k hlt] at this; exact this
        subst hA
        have hi1 : (k : Int) < rows.length := by omega
        go_wp2
        go_loop [21] (fun j => ∃ m : Nat, m ≤ k ∧ j = .int .i64 m ∧ Hid (∀ j, j < m → mx rows k j = mx rows j k)) (fun j => k - (intOf j).toNat)
        case atStart => exact ⟨0, Nat.zero_le _, rfl, Lib.hid (fun i hi => absurd hi (Nat.not_lt_zero _))⟩
        case round =>
          obtain ⟨m, hm, rfl, hI⟩ := hrel
          by_cases hlm : m < k
          · obtain ⟨b2, off2, A2, c2, hA2, _, hc2, hs2⟩ := h1.rowAt (i := m) (by omega) (hrow.out m (by omega))
            injection hA2 with hA2
            injection hA2 with e1 e2
            subst e1 e2
            obtain ⟨b3, off3, x, hA3, _, hx, hcx⟩ := hs.at_ (k := m) (by rw [hrow.out k hlt]; omega)
            obtain ⟨b4, off4, y, hA4, _, hy, hcy⟩ := hs2.at_ (k := k) (by rw [hrow.out m (by omega)]; omega)
            subst hA3 hA4
            have hX := Lib.hid (mx_at2 hx)
            have hY := Lib.hid (mx_at2 hy)
            have hi2 : (m : Int) < k := by omega
            have hi3 : (m : Int) < rows.length := by omega
            clear hx hy
            by_cases hxy : x = y
            · subst hxy
              have hN := Lib.hid (show ∀ j, j < m + 1 → mx rows k j = mx rows j k from fun j hj => by
                by_cases e : j = m
                · subst e; rw [hX.out, hY.out]
                · exact hI.out j (by omega))
              clear hI
              go_wp2
              go_round
              case rel => exact ⟨m + 1, by omega, by simp, hN⟩
              case measure => simp [intOf]; omega
            · have hN : Hid (symB rows = false) := Lib.hid (by
                cases hq : symB rows with
                | false => rfl
                | true => exact absurd ((symB_iff.1 hq).2 k hlt m hlm) (by rw [hX.out, hY.out]; exact hxy))
              have hb' : (x != y) = true := bne_iff_ne.2 hxy
              clear hI hO hxy
              go_wp2
              go_ret
              rw [hN.out]
              exact ⟨rfl, hb⟩
          · obtain rfl : m = k := by omega
            have hN := Lib.hid (show ∀ i, i < m + 1 → ∀ j, j < i → mx rows i j = mx rows j i from fun i hi => by
              by_cases e : i = m
              · subst e; exact hI.out
              · exact hO.out i (by omega))
            clear hI hO
            go_wp2
            go_round
            case rel => exact ⟨m + 1, by omega, by simp, hN⟩
            case measure => simp [intOf]; omega
      · obtain rfl : k = rows.length := by omega
        have hN : Hid (symB rows = true) := Lib.hid (symB_iff.2 ⟨hQ.out, hO.out⟩)
        go_wp2
        go_ret
        rw [hN.out]
        exact ⟨rfl, hb⟩
theorem rSquare10_any (A : Option Addr) (c : Nat) (rows : List (List Int)) (hl : rows.length ≤ 1000) (w : World) (h : Sll w A c rows) :
    Calls Tryz.prog 51 #[.slice A rows.length c] w fun e w' => e = .returned (.bool (sqB rows)) ∧ Below w.heap.size w w' := by
  go_enter Tryz.func51, Tryz.ntmps51
  go_wp2
  go_loop [3] (fun i => ∃ k : Nat, k ≤ rows.length ∧ i = .int .i64 k ∧ Hid (∀ i, i < k → (ro rows i).length = rows.length)) (fun i => rows.length - (intOf i).toNat)
  case atStart => exact ⟨0, Nat.zero_le _, rfl, Lib.hid (fun i hi => absurd hi (Nat.not_lt_zero _))⟩
  case round =>
    obtain ⟨k, hk, rfl, hI⟩ := hrel
    by_cases hlt : k < rows.length
    · obtain ⟨b, off, A1, c1, hA, _, hc, hs⟩ := h.rowAt (i := k) hlt rfl
      subst hA
      have hi1 : (k : Int) < rows.length := by omega
      by_cases he : (ro rows k).length = rows.length
      · have hN := Lib.hid (show ∀ i, i < k + 1 → (ro rows i).length = rows.length from fun i hi => by
          by_cases e : i = k
          · subst e; exact he
          · exact hI.out i (by omega))
        rw [he] at hc
        clear he hI
        go_wp2
        go_round
        case rel => exact ⟨k + 1, by omega, by simp, hN⟩
        case measure => simp [intOf]; omega
      · have hN : Hid (sqB rows = false) := Lib.hid (by
          cases hq : sqB rows with
          | false => rfl
          | true => exact absurd ((sqB_iff.1 hq).2 k hlt) he)
        have hb' : (((ro rows k).length : Int) != rows.length) = true := bne_iff_ne.2 (by omega)
        clear hI he
        go_wp2
        go_ret
        rw [hN.out]
        exact ⟨rfl, Below.refl _ _⟩
    · obtain rfl : k = rows.length := by omega
      have hN : Hid (decide (0 < rows.length) = sqB rows) := Lib.hid (by
        unfold sqB
        rw [lenB_iff.2 hI.out, Bool.and_true])
      go_wp2
      go_ret
      rw [← hN.out]
      exact ⟨rfl, Below.refl _ _⟩
set_option maxHeartbeats 1000000 in
theorem rSym_any (A : Option Addr) (c : Nat) (rows : List (List Int)) (hl : rows.length ≤ 1000) (w : World) (h : Sll w A c rows) :
    Calls Tryz.prog 25 #[.slice A rows.length c] w fun e w' => e = .returned (.bool (symB rows)) ∧ Below w.heap.size w w' := by
  have hsq := rSquare10_any A c rows hl w h
  cases hq : sqB rows with
  | false =>
    rw [hq] at hsq
    have hR : Hid (symB rows = false) := Lib.hid (by unfold symB; rw [hq]; rfl)
    clear hq
    go_enter Tryz.func25, Tryz.ntmps25
    go_wp2_with fail
    refine hsq.mono ?_; rintro e w1 ⟨rfl, hb⟩
    go_wp2
    go_ret
    rw [hR.out]
    exact ⟨rfl, hb⟩
  | true =>
    rw [hq] at hsq
    have hrow := Lib.hid (sqB_iff.1 hq).2
    have hQ := Lib.hid hq
    clear hq
    go_enter Tryz.func25, Tryz.ntmps25
    go_wp2_with fail
    refine hsq.mono ?_; rintro e w1 ⟨rfl, hb⟩
    have h1 := h.next hb
    clear hsq h
    go_wp2
    go_loopw [3] (fun i wr => ∃ k q : Nat, k ≤ rows.length ∧ i = .int .i64 k ∧ Hid (∀ i, i < k → ∀ j, j < i → mx rows i j = mx rows j i) ∧ wr = w1.drewN q) (fun i _ => rows.length - (intOf i).toNat)
    case atStart => exact ⟨0, 0, Nat.zero_le _, rfl, Lib.hid (fun i hi => absurd hi (Nat.not_lt_zero _)), rfl⟩
    case round =>
      obtain ⟨k, q, hk, rfl, hO, rfl⟩ := hrel
      by_cases hlt : k < rows.length
      · obtain ⟨b, off, A1, c1, hA, _, hc, hs⟩ := h1.rowAt (i := k) hlt (hrow.out k hlt)
        have hcap : rows.length ≤ c1 := by have := hs.cap; rw [hrow.out k hlt] at this; exact this
        subst hA
        have hi1 : (k : Int) < rows.length := by omega
        go_wp2
        go_loopw [4] (fun j wr => ∃ m q : Nat, m ≤ k ∧ j = .int .i64 m ∧ Hid (∀ j, j < m → mx rows k j = mx rows j k) ∧ wr = w1.drewN q) (fun j _ => k - (intOf j).toNat)
        case atStart => exact ⟨0, q, Nat.zero_le _, rfl, Lib.hid (fun i hi => absurd hi (Nat.not_lt_zero _)), rfl⟩
        case round =>
          obtain ⟨m, q, hm, rfl, hI, rfl⟩ := hrel
          by_cases hlm : m < k
          · obtain ⟨b2, off2, A2, c2, hA2, _, hc2, hs2⟩ := h1.rowAt (i := m) (by omega) (hrow.out m (by omega))
            injection hA2 with hA2
            injection hA2 with e1 e2
            subst e1 e2
            obtain ⟨b3, off3, x, hA3, _, hx, hcx⟩ := hs.at_ (k := m) (by rw [hrow.out k hlt]; omega)
            obtain ⟨b4, off4, y, hA4, _, hy, hcy⟩ := hs2.at_ (k := k) (by rw [hrow.out m (by omega)]; omega)
            subst hA3 hA4
            have hX := Lib.hid (mx_at2 hx)
            have hY := Lib.hid (mx_at2 hy)
            have hi2 : (m : Int) < k := by omega
            have hi3 : (m : Int) < rows.length := by omega
            clear hx hy
            by_cases hxy : x = y
            · subst hxy
              have hN := Lib.hid (show ∀ j, j < m + 1 → mx rows k j = mx rows j k from fun j hj => by
                by_cases e : j = m
                · subst e; rw [hX.out, hY.out]
                · exact hI.out j (by omega))
              clear hI
              go_wp2
              go_quiet (fail)
              go_wp2
              go_roundw
              case rel => exact ⟨m + 1, _, by omega, by simp, hN, by first | rfl | (simp; rfl)⟩
              case measure => simp [intOf]; omega
            · have hN : Hid (symB rows = false) := Lib.hid (by
                cases hq : symB rows with
                | false => rfl
                | true => exact absurd ((symB_iff.1 hq).2 k hlt m hlm) (by rw [hX.out, hY.out]; exact hxy))
              have hb' : (x != y) = true := bne_iff_ne.2 hxy
              clear hI hO hxy
              go_wp2
              go_quiet (fail)
              go_wp2
              go_ret
              rw [hN.out]
              exact ⟨rfl, by first | exact below_drewN hb _ | (simp; exact below_drewN hb _)⟩
          · obtain rfl : m = k := by omega
            have hN := Lib.hid (show ∀ i, i < m + 1 → ∀ j, j < i → mx rows i j = mx rows j i from fun i hi => by
              by_cases e : i = m
              · subst e; exact hI.out
              · exact hO.out i (by omega))
            clear hI hO
            go_wp2
            go_roundw
            case rel => exact ⟨m + 1, _, by omega, by simp, hN, by first | rfl | (simp; rfl)⟩
            case measure => simp [intOf]; omega
      · obtain rfl : k = rows.length := by omega
        have hN : Hid (symB rows = true) := Lib.hid (symB_iff.2 ⟨hQ.out, hO.out⟩)
        go_wp2
        go_ret
        rw [hN.out]
        exact ⟨rfl, below_drewN hb _⟩
end Go.Proofs.YtkhiiiggmhncbaaGreat
