/- square, Rank and Det of the reference of layer 6. Nothing that lay is changed. Conditions: a supported prime, words of its field, at most 100 rows and columns. -/
import Derived.Test.YtgkhngiiimnchaaRRed
namespace Go.Proofs.Ytgkhngiiimnchaa
open Go.RowKit PolyMath FieldMath MatMath

theorem rSquare_any (A : Option Addr) (c : Nat) (rows : List (List Int)) (hl : rows.length ≤ 1000) (w : World) (h : Sll w A c rows) :
    Calls Try.prog 42 #[.slice A rows.length c] w fun e w' => e = .returned (.bool (squ rows)) ∧ Below w.heap.size w w' := by
  have h1 := rRect_b A c rows (by omega) w h
  cases hr : rect rows with
  | false =>
    have hF : Hid (squ rows = false) := Lib.hid (by unfold squ; rw [hr, Bool.and_false])
    rw [hr] at h1
    go_enter Try.func42, Try.ntmps42
    go_wp2_with fail
    refine h1.mono ?_; rintro e w1 ⟨rfl, hB⟩
    go_wp2_with fail
    go_ret
    rw [hF.out]
    exact ⟨rfl, hB⟩
  | true =>
    rw [hr, rectN_of hr] at h1
    by_cases h0 : 0 < rows.length
    · have h0' : (0 : Int) < rows.length := by omega
      by_cases hn : rows.length = ncol rows
      · have hF : Hid (squ rows = true) := Lib.hid (squ_iff.2 ⟨h0, hn, hr⟩)
        have hn' : ((ncol rows : Int) == rows.length) = true := beq_iff_eq.2 (by omega)
        have HN := Lib.hid hn
        clear hn
        go_enter Try.func42, Try.ntmps42
        go_wp2_with fail
        refine h1.mono ?_; rintro e w1 ⟨rfl, hB⟩
        go_wp2_with fail
        go_ret
        rw [hF.out]
        exact ⟨rfl, hB⟩
      · have hF : Hid (squ rows = false) := Lib.hid (by
          cases hs : squ rows with
          | false => rfl
          | true => exact absurd (squ_iff.1 hs).2.1 hn)
        have hn' : ((ncol rows : Int) == rows.length) = false := beq_eq_false_iff_ne.2 (by omega)
        go_enter Try.func42, Try.ntmps42
        go_wp2_with fail
        refine h1.mono ?_; rintro e w1 ⟨rfl, hB⟩
        go_wp2_with fail
        go_ret
        rw [hF.out]
        exact ⟨rfl, hB⟩
    · have h0' : ¬ (0 : Int) < rows.length := by omega
      have hF : Hid (squ rows = false) := Lib.hid (by
        cases hs : squ rows with
        | false => rfl
        | true => exact absurd (squ_iff.1 hs).1 h0)
      go_enter Try.func42, Try.ntmps42
      go_wp2_with fail
      refine h1.mono ?_; rintro e w1 ⟨rfl, hB⟩
      go_wp2_with fail
      go_ret
      rw [hF.out]
      exact ⟨rfl, hB⟩

theorem rRank_bad (p : Int) (A : Option Addr) (c : Nat) (rows : List (List Int)) (hz : Sized rows) (hr : rect rows = false) (w : World) (h : Sll w A c rows) :
    Calls Try.prog 21 #[.int .u64 p, .slice A rows.length c] w fun e w' => e = .returned (.tuple #[.int .i64 0, .int .i64 1]) ∧ Below w.heap.size w w' := by
  have h1 := rRect_b A c rows (by have := hz.1; omega) w h
  rw [hr] at h1
  go_enter Try.func21, Try.ntmps21
  go_wp2_with fail
  refine h1.mono ?_; rintro e w1 ⟨rfl, hB⟩
  go_wp2_with fail
  go_ret2
  exact ⟨rfl, hB⟩
theorem rRank_ok (p : Int) (hp : OkP p) (A : Option Addr) (c : Nat) (rows : List (List Int)) (hz : Sized rows) (hE : ∀ r ∈ rows, El p r) (hr : rect rows = true) (w : World) (h : Sll w A c rows) :
    Calls Try.prog 21 #[.int .u64 p, .slice A rows.length c] w fun e w' => e = .returned (.tuple #[.int .i64 (rnk p rows), .int .i64 0]) ∧ Below w.heap.size w w' := by
  have hz1 := hz.1
  have h1 := rRect_b A c rows (by omega) w h
  rw [hr, rectN_of hr] at h1
  have hmat := mat_of hr hE
  have hnc : ncol rows ≤ 100 := hz.2 0
  have gR := fun W (q : Sll W A c rows) => red_any p hp A c (ncol rows) (ncol rows) rows (by omega) (by omega) (Nat.le_refl _) (fun h => ncol_pos h) hmat W q
  have hR : Hid ((elim p rows (ncol rows)).pv.length = rnk p rows) := Lib.hid rfl
  clear hr
  go_enter Try.func21, Try.ntmps21
  go_wp2_with fail
  refine h1.mono ?_; rintro e w1 ⟨rfl, hB1⟩
  go_wp2_with fail
  refine (gR _ (h.next hB1)).mono ?_; rintro e w2 ⟨v, vs, pvv, rfl, hM, hP, hB2⟩
  obtain ⟨A5, c5, rfl⟩ := row_form hP
  obtain ⟨A6, c6, rfl⟩ := row_form hM.head
  clear hM hP h1 gR
  go_wp2_with fail
  go_ret2
  rw [← hR.out]
  exact ⟨rfl, hB1.trans (hB2.mono hB1.size)⟩
theorem rDet_bad (p : Int) (A : Option Addr) (c : Nat) (rows : List (List Int)) (hz : Sized rows) (hr : squ rows = false) (w : World) (h : Sll w A c rows) :
    Calls Try.prog 23 #[.int .u64 p, .slice A rows.length c] w fun e w' => e = .returned (.tuple #[.int .u64 0, .int .i64 1]) ∧ Below w.heap.size w w' := by
  have h1 := rSquare_any A c rows (by have := hz.1; omega) w h
  rw [hr] at h1
  go_enter Try.func23, Try.ntmps23
  go_wp2_with fail
  refine h1.mono ?_; rintro e w1 ⟨rfl, hB⟩
  go_wp2_with fail
  go_ret2
  exact ⟨rfl, hB⟩
theorem rDet_ok (p : Int) (hp : OkP p) (A : Option Addr) (c : Nat) (rows : List (List Int)) (hz : Sized rows) (hE : ∀ r ∈ rows, El p r) (hr : squ rows = true) (w : World) (h : Sll w A c rows) :
    Calls Try.prog 23 #[.int .u64 p, .slice A rows.length c] w fun e w' => e = .returned (.tuple #[.int .u64 (dtm p rows), .int .i64 0]) ∧ Below w.heap.size w w' := by
  have hz1 := hz.1
  have h1 := rSquare_any A c rows (by omega) w h
  obtain ⟨q1, q2, q3⟩ := squ_iff.1 hr
  rw [hr] at h1
  have hmat := mat_of q3 hE
  have hnc : ncol rows ≤ 100 := hz.2 0
  have gR := fun W (q : Sll W A c rows) => red_any p hp A c (ncol rows) rows.length rows (by omega) (by omega) (by omega) (fun h => h) hmat W q
  have hR : Hid (dtm p rows = if (elim p rows rows.length).pv.length < rows.length then 0 else (elim p rows rows.length).d) := Lib.hid rfl
  clear hr q2
  go_enter Try.func23, Try.ntmps23
  go_wp2_with fail
  refine h1.mono ?_; rintro e w1 ⟨rfl, hB1⟩
  go_wp2_with fail
  refine (gR _ (h.next hB1)).mono ?_; rintro e w2 ⟨v, vs, pvv, rfl, hM, hP, hB2⟩
  obtain ⟨A5, c5, rfl⟩ := row_form hP
  obtain ⟨A6, c6, rfl⟩ := row_form hM.head
  have hBB : Below w.heap.size w w2 := hB1.trans (hB2.mono hB1.size)
  clear hM hP h1 gR hmat
  generalize (elim p rows rows.length).pv.length = S at *
  generalize (elim p rows rows.length).d = D at *
  by_cases hS : S < rows.length
  · have hS' : (S : Int) < rows.length := by omega
    have hR2 : Hid (dtm p rows = 0) := Lib.hid (by rw [hR.out, if_pos hS])
    go_wp2_with fail
    go_ret2
    rw [hR2.out]
    exact ⟨rfl, hBB⟩
  · have hS' : ¬ (S : Int) < rows.length := by omega
    have hR2 : Hid (dtm p rows = D) := Lib.hid (by rw [hR.out, if_neg hS])
    go_wp2_with fail
    go_ret2
    rw [hR2.out]
    exact ⟨rfl, hBB⟩
end Go.Proofs.Ytgkhngiiimnchaa
