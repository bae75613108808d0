/- Rank and Det of package matrix, by elimination on a clone. Nothing that lay is changed. Conditions: a supported prime, words of its field, at most 100 rows and columns. -/
import Derived.Test.YtgkhngiiimnchaaRElim
namespace Go.Proofs.Ytgkhngiiimnchaa
open Go.RowKit PolyMath FieldMath MatMath

theorem elimV_any (p : Int) (hp : OkP p) (base N L cols : Nat) (v : Value) (vs : List Value) (A : List (List Int)) (hN : N ≤ 1000) (hL : L ≤ 1000) (hc : cols ≤ L) (h0 : 0 < cols → 0 < N) (hA : Mat p N L A)
    (w : World) (hb : base ≤ w.heap.size) (hM : MP base w v N N vs A) :
    Calls Try.prog 38 #[.int .u64 p, v, .int .i64 cols] w fun e w' =>
      ∃ pvv vs', e = .returned (.tuple #[pvv, .int .u64 (elim p A cols).d]) ∧ MP base w' v N N vs' (elim p A cols).R ∧ w'.ownsRow base 3 1 pvv (elim p A cols).pv.length (pvs (elim p A cols).pv) ∧ Below base w w' := by
  by_cases hc0 : cols = 0
  · subst hc0
    obtain ⟨A1, c1, rfl⟩ := row_form hM.head
    refine (elim_none p A1 N c1 w).mono ?_
    rintro e w' ⟨rfl, rfl⟩
    exact ⟨_, vs, rfl, hM, World.ownsRow_nil _ _ _ _, Below.refl _ _⟩
  · obtain ⟨g, c, rfl, _, _⟩ := World.ownsRow.form hM.head (by omega)
    exact elim_any p hp base g c N L cols vs A hN hL hc hA w hb hM

theorem mat_of {p : Int} {rows : List (List Int)} (hr : rect rows = true) (hE : ∀ r ∈ rows, El p r) : Mat p rows.length (ncol rows) rows :=
  .of rfl fun i hi => ⟨rect_iff.1 hr i hi, hE _ (List.mem_of_getElem? (ro_get hi))⟩
theorem ncol_pos {rows : List (List Int)} (h : 0 < ncol rows) : 0 < rows.length := by
  unfold ncol at h
  cases rows with
  | nil => exact absurd h (Nat.lt_irrefl 0)
  | cons r rs => exact Nat.succ_pos _
/-- At most 100 rows of at most 100 words. -/
def Sized (rows : List (List Int)) : Prop := rows.length ≤ 100 ∧ ∀ i, (ro rows i).length ≤ 100
theorem Sized.of {rows : List (List Int)} (h1 : rows.length ≤ 100) (h2 : ∀ r ∈ rows, r.length ≤ 100) : Sized rows := ⟨h1, fun i => by
  by_cases h : i < rows.length
  · exact h2 _ (List.mem_of_getElem? (ro_get h))
  · unfold ro; rw [List.getElem?_eq_none (by omega)]; exact Nat.zero_le _⟩

/-- The rank. -/
def rnk (p : Int) (rows : List (List Int)) : Nat := (elim p rows (ncol rows)).pv.length

theorem rank_bad (p : Int) (A : Option Addr) (c : Nat) (rows : List (List Int)) (hz : Sized rows) (hr : rect rows = false) (w : World) (h : Sll w A c rows) :
    Calls Try.prog 20 #[.int .u64 p, .slice A rows.length c] w fun e w' => e = .returned (.tuple #[.int .i64 0, .int .i64 1]) ∧ Below w.heap.size w w' := by
  have h1 := rectangular_any A c rows (by have := hz.1; omega) w h
  rw [hr] at h1
  go_enter Try.func20, Try.ntmps20
  go_wp2_with fail
  refine h1.mono ?_; rintro e w1 ⟨rfl, hB⟩
  go_wp2_with fail
  go_ret2
  exact ⟨rfl, hB⟩

theorem rank_ok (p : Int) (hp : OkP p) (A : Option Addr) (c : Nat) (rows : List (List Int)) (hz : Sized rows) (hE : ∀ r ∈ rows, El p r) (hr : rect rows = true) (w : World) (h : Sll w A c rows) :
    Calls Try.prog 20 #[.int .u64 p, .slice A rows.length c] w fun e w' => e = .returned (.tuple #[.int .i64 (rnk p rows), .int .i64 0]) ∧ Below w.heap.size w w' := by
  have hz1 := hz.1
  have hz2 := hz.2
  have h1 := rectangular_any A c rows (by omega) w h
  rw [hr] at h1
  have hmat := mat_of hr hE
  have hnc : ncol rows ≤ 100 := hz2 0
  have hcp := fun h : 0 < ncol rows => ncol_pos h
  have hR : Hid ((elim p rows (ncol rows)).pv.length = rnk p rows) := Lib.hid rfl
  clear hr
  go_enter Try.func20, Try.ntmps20
  go_wp2_with fail
  refine h1.mono ?_; rintro e w1 ⟨rfl, hB1⟩
  have hs1 := h.next hB1
  have h2 := cloneRows_any A c rows w1 hs1 (by omega) (fun i => by have := hz2 i; omega)
  clear h1
  go_wp2_with fail
  refine h2.mono ?_; rintro e w2 ⟨v, vs, rfl, hM, hB2⟩
  have h3 := columns_any A c rows w2 (hs1.next hB2)
  have h4 := elimV_any p hp w1.heap.size rows.length (ncol rows) (ncol rows) v vs rows (by omega) (by omega) (Nat.le_refl _) hcp hmat w2 hB2.size hM
  clear h2
  go_wp2_with fail
  refine h3.mono ?_; rintro e w' ⟨rfl, rfl⟩
  clear h3
  go_wp2_with fail
  refine h4.mono ?_; rintro e w4 ⟨pvv, vs4, rfl, hM4, hP4, hB4⟩
  obtain ⟨A5, c5, rfl⟩ := row_form hP4
  clear h4
  go_wp2_with fail
  go_ret2
  rw [← hR.out]
  exact ⟨rfl, (hB1.trans (hB2.mono hB1.size)).trans (hB4.mono hB1.size)⟩

/-- The determinant. -/
def dtm (p : Int) (rows : List (List Int)) : Int := if (elim p rows rows.length).pv.length < rows.length then 0 else (elim p rows rows.length).d

theorem det_bad (p : Int) (A : Option Addr) (c : Nat) (rows : List (List Int)) (hz : Sized rows) (hr : squ rows = false) (w : World) (h : Sll w A c rows) :
    Calls Try.prog 22 #[.int .u64 p, .slice A rows.length c] w fun e w' => e = .returned (.tuple #[.int .u64 0, .int .i64 1]) ∧ Below w.heap.size w w' := by
  have h1 := square_any A c rows (by have := hz.1; omega) w h
  rw [hr] at h1
  go_enter Try.func22, Try.ntmps22
  go_wp2_with fail
  refine h1.mono ?_; rintro e w1 ⟨rfl, hB⟩
  go_wp2_with fail
  go_ret2
  exact ⟨rfl, hB⟩

theorem det_ok (p : Int) (hp : OkP p) (A : Option Addr) (c : Nat) (rows : List (List Int)) (hz : Sized rows) (hE : ∀ r ∈ rows, El p r) (hr : squ rows = true) (w : World) (h : Sll w A c rows) :
    Calls Try.prog 22 #[.int .u64 p, .slice A rows.length c] w fun e w' => e = .returned (.tuple #[.int .u64 (dtm p rows), .int .i64 0]) ∧ Below w.heap.size w w' := by
  have hz1 := hz.1
  have hz2 := hz.2
  have h1 := square_any A c rows (by omega) w h
  obtain ⟨q1, q2, q3⟩ := squ_iff.1 hr
  rw [hr] at h1
  have hmat := mat_of q3 hE
  have hnc : ncol rows ≤ 100 := hz2 0
  have hR : Hid (dtm p rows = if (elim p rows rows.length).pv.length < rows.length then 0 else (elim p rows rows.length).d) := Lib.hid rfl
  have Q2 := Lib.hid q2
  clear hr q2
  go_enter Try.func22, Try.ntmps22
  go_wp2_with fail
  refine h1.mono ?_; rintro e w1 ⟨rfl, hB1⟩
  have hs1 := h.next hB1
  have h2 := cloneRows_any A c rows w1 hs1 (by omega) (fun i => by have := hz2 i; omega)
  clear h1
  go_wp2_with fail
  refine h2.mono ?_; rintro e w2 ⟨v, vs, rfl, hM, hB2⟩
  have h4 := elimV_any p hp w1.heap.size rows.length (ncol rows) rows.length v vs rows (by omega) (by omega) (by rw [← Q2.out]; exact Nat.le_refl _) (fun h => h) hmat w2 hB2.size hM
  clear h2
  go_wp2_with fail
  refine h4.mono ?_; rintro e w4 ⟨pvv, vs4, rfl, hM4, hP4, hB4⟩
  obtain ⟨A5, c5, rfl⟩ := row_form hP4
  have hBB : Below w.heap.size w w4 := (hB1.trans (hB2.mono hB1.size)).trans (hB4.mono hB1.size)
  clear h4 hM4 hP4 hM hmat
  generalize (elim p rows rows.length).pv.length = S at *
  generalize (elim p rows rows.length).d = D at *
  by_cases hS : S < rows.length
  · have hS' : (S : Int) < rows.length := by omega
    have hR2 : Hid (dtm p rows = 0) := Lib.hid (by rw [hR.out, if_pos hS])
    go_wp2_with fail
    go_ret2
    rw [hR2.out]
    exact ⟨rfl, hBB⟩
  · have hS' : ¬ (S : Int) < rows.length := by omega
    have hR2 : Hid (dtm p rows = D) := Lib.hid (by rw [hR.out, if_neg hS])
    go_wp2_with fail
    go_ret2
    rw [hR2.out]
    exact ⟨rfl, hBB⟩
end Go.Proofs.Ytgkhngiiimnchaa
