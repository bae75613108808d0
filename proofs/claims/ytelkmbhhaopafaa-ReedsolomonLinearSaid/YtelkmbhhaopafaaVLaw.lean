/- Helpers of layer 8's laws: Words at any bound and Same of the reference of layer 4, fit and awake of the laws; nothing that lay is changed. Conditions: as said. -/
import Derived.Test.YtelkmbhhaopafaaVRDec
import Derived.Test.YtelkmbhhaopafaaVPts
import Derived.Test.YtelkmbhhaopafaaMB
namespace Go.Proofs.Ytelkmbhhaopafaa
set_option maxRecDepth 100000
open Go.RowKit PolyMath FieldMath MatMath

/-- The elements that Words makes of the first words. -/
def wdN (p : Int) (l : List Int) (n : Nat) : List Int := (l.take n).map (· % p)
theorem wdN_len (p : Int) (l : List Int) (n : Nat) : (wdN p l n).length ≤ n := by unfold wdN; rw [List.length_map, List.length_take]; omega
theorem wdN_el {p : Int} (hp : 0 < p) (l : List Int) (n : Nat) : El p (wdN p l n) := by
  intro x hx
  obtain ⟨y, _, rfl⟩ := List.mem_map.1 hx
  exact md _ _ hp
theorem wdN_eq (p : Int) (l : List Int) (n : Nat) : (List.range (min l.length n)).map (fun k => co l k % p) = wdN p l n := by
  unfold wdN
  rw [show (l.take n) = (List.range (min l.length n)).map (co l) from ?_, List.map_map]
  · rfl
  · apply List.ext_getElem (by simp; omega)
    intro k h1 h2
    rw [List.getElem_map, List.getElem_range, List.getElem_take, co_get]

set_option maxHeartbeats 1000000 in
theorem words8_row (p : Int) (hp : OkP p) (n : Nat) (hn : n ≤ 20) (A : Option Addr) (ca : Nat) (a : List Int) (hw : ∀ x ∈ a, 0 ≤ x ∧ x ≤ 18446744073709551615) (w : World) (hra : Sl w A ca a) :
    Calls Try.prog 16 #[.int .u64 p, .slice A a.length ca, .int .i64 n] w fun e w' => Row w e w' (wdN p a n) := by
  obtain ⟨i0, hi, hz0, hz1, hz2⟩ := info_parts info_u64
  have hbd := hp.bd
  go_enter Try.func16, Try.ntmps16
  go_wp2
  go_loopw [7, 8] (fun v i wr => ∃ k : Nat, k ≤ min a.length n ∧ i = .int .i64 k ∧ wr.ownsRow w.heap.size 22 1 v k (((List.range k).map fun n => co a n % p).map (Value.int .u64)) ∧ Below w.heap.size w wr) (fun _ i _ => min a.length n - (intOf i).toNat)
  case atStart => exact ⟨0, Nat.zero_le _, rfl, World.ownsRow_nil _ _ _ _, Below.refl _ _⟩
  case round =>
    obtain ⟨k, hk, rfl, hrow, hB⟩ := hrel
    have hsz := hB.size
    by_cases hlt : k < min a.length n
    · obtain ⟨b, off, x, hA, _, hx, hcx⟩ := (hra.next hB).at_ (k := k) (by omega)
      subst hA
      have hxb := hw x (List.mem_of_getElem? hx)
      have hX := Lib.hid (co_at hx)
      have hk' : (k : Int) < a.length := by omega
      have hk2 : (k : Int) < n := by omega
      clear hx
      go_wp2_with (at_builtin; refine wpList_append_own _ rfl _ _ 28 rfl w.heap.size 22 i0 (.int .u64 0) 1 8 Try.underlying28 hi hz0 hz1 hz2 rfl (by decide) _ _ _ rfl (hrow.alloc _) ⟨wr.heap.size, 0, none⟩ 1 1 [.int .u64 (x % p)] rfl rfl (cell_one_new _ _ _) (by simp [Value.oneCell']) (by simp only [maxLen]; omega) (by omega) (by simp; omega) ?_; intro v' w2 hown' hgrow _)
      have hB2 : Below w.heap.size w w2 := (hB.alloc hsz _).grown hgrow (by simp; omega) (fun k e => (hrow.lt k e).1)
      go_roundw
      case rel => exact ⟨k + 1, by omega, by simp, own_next (f := fun n => co a n % p) (by show World.ownsRow _ _ _ _ _ _ (_ ++ [.int .u64 (co a k % p)]); rw [hX.out]; exact hown'), hB2⟩
      case measure => simp [intOf]; omega
    · obtain rfl : k = min a.length n := by omega
      rw [wdN_eq] at hrow
      obtain ⟨A2, c2, hv, hs2⟩ := own_form hrow
      subst hv
      have hS := Lib.hid hs2
      clear hrow hs2
      generalize hm : min a.length n = k at *
      have HM := Lib.hid hm
      clear hk hlt
      by_cases hl : k < a.length
      · have h1 : (k : Int) < a.length := by omega
        have h2 : ¬ (k : Int) < n := by omega
        clear hm
        go_wp2
        go_ret
        exact ⟨A2, c2, rfl, hS.out, hB⟩
      · have h1 : ¬ (k : Int) < a.length := by omega
        clear hm
        go_wp2
        go_ret
        exact ⟨A2, c2, rfl, hS.out, hB⟩

theorem same8_any (A A' : Option Addr) (xs ys : List Int) (c c' : Nat) (w : World) (h : Sl w A c xs) (h' : Sl w A' c' ys) (hl : xs.length ≤ 1000) (hl' : ys.length ≤ 1000) :
    Calls Try.prog 21 #[.slice A xs.length c, .slice A' ys.length c'] w fun e w' => e = .returned (.bool (decide (trim xs = trim ys))) ∧ Below w.heap.size w w' := by
  have t1 := rTrim_any A c xs w h hl
  have t2 := fun W H => rTrim_any A' c' ys W H hl'
  have hq := fun A B c c' W H H' => equal_any A B (trim xs) (trim ys) c c' W H H' (by rw [trim_length]; have := tn_le xs; omega)
  go_enter Try.func21, Try.ntmps21
  go_wp2_with fail
  refine t1.mono ?_
  rintro e w1 ⟨A1, c1, rfl, s1, b1⟩
  have h2 := h'.next b1
  go_wp2_with fail
  refine (t2 w1 h2).mono ?_
  rintro e w2 ⟨A2, c2, rfl, s2, b2⟩
  have s1' := s1.next b2
  go_wp2_with fail
  refine (hq A1 A2 c1 c2 w2 s1' s2).mono ?_
  rintro e w3 ⟨rfl, b3⟩
  have hB := b1.trans ((b2.trans (b3.mono b2.size)).mono b1.size)
  go_wp2
  go_ret
  exact ⟨rfl, hB⟩

/-- fit: the prime, and the points over its field. -/
theorem fit8_row (P : Int) (hP0 : 0 ≤ P) (hP : P ≤ 18446744073709551615) (B : Option Addr) (cb : Nat) (ps : List (Int × Int)) (hw : PWords ps) (deg wr : Int) (w : World) (sp : Pt w B cb ps) :
    Calls Try.prog 10 #[.agg #[.int .u64 P, .slice B ps.length cb, .int .i64 deg, .int .i64 wr]] w fun e w' => ∃ A c, e = .returned (.tuple #[.int .u64 (fitP P), .slice A (fitPs (fitP P) ps 9).length c]) ∧ Pt w' A c (fitPs (fitP P) ps 9) ∧ Below w.heap.size w w' := by
  have hfit := fun W => rFit_any P hP0 hP W
  have hpts := fun W h => points8_row (fitP P) (fitP_ok P) B cb ps hw 9 (by omega) W h
  have hB0 : Below w.heap.size w (w.alloc (.cells #[.int .u64 P, .slice B ps.length cb, .int .i64 deg, .int .i64 wr] 25)) := (Below.refl _ w).alloc (Nat.le_refl _) _
  have hlt : w.heap.size < (w.alloc (.cells #[.int .u64 P, .slice B ps.length cb, .int .i64 deg, .int .i64 wr] 25)).heap.size := by simp
  have c1 : (w.alloc (.cells #[.int .u64 P, .slice B ps.length cb, .int .i64 deg, .int .i64 wr] 25)).cell? ⟨w.heap.size, 1, none⟩ = some (.slice B ps.length cb) := by go_simp
  generalize fitP P = p at *
  go_enter Try.func10, Try.ntmps10
  go_wp2_with fail
  refine (hfit _).mono ?_
  rintro e w1 ⟨rfl, b1⟩
  have c2 := (b1.cell (p := ⟨w.heap.size, 1, none⟩) hlt).trans c1
  have hB1 := hB0.trans (b1.mono hB0.size)
  have sp1 := sp.next hB1
  go_wp2_with fail
  refine (hpts w1 sp1).mono ?_
  rintro e w2 ⟨A, c, rfl, s2, b2⟩
  have hB2 := hB1.trans (b2.mono hB1.size)
  have HS := Lib.hid s2
  clear s2
  go_wp2
  go_ret2
  exact ⟨A, c, rfl, HS.out, hB2⟩

/-! ### The document's example -/
def exPs : List (Int × Int) := [(1, 2), (2, 3), (3, 9), (4, 5)]
theorem ex_x : El 31 (px exPs) := by
  intro z hz
  have : z = 1 ∨ z = 2 ∨ z = 3 ∨ z = 4 := by simpa [exPs, px] using hz
  omega
theorem ex_y : El 31 (py exPs) := by
  intro z hz
  have : z = 2 ∨ z = 3 ∨ z = 9 ∨ z = 5 := by simpa [exPs, py] using hz
  omega
theorem ex_nd : (px exPs).Nodup := by decide
theorem ex_errs : errs 31 [1, 1] exPs = [2] := by decide +kernel
theorem ex_el : El 31 [1, 1] := fun x hx => by
  have h : x = 1 := by simpa using hx
  omega
theorem ex_dec : Dec 31 exPs 1 1 [1, 1] := ⟨ex_el, by decide +kernel, by decide, by rw [ex_errs]; decide⟩
theorem ex_v1 : Valid exPs 1 1 := ⟨⟨by decide, by decide, by decide⟩, ex_nd⟩
theorem ex_v2 : ¬ Valid exPs 1 2 := fun h => absurd h.1.2.2 (by decide)
theorem ex_v0 : Valid exPs 1 0 := ⟨⟨by decide, by decide, by decide⟩, ex_nd⟩
theorem ex_no : ∀ f, ¬ Dec 31 exPs 1 0 f := fun f h => by
  have h2 : Dec 31 exPs 1 1 f := ⟨h.el, h.tr, h.le, Nat.le_trans h.few (by omega)⟩
  have e := Dec.unique (OkP.good (.inl rfl)) ex_nd ex_x (by decide) h2 ex_dec
  have := h.few
  rw [e, ex_errs] at this
  exact absurd this (by decide)
theorem Pt.lit4 (w : World) (x0 y0 x1 y1 x2 y2 x3 y3 : Int) : Pt (w.alloc (.cells #[.int .u64 x0, .int .u64 y0, .int .u64 x1, .int .u64 y1, .int .u64 x2, .int .u64 y2, .int .u64 x3, .int .u64 y3] 49)) (some ⟨w.heap.size, 0, none⟩) 4 [(x0, y0), (x1, y1), (x2, y2), (x3, y3)] :=
  ⟨Nat.le_refl _, (fun h => absurd h (by simp)), fun ad hA _ => by
    injection hA with hA
    subst hA
    refine ⟨w.heap.size, 0, rfl, by simp, fun j q hq => ?_⟩
    have hj := (List.getElem?_eq_some_iff.1 hq).1
    rw [cell_of_row _ w.heap.size (0 + j * 2) _ 49 (0, 0) (heap_alloc_new w _), cell_of_row _ w.heap.size (0 + j * 2 + 1) _ 49 (0, 0) (heap_alloc_new w _)]
    rcases (show j = 0 ∨ j = 1 ∨ j = 2 ∨ j = 3 by simp at hj; omega) with rfl | rfl | rfl | rfl <;> (simp at hq; subst hq; exact ⟨rfl, rfl⟩)⟩
theorem ex1 (A : Option Addr) (c : Nat) (w : World) (h : Pt w A c exPs) : Calls Try.prog 11 #[.int .u64 31, .slice A 4 c, .int .i64 1, .int .i64 1] w fun e w' => ∃ A1 c1 A2 c2, e = .returned (.tuple #[.slice A1 2 c1, .slice A2 1 c2, .int .i64 0]) ∧ Sl w' A1 c1 [1, 1] ∧ Si w' A2 c2 [2] ∧ Below w.heap.size w w' := by
  refine (decode_any 31 (.inl rfl) A c exPs ex_x ex_y 1 1 (.inl (by decide)) w h).mono ?_
  rintro e w' (⟨hv, _⟩ | ⟨_, hno, _⟩ | ⟨_, f, A1, c1, A2, c2, hd, rfl, h1, h2, hb⟩)
  · exact absurd ex_v1 hv
  · exact absurd ex_dec (hno _)
  · have e := Dec.unique (OkP.good (.inl rfl)) ex_nd ex_x (by decide) (show Dec 31 exPs 1 1 f from hd) ex_dec
    subst e
    have e2 : errI 31 [1, 1] exPs = [2] := by unfold errI; rw [ex_errs]; rfl
    rw [e2] at h2 ⊢
    exact ⟨A1, c1, A2, c2, rfl, h1, h2, hb⟩
theorem ex2 (A : Option Addr) (c : Nat) (w : World) (h : Pt w A c exPs) : Calls Try.prog 11 #[.int .u64 31, .slice A 4 c, .int .i64 1, .int .i64 2] w fun e w' => e = .returned (.tuple #[.slice none 0 0, .slice none 0 0, .int .i64 1]) ∧ Below w.heap.size w w' := by
  refine (decode_any 31 (.inl rfl) A c exPs ex_x ex_y 1 2 (.inl (by decide)) w h).mono ?_
  rintro e w' (⟨_, rfl, hb⟩ | ⟨hv, _⟩ | ⟨hv, _⟩)
  · exact ⟨rfl, hb⟩
  · exact absurd hv ex_v2
  · exact absurd hv ex_v2
theorem ex3 (A : Option Addr) (c : Nat) (w : World) (h : Pt w A c exPs) : Calls Try.prog 11 #[.int .u64 31, .slice A 4 c, .int .i64 1, .int .i64 0] w fun e w' => e = .returned (.tuple #[.slice none 0 0, .slice none 0 0, .int .i64 9]) ∧ Below w.heap.size w w' := by
  refine (decode_any 31 (.inl rfl) A c exPs ex_x ex_y 1 0 (.inl (by decide)) w h).mono ?_
  rintro e w' (⟨hv, _⟩ | ⟨_, _, rfl, hb⟩ | ⟨_, f, _, _, _, _, hd, _⟩)
  · exact absurd ex_v0 hv
  · exact ⟨rfl, hb⟩
  · exact absurd hd (ex_no f)

set_option maxHeartbeats 2000000 in
theorem awake8_any (w : World) : Calls Try.prog 13 #[] w fun e w' => e = .returned (.bool true) ∧ Below w.heap.size w w' := by
  have hpt := Pt.lit4 w 1 2 2 3 3 9 4 5
  have hB0 : Below w.heap.size w (w.alloc (.cells #[.int .u64 1, .int .u64 2, .int .u64 2, .int .u64 3, .int .u64 3, .int .u64 9, .int .u64 4, .int .u64 5] 49)) := (Below.refl _ w).alloc (Nat.le_refl _) _
  change Pt _ _ 4 exPs at hpt
  have her := fun A c W h1 h2 => errp_row 31 (.inl rfl) A (some ⟨w.heap.size, 0, none⟩) c 4 [1, 1] ex_el (by decide) exPs ex_x (by decide) W h1 h2
  have e2 : errI 31 [1, 1] exPs = [2] := by unfold errI; rw [ex_errs]; rfl
  simp only [e2] at her
  have hq := fun A B c c' W h h' => equal_is A B [1, 1] [1, 1] c c' W h h' (by decide) rfl
  go_enter Try.func13, Try.ntmps13
  go_wp2_with fail
  refine (ex1 _ _ _ hpt).mono ?_
  rintro e w1 ⟨A1, c1, A2, c2, rfl, s1, i1, b1⟩
  have p1 := hpt.next b1
  have hB1 := hB0.trans (b1.mono hB0.size)
  go_wp2_with fail
  refine (ex2 _ _ _ p1).mono ?_
  rintro e w2 ⟨rfl, b2⟩
  have p2 := p1.next b2
  have hB2 := hB1.trans (b2.mono hB1.size)
  go_wp2_with fail
  refine (ex3 _ _ _ p2).mono ?_
  rintro e w3 ⟨rfl, b3⟩
  have p3 := p2.next b3
  have hB3 := hB2.trans (b3.mono hB2.size)
  have s3 := (s1.next b2).next b3
  have i3 := (i1.next b2).next b3
  clear s1 i1 hpt p1 p2
  go_wp2_with fail
  have hb4 : Below w3.heap.size w3 (w3.alloc (.cells #[.int .u64 1, .int .u64 1] 22)) := (Below.refl _ w3).alloc (Nat.le_refl _) _
  refine (hq A1 _ c1 _ _ (s3.next hb4) (Sl.l2 w3 1 1)).mono ?_
  rintro e w5 ⟨rfl, b5⟩
  have hb5 := hb4.trans (b5.mono hb4.size)
  have hB5 := hB3.trans (hb5.mono hB3.size)
  have s5 := s3.next hb5
  have p5 := p3.next hb5
  obtain ⟨bi, oi, z, hAi, _, hz, hcz⟩ := (i3.next hb5).at_ (k := 0) (by decide)
  subst hAi
  obtain rfl : z = 2 := by simpa using hz.symm
  rw [Nat.add_zero] at hcz
  clear hz
  go_wp2_with fail
  refine (her A1 c1 w5 s5 p5).mono ?_
  rintro e w6 ⟨A6, c6, rfl, _, b6⟩
  have hB6 := hB5.trans (b6.mono hB5.size)
  go_wp2
  go_ret
  exact ⟨rfl, hB6⟩
end Go.Proofs.Ytelkmbhhaopafaa
