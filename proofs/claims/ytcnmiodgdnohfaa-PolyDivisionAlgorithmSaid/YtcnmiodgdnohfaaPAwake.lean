/- The examples of the document for layer 4 hold: awake returns true; fit selects a prime and three polynomials over its field. Nothing that lay is changed. Conditions: words. -/
import Derived.Test.YtcnmiodgdnohfaaPDivR
import Derived.Test.YtcnmiodgdnohfaaPRefMul
import Derived.Deep.RegionHeld3
namespace Go.Proofs.Ytcnmiodgdnohfaa
open Go.RowKit PolyMath FieldMath

theorem equal_is (A A' : Option Addr) (xs ys : List Int) (c c' : Nat) (w : World) (h : Sl w A c xs) (h' : Sl w A' c' ys) (hl : xs.length ≤ 1000) (e : xs = ys) :
    Calls Try.prog 11 #[.slice A xs.length c, .slice A' ys.length c'] w fun e w' => e = .returned (.bool true) ∧ Below w.heap.size w w' := by
  have := equal_any A A' xs ys c c' w h h' hl
  rwa [decide_eq_true e] at this

theorem el_dec {p : Int} {xs : List Int} (h : xs.all (fun x => decide (0 ≤ x ∧ x < p)) = true) : El p xs := fun x hx => of_decide_eq_true (List.all_eq_true.1 h x hx)
theorem ok31 : OkP 31 := .inl rfl
theorem Sl.l2b (w : World) (o : Obj) (x y : Int) : Sl ((w.alloc o).alloc (.cells #[.int .u64 x, .int .u64 y] 27)) (some ⟨w.heap.size + 1, 0, none⟩) 2 [x, y] := by
  have h := Sl.l2 (w.alloc o) x y
  rwa [World.size_alloc w o] at h
theorem Sl.l3b (w : World) (o : Obj) (x y z : Int) : Sl ((w.alloc o).alloc (.cells #[.int .u64 x, .int .u64 y, .int .u64 z] 27)) (some ⟨w.heap.size + 1, 0, none⟩) 3 [x, y, z] := by
  have h := Sl.l3 (w.alloc o) x y z
  rwa [World.size_alloc w o] at h

theorem ex_mul (A B : Option Addr) (ca cb : Nat) (w : World) (h : Sl w A ca [30, 1]) (h' : Sl w B cb [1, 1, 0]) : Calls Try.prog 27 #[.int .u64 31, .slice A 2 ca, .slice B 3 cb] w fun e w' => Row w e w' [30, 0, 1] := by
  have := mul_row 31 ok31 A B ca cb [30, 1] [1, 1, 0] (el_dec (by decide)) (el_dec (by decide)) (by decide) (by decide) w h h'
  rwa [show pmul 31 [30, 1] [1, 1, 0] = [30, 0, 1] from by decide +kernel] at this
theorem ex_div (A B : Option Addr) (ca cb : Nat) (w : World) (h : Sl w A ca [30, 0, 1]) (h' : Sl w B cb [1, 1]) : Calls Try.prog 29 #[.int .u64 31, .slice A 3 ca, .slice B 2 cb] w fun e w' =>
    ∃ A1 c1 A2 c2, e = .returned (.tuple #[.slice A1 2 c1, .slice A2 0 c2, .int .i64 0]) ∧ Sl w' A1 c1 [30, 1] ∧ Below w.heap.size w w' := by
  refine (div_row 31 ok31 A B ca cb 1 [30, 0, 1] [1, 1] (el_dec (by decide)) (el_dec (by decide)) (by decide) (by decide) w h h' (by decide +kernel)).mono ?_
  rintro e w' ⟨q, r, A1, c1, A2, c2, he, hs1, hs2, hDM, _, hb⟩
  have hE : DM 31 [30, 0, 1] [1, 1] [30, 1] [] := by
    have := DM.make (p := 31) (q := [30, 1]) (b := [1, 1]) (r := []) (el_dec (by decide)) (El.nil _) (by decide +kernel)
    rwa [show padd 31 (pmul 31 [30, 1] [1, 1]) [] = [30, 0, 1] from by decide +kernel, show trim [30, 1] = [30, 1] from by decide +kernel, show trim ([] : List Int) = [] from rfl] at this
  obtain ⟨rfl, rfl⟩ := hDM.unique ok31.good (el_dec (by decide)) hE
  exact ⟨A1, c1, A2, c2, he, hs1, hb⟩
theorem ex_zero (A B : Option Addr) (ca cb : Nat) (w : World) (h' : Sl w B cb [0, 0]) : Calls Try.prog 29 #[.int .u64 31, .slice A 3 ca, .slice B 2 cb] w fun e w' => e = .returned (.tuple #[.slice none 0 0, .slice none 0 0, .int .i64 8]) ∧ Below w.heap.size w w' :=
  div_zero 31 ok31 A B ca cb [30, 0, 1] [0, 0] (by decide) w h' (by decide +kernel)
theorem ex_deg (w : World) : Calls Try.prog 14 #[.slice none 0 0] w fun e w' => e = .returned (.int .i64 (-1)) ∧ w = w' := degree_any none 0 [] w (Sl.nothing w) (by decide)
theorem ex_eval (A : Option Addr) (ca : Nat) (w : World) (h : Sl w A ca [30, 0, 1]) : Calls Try.prog 19 #[.int .u64 31, .slice A 3 ca, .int .u64 2] w fun e w' => e = .returned (.int .u64 3) ∧ Below w.heap.size w w' := by
  have := eval_any 31 2 ok31 (by decide) A ca [30, 0, 1] (el_dec (by decide)) (by decide) w h
  rwa [show pev 31 [30, 0, 1] 2 = 3 from by decide +kernel] at this

set_option maxRecDepth 100000 in
set_option maxHeartbeats 2000000 in
theorem awake_any (w : World) : Calls Try.prog 10 #[] w fun e w' => e = .returned (.bool true) ∧ Below w.heap.size w w' := by
  go_enter Try.func10, Try.ntmps10
  go_wp2_with fail
  refine (ex_mul _ _ _ _ _ ((Sl.l2 w 30 1).push (.cells #[.int .u64 1, .int .u64 1, .int .u64 0] 27)) (Sl.l3b w (.cells #[.int .u64 30, .int .u64 1] 27) 1 1 0)).mono ?_
  rintro e w1 ⟨A1, c1, rfl, hm, hb⟩
  have hB := bnew (bnew (Below.refl w.heap.size w) (.cells #[.int .u64 30, .int .u64 1] 27) (Nat.le_refl _)) (.cells #[.int .u64 1, .int .u64 1, .int .u64 0] 27) (Nat.le_refl _)
  replace hB := hB.trans (hb.mono hB.size)
  clear hb
  go_wp2_with fail
  refine (ex_div _ _ _ _ _ (hm.push (.cells #[.int .u64 1, .int .u64 1] 27)) (Sl.l2 w1 1 1)).mono ?_
  rintro e w2 ⟨A2, c2, A3, c3, rfl, hq, hb⟩
  replace hm := (hm.push (.cells #[.int .u64 1, .int .u64 1] 27)).next hb
  replace hB := (bnew hB (.cells #[.int .u64 1, .int .u64 1] 27) (Nat.le_refl _))
  replace hB := hB.trans (hb.mono hB.size)
  clear hb
  go_wp2_with fail
  refine (ex_zero _ _ _ _ _ (Sl.l2 w2 0 0)).mono ?_
  rintro e w3 ⟨rfl, hb⟩
  replace hm := (hm.push (.cells #[.int .u64 0, .int .u64 0] 27)).next hb
  replace hq := (hq.push (.cells #[.int .u64 0, .int .u64 0] 27)).next hb
  replace hB := (bnew hB (.cells #[.int .u64 0, .int .u64 0] 27) (Nat.le_refl _))
  replace hB := hB.trans (hb.mono hB.size)
  clear hb
  go_wp2_with fail
  refine (equal_is _ _ [30, 0, 1] [30, 0, 1] _ _ _ (hm.push (.cells #[.int .u64 30, .int .u64 0, .int .u64 1] 27)) (Sl.l3 w3 30 0 1) (by decide) rfl).mono ?_
  rintro e w4 ⟨rfl, hb⟩
  replace hm := (hm.push (.cells #[.int .u64 30, .int .u64 0, .int .u64 1] 27)).next hb
  replace hq := (hq.push (.cells #[.int .u64 30, .int .u64 0, .int .u64 1] 27)).next hb
  replace hB := (bnew hB (.cells #[.int .u64 30, .int .u64 0, .int .u64 1] 27) (Nat.le_refl _))
  replace hB := hB.trans (hb.mono hB.size)
  clear hb
  go_wp2_with fail
  refine (equal_is _ _ [30, 1] [30, 1] _ _ _ (hq.push (.cells #[.int .u64 30, .int .u64 1] 27)) (Sl.l2 w4 30 1) (by decide) rfl).mono ?_
  rintro e w5 ⟨rfl, hb⟩
  replace hm := (hm.push (.cells #[.int .u64 30, .int .u64 1] 27)).next hb
  replace hB := (bnew hB (.cells #[.int .u64 30, .int .u64 1] 27) (Nat.le_refl _))
  replace hB := hB.trans (hb.mono hB.size)
  clear hb hq
  go_wp2_with fail
  refine (ex_deg _).mono ?_; rintro e w6 ⟨rfl, rfl⟩
  go_wp2_with fail
  refine (ex_eval _ _ _ hm).mono ?_; rintro e w6 ⟨rfl, hb⟩
  replace hB := hB.trans (hb.mono hB.size)
  clear hb hm
  go_wp2_with fail
  go_ret
  exact ⟨rfl, hB⟩

/-- Each is a word. -/
def Words (xs : List Int) : Prop := ∀ x ∈ xs, 0 ≤ x ∧ x ≤ 18446744073709551615

/-- What fit hands back. -/
def FitRow (p : Int) (xa xb xc : List Int) (w : World) (e : Ending) (w' : World) : Prop :=
  ∃ A1 c1 A2 c2 A3 c3, e = .returned (.tuple #[.int .u64 p, .slice A1 (wds p xa).length c1, .slice A2 (wds p xb).length c2, .slice A3 (wds p xc).length c3]) ∧ Sl w' A1 c1 (wds p xa) ∧ Sl w' A2 c2 (wds p xb) ∧ Sl w' A3 c3 (wds p xc) ∧ Below w.heap.size w w'

set_option maxRecDepth 100000 in
set_option maxHeartbeats 2000000 in
theorem fit_row (P X K : Int) (A B C : Option Addr) (ca cb cc : Nat) (xa xb xc : List Int) (hP0 : 0 ≤ P) (hP : P ≤ 18446744073709551615) (ha : Words xa) (hb : Words xb) (hc : Words xc) (w : World) (sa : Sl w A ca xa) (sb : Sl w B cb xb) (sc : Sl w C cc xc) :
    Calls Try.prog 18 #[.agg #[.int .u64 P, .slice A xa.length ca, .slice B xb.length cb, .slice C xc.length cc, .int .u64 X, .int .u64 K]] w fun e w' => FitRow (fitP P) xa xb xc w e w' := by
  have hp := fitP_ok P
  have hfit := fun W => rFit_any P hP0 hP W
  generalize fitP P = p at hp hfit ⊢
  go_enter Try.func18, Try.ntmps18
  go_wp2_with fail
  refine (hfit _).mono ?_
  rintro e w1 ⟨rfl, hf⟩
  have hB1 : Below w.heap.size w w1 := ((Below.refl _ _).alloc (Nat.le_refl _) _).trans (hf.mono (by simp))
  have k1 : w1.cell? ⟨w.heap.size, 1, none⟩ = some (.slice A xa.length ca) := by rw [(bcell hf).1 _ _ (by simp)]; go_simp
  have k2 : w1.cell? ⟨w.heap.size, 2, none⟩ = some (.slice B xb.length cb) := by rw [(bcell hf).1 _ _ (by simp)]; go_simp
  have k3 : w1.cell? ⟨w.heap.size, 3, none⟩ = some (.slice C xc.length cc) := by rw [(bcell hf).1 _ _ (by simp)]; go_simp
  have hlt : w.heap.size < w1.heap.size := by have h := hf.size; simp at h; omega
  clear hf hfit
  have s1 := Lib.hid (sa.next hB1.drew)
  have wa := fun (W : World) (h : Sl W A ca xa) => words_row p hp A ca xa ha W h
  have wb := fun (W : World) (h : Sl W B cb xb) => words_row p hp B cb xb hb W h
  have wc := fun (W : World) (h : Sl W C cc xc) => words_row p hp C cc xc hc W h
  go_wp2_with fail
  go_region_held3 (fun w' => w'.cell? ⟨w.heap.size, 1, none⟩ = some (.slice A xa.length ca) ∧ w'.cell? ⟨w.heap.size, 2, none⟩ = some (.slice B xb.length cb) ∧ w'.cell? ⟨w.heap.size, 3, none⟩ = some (.slice C xc.length cc))
    (refine ⟨?_, ?_, ?_⟩ <;> assumption)
    (first
      | (go_at_call 36; (with_reducible refine (wa _ s1.out).mono ?_); rintro e w2 ⟨A2, c2, rfl, hs2, hb2⟩; have q1 := (hb2.cell (p := ⟨w.heap.size, 1, none⟩) hlt).trans k1; have q2 := (hb2.cell (p := ⟨w.heap.size, 2, none⟩) hlt).trans k2; have q3 := (hb2.cell (p := ⟨w.heap.size, 3, none⟩) hlt).trans k3; have hB2 := hB1.drew.trans (hb2.mono hB1.size); have hlt2 := Nat.lt_of_lt_of_le hlt hb2.size; have s2 := Lib.hid (sb.next hB2); clear hb2)
      | (go_at_call 36; (with_reducible refine (wb _ s2.out).mono ?_); rintro e w3 ⟨A3, c3, rfl, hs3, hb3⟩; have r1 := (hb3.cell (p := ⟨w.heap.size, 1, none⟩) hlt2).trans q1; have r2 := (hb3.cell (p := ⟨w.heap.size, 2, none⟩) hlt2).trans q2; have r3 := (hb3.cell (p := ⟨w.heap.size, 3, none⟩) hlt2).trans q3; have hB3 := hB2.trans (hb3.mono hB2.size); have hlt3 := Nat.lt_of_lt_of_le hlt2 hb3.size; have s3 := Lib.hid (sc.next hB3); have hs2' := hs2.next hb3; clear hb3)
      | (go_at_call 36; (with_reducible refine (wc _ s3.out).mono ?_); rintro e w4 ⟨A4, c4, rfl, hs4, hb4⟩; have t1 := (hb4.cell (p := ⟨w.heap.size, 1, none⟩) hlt3).trans r1; have t2 := (hb4.cell (p := ⟨w.heap.size, 2, none⟩) hlt3).trans r2; have t3 := (hb4.cell (p := ⟨w.heap.size, 3, none⟩) hlt3).trans r3; have hB4 := hB3.trans (hb4.mono hB3.size); have hs2'' := hs2'.next hb4; have hs3' := hs3.next hb4; clear hb4))
  all_goals
    go_wp2_with fail
    refine bodyPost_ret (results_tmp4 rfl _ _ _) rfl ?_
    exact ⟨_, _, _, _, _, _, rfl, hs2'', hs3', hs4, hB4⟩

end Go.Proofs.Ytcnmiodgdnohfaa
