/- Solve returns the basic solution or the specified error for any system. No conditions. -/
import Derived.Test.YtgkhngiiimnchaaRRefF
namespace Go.Proofs.Ytgkhngiiimnchaa.matrixSolve
open Go.ChangeShapes Go.WideShapes Go.ChangeAt Go.RowKit PolyMath FieldMath MatMath

set_option maxRecDepth 100000 in
set_option maxHeartbeats 4000000 in
theorem walk_unfair (p : Int) (Am : Option Addr) (cm : Nat) (m : List (List Int)) (Ab : Option Addr) (cb : Nat) (b : List Int) (_wm : ∀ r ∈ m, Words r) (_lm : m.length ≤ 9223372036854775807) (_wb : Words b) (hf : fairB p m 10 = false) (w : World) (sm : Sll w Am cm m) (sb : Sl w Ab cb b) :
    Calls Try.prog 5 #[.int .u64 p, .slice Am m.length cm, .slice Ab b.length cb] w fun e w' => e = .returned (.bool true) ∧ Below w.heap.size w w' := by
  have gf := fun W (h : Sll W Am cm m) => fair_any p Am cm 10 m (by omega) W h
  rw [hf] at gf
  go_enter Try.func5, Try.ntmps5
  have hB := Below.refl w.heap.size w
  go_wp2_with fail
  refine (gf _ sm).mono ?_
  rintro e w1 ⟨rfl, hb⟩
  replace sm := sm.next hb
  replace sb := sb.next hb
  replace hB := hB.trans (hb.mono hB.size)
  clear hb
  go_wp2_with fail
  refine (awake_any _).mono ?_
  rintro e w2 ⟨rfl, hb⟩
  replace sm := sm.next hb
  replace sb := sb.next hb
  replace hB := hB.trans (hb.mono hB.size)
  clear hb
  go_wp2_with fail
  go_ret
  exact ⟨rfl, hB⟩

set_option maxRecDepth 100000 in
set_option maxHeartbeats 4000000 in
theorem walk_nob (p : Int) (Am : Option Addr) (cm : Nat) (m : List (List Int)) (Ab : Option Addr) (cb : Nat) (b : List Int) (_wm : ∀ r ∈ m, Words r) (_lm : m.length ≤ 9223372036854775807) (_wb : Words b) (hf : fairB p m 10 = true) (hl : belB p b 10 = false) (w : World) (sm : Sll w Am cm m) (sb : Sl w Ab cb b) :
    Calls Try.prog 5 #[.int .u64 p, .slice Am m.length cm, .slice Ab b.length cb] w fun e w' => e = .returned (.bool true) ∧ Below w.heap.size w w' := by
  have gf := fun W (h : Sll W Am cm m) => fair_any p Am cm 10 m (by omega) W h
  rw [hf] at gf
  have gl := fun W (h : Sl W Ab cb b) => below_any p Ab cb 10 b (by omega) W h
  rw [hl] at gl
  go_enter Try.func5, Try.ntmps5
  have hB := Below.refl w.heap.size w
  go_wp2_with fail
  refine (gf _ sm).mono ?_
  rintro e w1 ⟨rfl, hb⟩
  replace sm := sm.next hb
  replace sb := sb.next hb
  replace hB := hB.trans (hb.mono hB.size)
  clear hb
  go_wp2_with fail
  refine (gl _ sb).mono ?_
  rintro e w' ⟨rfl, rfl⟩
  go_wp2_with fail
  refine (awake_any _).mono ?_
  rintro e w3 ⟨rfl, hb⟩
  replace sm := sm.next hb
  replace sb := sb.next hb
  replace hB := hB.trans (hb.mono hB.size)
  clear hb
  go_wp2_with fail
  go_ret
  exact ⟨rfl, hB⟩

set_option maxRecDepth 100000 in
set_option maxHeartbeats 4000000 in
theorem walk_bad1 (p : Int) (Am : Option Addr) (cm : Nat) (m : List (List Int)) (Ab : Option Addr) (cb : Nat) (b : List Int) (wm : ∀ r ∈ m, Words r) (_lm : m.length ≤ 9223372036854775807) (wb : Words b) (hf : fairB p m 10 = true) (hl : belB p b 10 = true) (hr : rect m = false) (w : World) (sm : Sll w Am cm m) (sb : Sl w Ab cb b) :
    Calls Try.prog 5 #[.int .u64 p, .slice Am m.length cm, .slice Ab b.length cb] w fun e w' => e = .returned (.bool true) ∧ Below w.heap.size w w' := by
  obtain ⟨hp, hz, hE, hN, hL⟩ := fair_is (by omega) wm hf
  obtain ⟨hbE, hbl⟩ := bel_is wb hl
  have gf := fun W (h : Sll W Am cm m) => fair_any p Am cm 10 m (by omega) W h
  rw [hf] at gf
  have gl := fun W (h : Sl W Ab cb b) => below_any p Ab cb 10 b (by omega) W h
  rw [hl] at gl
  go_enter Try.func5, Try.ntmps5
  have hB := Below.refl w.heap.size w
  go_wp2_with fail
  refine (gf _ sm).mono ?_
  rintro e w1 ⟨rfl, hb⟩
  replace sm := sm.next hb
  replace sb := sb.next hb
  replace hB := hB.trans (hb.mono hB.size)
  clear hb
  go_wp2_with fail
  refine (gl _ sb).mono ?_
  rintro e w' ⟨rfl, rfl⟩
  go_wp2_with fail
  refine (solve_bad1 p Am Ab cm cb m b hz hr _ sm).mono ?_
  rintro e w3 ⟨rfl, hb⟩
  replace sm := sm.next hb
  replace sb := sb.next hb
  replace hB := hB.trans (hb.mono hB.size)
  clear hb
  go_wp2_with fail
  refine (rSolve_bad1 p Am Ab cm cb m b hz hr _ sm).mono ?_
  rintro e w4 ⟨rfl, hb⟩
  replace sm := sm.next hb
  replace sb := sb.next hb
  replace hB := hB.trans (hb.mono hB.size)
  clear hb
  go_wp2_with fail
  refine (awake_any _).mono ?_
  rintro e w5 ⟨rfl, hb⟩
  replace sm := sm.next hb
  replace sb := sb.next hb
  replace hB := hB.trans (hb.mono hB.size)
  clear hb
  go_wp2_with fail
  refine (sameL_b none none [] 0 0 _ (Sl.nothing _) (Sl.nothing _) (by decide)).mono ?_
  rintro e w6 ⟨rfl, hb⟩
  replace sm := sm.next hb
  replace sb := sb.next hb
  replace hB := hB.trans (hb.mono hB.size)
  clear hb
  go_wp2_with fail
  go_ret
  exact ⟨rfl, hB⟩

set_option maxRecDepth 100000 in
set_option maxHeartbeats 4000000 in
theorem walk_bad2 (p : Int) (Am : Option Addr) (cm : Nat) (m : List (List Int)) (Ab : Option Addr) (cb : Nat) (b : List Int) (wm : ∀ r ∈ m, Words r) (_lm : m.length ≤ 9223372036854775807) (wb : Words b) (hf : fairB p m 10 = true) (hl : belB p b 10 = true) (hr : rect m = true) (hn : m.length ≠ b.length) (w : World) (sm : Sll w Am cm m) (sb : Sl w Ab cb b) :
    Calls Try.prog 5 #[.int .u64 p, .slice Am m.length cm, .slice Ab b.length cb] w fun e w' => e = .returned (.bool true) ∧ Below w.heap.size w w' := by
  obtain ⟨hp, hz, hE, hN, hL⟩ := fair_is (by omega) wm hf
  obtain ⟨hbE, hbl⟩ := bel_is wb hl
  have gf := fun W (h : Sll W Am cm m) => fair_any p Am cm 10 m (by omega) W h
  rw [hf] at gf
  have gl := fun W (h : Sl W Ab cb b) => below_any p Ab cb 10 b (by omega) W h
  rw [hl] at gl
  go_enter Try.func5, Try.ntmps5
  have hB := Below.refl w.heap.size w
  go_wp2_with fail
  refine (gf _ sm).mono ?_
  rintro e w1 ⟨rfl, hb⟩
  replace sm := sm.next hb
  replace sb := sb.next hb
  replace hB := hB.trans (hb.mono hB.size)
  clear hb
  go_wp2_with fail
  refine (gl _ sb).mono ?_
  rintro e w' ⟨rfl, rfl⟩
  go_wp2_with fail
  refine (solve_bad2 p Am Ab cm cb m b hz hr hn _ sm).mono ?_
  rintro e w3 ⟨rfl, hb⟩
  replace sm := sm.next hb
  replace sb := sb.next hb
  replace hB := hB.trans (hb.mono hB.size)
  clear hb
  go_wp2_with fail
  refine (rSolve_bad2 p Am Ab cm cb m b hz hr hn _ sm).mono ?_
  rintro e w4 ⟨rfl, hb⟩
  replace sm := sm.next hb
  replace sb := sb.next hb
  replace hB := hB.trans (hb.mono hB.size)
  clear hb
  go_wp2_with fail
  refine (awake_any _).mono ?_
  rintro e w5 ⟨rfl, hb⟩
  replace sm := sm.next hb
  replace sb := sb.next hb
  replace hB := hB.trans (hb.mono hB.size)
  clear hb
  go_wp2_with fail
  refine (sameL_b none none [] 0 0 _ (Sl.nothing _) (Sl.nothing _) (by decide)).mono ?_
  rintro e w6 ⟨rfl, hb⟩
  replace sm := sm.next hb
  replace sb := sb.next hb
  replace hB := hB.trans (hb.mono hB.size)
  clear hb
  go_wp2_with fail
  go_ret
  exact ⟨rfl, hB⟩

set_option maxRecDepth 100000 in
set_option maxHeartbeats 4000000 in
theorem walk_some (p : Int) (Am : Option Addr) (cm : Nat) (m : List (List Int)) (Ab : Option Addr) (cb : Nat) (b : List Int) (wm : ∀ r ∈ m, Words r) (_lm : m.length ≤ 9223372036854775807) (wb : Words b) (x : List Int) (hf : fairB p m 10 = true) (hl : belB p b 10 = true) (hr : rect m = true) (hn : m.length = b.length) (hs : slv p m b = some x) (w : World) (sm : Sll w Am cm m) (sb : Sl w Ab cb b) :
    Calls Try.prog 5 #[.int .u64 p, .slice Am m.length cm, .slice Ab b.length cb] w fun e w' => e = .returned (.bool true) ∧ Below w.heap.size w w' := by
  obtain ⟨hp, hz, hE, hN, hL⟩ := fair_is (by omega) wm hf
  obtain ⟨hbE, hbl⟩ := bel_is wb hl
  have gf := fun W (h : Sll W Am cm m) => fair_any p Am cm 10 m (by omega) W h
  rw [hf] at gf
  have gl := fun W (h : Sl W Ab cb b) => below_any p Ab cb 10 b (by omega) W h
  rw [hl] at gl
  have hxl : x.length ≤ 10 := by
    have := (slv_some hp.good hr hE hbE hn hs).2.1
    have h0 := hL 0
    unfold ncol at this
    omega
  have g1 : ∀ W, Sll W Am cm m → Sl W Ab cb b → Calls Try.prog 25 #[.int .u64 p, .slice Am m.length cm, .slice Ab b.length cb] W fun e w' => RowE W e w' x := fun W h1 h2 => (solve_any p hp Am Ab cm cb m b hz hE hbE hr hn W h1 h2).mono fun e w' hx => by
    rcases hx with ⟨y, q1, q2⟩ | ⟨q1, q2⟩
    · rw [hs] at q1; injection q1 with q1; subst q1; exact q2
    · rw [hs] at q1; cases q1
  have g2 : ∀ W, Sll W Am cm m → Sl W Ab cb b → Calls Try.prog 26 #[.int .u64 p, .slice Am m.length cm, .slice Ab b.length cb] W fun e w' => RowE W e w' x := fun W h1 h2 => (rSolve_any p hp Am Ab cm cb m b hz (by have := hL 0; unfold ncol; omega) hE hbE hr hn W h1 h2).mono fun e w' hx => by
    rcases hx with ⟨y, q1, q2⟩ | ⟨q1, q2⟩
    · rw [hs] at q1; injection q1 with q1; subst q1; exact q2
    · rw [hs] at q1; cases q1
  clear hs hn
  go_enter Try.func5, Try.ntmps5
  have hB := Below.refl w.heap.size w
  go_wp2_with fail
  refine (gf _ sm).mono ?_
  rintro e w1 ⟨rfl, hb⟩
  replace sm := sm.next hb
  replace sb := sb.next hb
  replace hB := hB.trans (hb.mono hB.size)
  clear hb
  go_wp2_with fail
  refine (gl _ sb).mono ?_
  rintro e w' ⟨rfl, rfl⟩
  go_wp2_with fail
  refine (g1 _ sm sb).mono ?_
  rintro e w3 ⟨A1, c1, rfl, s1, hb⟩
  replace sm := sm.next hb
  replace sb := sb.next hb
  replace hB := hB.trans (hb.mono hB.size)
  clear hb
  go_wp2_with fail
  refine (g2 _ sm sb).mono ?_
  rintro e w4 ⟨A2, c2, rfl, s2, hb⟩
  replace sm := sm.next hb
  replace sb := sb.next hb
  replace s1 := s1.next hb
  replace hB := hB.trans (hb.mono hB.size)
  clear hb
  go_wp2_with fail
  refine (awake_any _).mono ?_
  rintro e w5 ⟨rfl, hb⟩
  replace sm := sm.next hb
  replace sb := sb.next hb
  replace s1 := s1.next hb
  replace s2 := s2.next hb
  replace hB := hB.trans (hb.mono hB.size)
  clear hb
  go_wp2_with fail
  refine (sameL_b _ _ x _ _ _ s1 s2 (by omega)).mono ?_
  rintro e w6 ⟨rfl, hb⟩
  replace sm := sm.next hb
  replace sb := sb.next hb
  replace s1 := s1.next hb
  replace s2 := s2.next hb
  replace hB := hB.trans (hb.mono hB.size)
  clear hb
  go_wp2_with fail
  go_ret
  exact ⟨rfl, hB⟩

set_option maxRecDepth 100000 in
set_option maxHeartbeats 4000000 in
theorem walk_none (p : Int) (Am : Option Addr) (cm : Nat) (m : List (List Int)) (Ab : Option Addr) (cb : Nat) (b : List Int) (wm : ∀ r ∈ m, Words r) (_lm : m.length ≤ 9223372036854775807) (wb : Words b) (hf : fairB p m 10 = true) (hl : belB p b 10 = true) (hr : rect m = true) (hn : m.length = b.length) (hs : slv p m b = none) (w : World) (sm : Sll w Am cm m) (sb : Sl w Ab cb b) :
    Calls Try.prog 5 #[.int .u64 p, .slice Am m.length cm, .slice Ab b.length cb] w fun e w' => e = .returned (.bool true) ∧ Below w.heap.size w w' := by
  obtain ⟨hp, hz, hE, hN, hL⟩ := fair_is (by omega) wm hf
  obtain ⟨hbE, hbl⟩ := bel_is wb hl
  have gf := fun W (h : Sll W Am cm m) => fair_any p Am cm 10 m (by omega) W h
  rw [hf] at gf
  have gl := fun W (h : Sl W Ab cb b) => below_any p Ab cb 10 b (by omega) W h
  rw [hl] at gl
  have g1 : ∀ W, Sll W Am cm m → Sl W Ab cb b → Calls Try.prog 25 #[.int .u64 p, .slice Am m.length cm, .slice Ab b.length cb] W fun e w' => e = .returned (.tuple #[.slice none 0 0, .int .i64 6]) ∧ Below W.heap.size W w' := fun W h1 h2 => (solve_any p hp Am Ab cm cb m b hz hE hbE hr hn W h1 h2).mono fun e w' hx => by
    rcases hx with ⟨y, q1, q2⟩ | ⟨q1, q2⟩
    · rw [hs] at q1; cases q1
    · rw [hs] at q1; exact q2
  have g2 : ∀ W, Sll W Am cm m → Sl W Ab cb b → Calls Try.prog 26 #[.int .u64 p, .slice Am m.length cm, .slice Ab b.length cb] W fun e w' => e = .returned (.tuple #[.slice none 0 0, .int .i64 6]) ∧ Below W.heap.size W w' := fun W h1 h2 => (rSolve_any p hp Am Ab cm cb m b hz (by have := hL 0; unfold ncol; omega) hE hbE hr hn W h1 h2).mono fun e w' hx => by
    rcases hx with ⟨y, q1, q2⟩ | ⟨q1, q2⟩
    · rw [hs] at q1; cases q1
    · rw [hs] at q1; exact q2
  clear hs hn
  go_enter Try.func5, Try.ntmps5
  have hB := Below.refl w.heap.size w
  go_wp2_with fail
  refine (gf _ sm).mono ?_
  rintro e w1 ⟨rfl, hb⟩
  replace sm := sm.next hb
  replace sb := sb.next hb
  replace hB := hB.trans (hb.mono hB.size)
  clear hb
  go_wp2_with fail
  refine (gl _ sb).mono ?_
  rintro e w' ⟨rfl, rfl⟩
  go_wp2_with fail
  refine (g1 _ sm sb).mono ?_
  rintro e w3 ⟨rfl, hb⟩
  replace sm := sm.next hb
  replace sb := sb.next hb
  replace hB := hB.trans (hb.mono hB.size)
  clear hb
  go_wp2_with fail
  refine (g2 _ sm sb).mono ?_
  rintro e w4 ⟨rfl, hb⟩
  replace sm := sm.next hb
  replace sb := sb.next hb
  replace hB := hB.trans (hb.mono hB.size)
  clear hb
  go_wp2_with fail
  refine (awake_any _).mono ?_
  rintro e w5 ⟨rfl, hb⟩
  replace sm := sm.next hb
  replace sb := sb.next hb
  replace hB := hB.trans (hb.mono hB.size)
  clear hb
  go_wp2_with fail
  refine (sameL_b none none [] 0 0 _ (Sl.nothing _) (Sl.nothing _) (by decide)).mono ?_
  rintro e w6 ⟨rfl, hb⟩
  replace sm := sm.next hb
  replace sb := sb.next hb
  replace hB := hB.trans (hb.mono hB.size)
  clear hb
  go_wp2_with fail
  go_ret
  exact ⟨rfl, hB⟩

set_option maxRecDepth 100000 in
set_option maxHeartbeats 4000000 in
theorem walk (p : Int) (Am : Option Addr) (cm : Nat) (m : List (List Int)) (Ab : Option Addr) (cb : Nat) (b : List Int) (wm : ∀ r ∈ m, Words r) (lm : m.length ≤ 9223372036854775807) (wb : Words b)  (w : World) (sm : Sll w Am cm m) (sb : Sl w Ab cb b) :
    Calls Try.prog 5 #[.int .u64 p, .slice Am m.length cm, .slice Ab b.length cb] w fun e w' => e = .returned (.bool true) ∧ Below w.heap.size w w' := by
  cases hf : fairB p m 10 with
  | false => exact walk_unfair p Am cm m Ab cb b wm lm wb hf w sm sb
  | true =>
    cases hl : belB p b 10 with
    | false => exact walk_nob p Am cm m Ab cb b wm lm wb hf hl w sm sb
    | true =>
      cases hr : rect m with
      | false => exact walk_bad1 p Am cm m Ab cb b wm lm wb hf hl hr w sm sb
      | true =>
        by_cases hn : m.length = b.length
        · cases hs : slv p m b with
          | some x => exact walk_some p Am cm m Ab cb b wm lm wb x hf hl hr hn hs w sm sb
          | none => exact walk_none p Am cm m Ab cb b wm lm wb hf hl hr hn hs w sm sb
        · exact walk_bad2 p Am cm m Ab cb b wm lm wb hf hl hr hn w sm sb

set_option maxRecDepth 100000 in
theorem lifted (os : Os) (started : os.Started) (H : Type) (enc : TypeId × Value → H) :
    ReturnsInHanded {} Try.checked os 5 .any (Rows.matrixSolveSpec.pre6 enc Try.prog Try.f5 Rows.matrixSolveRow.domain false) (Rows.matrixSolveSpec.post enc Try.prog Try.f5 false true false false) := by
  refine returnsInHanded_of_change (C := Try.checked) own started (by kernel_rfl) Try.func5
    (ChangeSpec.witness6 (enc := enc) (C := Try.checked) false ⟨#[], #[.int .u64 0, .slice none 0 0, .slice none 0 0], []⟩ 8 (by kernel_rfl) (by kernel_rfl) (by kernel_rfl) (by kernel_rfl)) ?_
  intro W base args ds gs before hval0 hW hcnd _
  have hval : ∀ (j : Nat) t v, Try.f5.params[j]? = some t → args[j]? = some v → Value.okWide Try.prog W .any base t v := hval0
  have hW' := hW
  obtain ⟨p, q, hA0, hV, rfl, hfz, hnd⟩ := hW
  have hA : DataW.TrodAll enc Try.prog W 0 (fun _ => true) true Try.f5.params.toList args.toList ds p := hA0
  rw [Try.params5] at hA hval
  obtain ⟨v0, v1, v2, d0, d1, d2, p0, p1, p2, rfl, rfl, rfl, t0, t1, t2⟩ := trodAll_three hA
  obtain ⟨rfl, rfl⟩ := trodVars_none hV
  clear hA0 hval0
  simp only [List.append_nil] at hW'
  have l0 : ∀ x ∈ p0, x.block < W.heap.size := fun x hx => hW'.lt x (by simp [hx])
  obtain ⟨x0, rfl, _⟩ := arg_word (hval 0 22 v0 rfl rfl) t0
  have l1 : ∀ x ∈ p1, x.block < W.heap.size := fun x hx => hW'.lt x (by simp [hx])
  obtain ⟨A1, x1, c1, rfl, r1, b1, n1⟩ := arg_ll (hval 1 23 v1 rfl rfl) t1 l1
  have l2 : ∀ x ∈ p2, x.block < W.heap.size := fun x hx => hW'.lt x (by simp [hx])
  obtain ⟨A2, x2, c2, rfl, r2, b2⟩ := arg_sl (hval 2 24 v2 rfl rfl) t2 l2
  refine (walk x0 A1 c1 x1 A2 c2 x2 b1 n1 b2 W r1 r2).mono fun e W' ⟨he, hb⟩ => ?_
  subst he
  exact ⟨_, rfl, post_of_below (pa := p0 ++ (p1 ++ p2)) (pv := []) hW' (fun _ _ _ => (trodAll_cons_mk (shut_bool Try.underlying4 _) trodAll_mk0)) (fun sp hsp => trodAll_mk3 (stay_word t0 hb l0 sp (fun x hx => hsp x (by simp [hx]))) (stay_ll t1 hb l1 sp (fun x hx => hsp x (by simp [hx]))) (stays t2 hb l2 sp (fun x hx => hsp x (by simp [hx])))) (fun _ _ => rfl) (by simp)
    hb (ok_one (by kernel_rfl) rfl (okWide_bool_mk Try.underlying4 _))⟩

theorem over : Rows.matrixSolveRow.holds Try.pinned (OpenSpec.ofChange Rows.matrixSolveSpec) :=
  OpenClaim.holds_of_wide 5 Try.f5 rfl rfl rfl rfl rfl rfl rfl ⟨rfl, rfl, rfl, rfl, rfl⟩ rfl rfl rfl rfl rfl (by kernel_rfl) Try.func5 (by kernel_rfl)
    (of_decide_eq_true (by kernel_rfl)) (by unfold Func.isWrapper; first | (rw [if_pos (by decide +kernel)]; kernel_rfl) | (rw [if_neg (by decide +kernel)]; exact ⟨rfl, rfl⟩))
    (fun os started H enc _ => lifted os started H enc)

theorem proved : Rows.MatrixSolveSaid := over
end Go.Proofs.Ytgkhngiiimnchaa.matrixSolve
