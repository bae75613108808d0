/- Rank and Det return the specified result or error for any matrix. No conditions. -/
import Derived.Test.YtgkhngiiimnchaaRRefD
namespace Go.Proofs.Ytgkhngiiimnchaa.matrixRankAndDeterminant
open Go.ChangeShapes Go.WideShapes Go.ChangeAt Go.RowKit PolyMath FieldMath MatMath

set_option maxRecDepth 100000 in
set_option maxHeartbeats 4000000 in
theorem walk_unfair (p : Int) (Am : Option Addr) (cm : Nat) (m : List (List Int)) (_wm : ∀ r ∈ m, Words r) (_lm : m.length ≤ 9223372036854775807) (hf : fairB p m 10 = false) (w : World) (sm : Sll w Am cm m) :
    Calls Try.prog 4 #[.int .u64 p, .slice Am m.length cm] w fun e w' => e = .returned (.bool true) ∧ Below w.heap.size w w' := by
  have gf := fun W (h : Sll W Am cm m) => fair_any p Am cm 10 m (by omega) W h
  rw [hf] at gf
  go_enter Try.func4, Try.ntmps4
  have hB := Below.refl w.heap.size w
  go_wp2_with fail
  refine (gf _ sm).mono ?_
  rintro e w1 ⟨rfl, hb⟩
  replace sm := sm.next hb
  replace hB := hB.trans (hb.mono hB.size)
  clear hb
  go_wp2_with fail
  refine (awake_any _).mono ?_
  rintro e w2 ⟨rfl, hb⟩
  replace sm := sm.next hb
  replace hB := hB.trans (hb.mono hB.size)
  clear hb
  go_wp2_with fail
  go_ret
  exact ⟨rfl, hB⟩

set_option maxRecDepth 100000 in
set_option maxHeartbeats 4000000 in
theorem walk_nr (p : Int) (Am : Option Addr) (cm : Nat) (m : List (List Int)) (wm : ∀ r ∈ m, Words r) (_lm : m.length ≤ 9223372036854775807) (hf : fairB p m 10 = true) (hr : rect m = false) (hs : squ m = false) (w : World) (sm : Sll w Am cm m) :
    Calls Try.prog 4 #[.int .u64 p, .slice Am m.length cm] w fun e w' => e = .returned (.bool true) ∧ Below w.heap.size w w' := by
  obtain ⟨hp, hz, hE, hN, hL⟩ := fair_is (by omega) wm hf
  have gf := fun W (h : Sll W Am cm m) => fair_any p Am cm 10 m (by omega) W h
  rw [hf] at gf
  go_enter Try.func4, Try.ntmps4
  have hB := Below.refl w.heap.size w
  go_wp2_with fail
  refine (gf _ sm).mono ?_
  rintro e w1 ⟨rfl, hb⟩
  replace sm := sm.next hb
  replace hB := hB.trans (hb.mono hB.size)
  clear hb
  go_wp2_with fail
  refine (rank_bad p Am cm m hz hr _ sm).mono ?_
  rintro e w2 ⟨rfl, hb⟩
  replace sm := sm.next hb
  replace hB := hB.trans (hb.mono hB.size)
  clear hb
  go_wp2_with fail
  refine (rRank_bad p Am cm m hz hr _ sm).mono ?_
  rintro e w3 ⟨rfl, hb⟩
  replace sm := sm.next hb
  replace hB := hB.trans (hb.mono hB.size)
  clear hb
  go_wp2_with fail
  refine (det_bad p Am cm m hz hs _ sm).mono ?_
  rintro e w4 ⟨rfl, hb⟩
  replace sm := sm.next hb
  replace hB := hB.trans (hb.mono hB.size)
  clear hb
  go_wp2_with fail
  refine (rDet_bad p Am cm m hz hs _ sm).mono ?_
  rintro e w5 ⟨rfl, hb⟩
  replace sm := sm.next hb
  replace hB := hB.trans (hb.mono hB.size)
  clear hb
  go_wp2_with fail
  refine (awake_any _).mono ?_
  rintro e w6 ⟨rfl, hb⟩
  replace sm := sm.next hb
  replace hB := hB.trans (hb.mono hB.size)
  clear hb
  go_wp2_with fail
  go_ret
  exact ⟨rfl, hB⟩

set_option maxRecDepth 100000 in
set_option maxHeartbeats 4000000 in
theorem walk_ns (p : Int) (Am : Option Addr) (cm : Nat) (m : List (List Int)) (wm : ∀ r ∈ m, Words r) (_lm : m.length ≤ 9223372036854775807) (hf : fairB p m 10 = true) (hr : rect m = true) (hs : squ m = false) (w : World) (sm : Sll w Am cm m) :
    Calls Try.prog 4 #[.int .u64 p, .slice Am m.length cm] w fun e w' => e = .returned (.bool true) ∧ Below w.heap.size w w' := by
  obtain ⟨hp, hz, hE, hN, hL⟩ := fair_is (by omega) wm hf
  have gf := fun W (h : Sll W Am cm m) => fair_any p Am cm 10 m (by omega) W h
  rw [hf] at gf
  have gk1 := fun W (h : Sll W Am cm m) => rank_ok p hp Am cm m hz hE hr W h
  have gk2 := fun W (h : Sll W Am cm m) => rRank_ok p hp Am cm m hz hE hr W h
  generalize rnk p m = RK at *
  go_enter Try.func4, Try.ntmps4
  have hB := Below.refl w.heap.size w
  go_wp2_with fail
  refine (gf _ sm).mono ?_
  rintro e w1 ⟨rfl, hb⟩
  replace sm := sm.next hb
  replace hB := hB.trans (hb.mono hB.size)
  clear hb
  go_wp2_with fail
  refine (gk1 _ sm).mono ?_
  rintro e w2 ⟨rfl, hb⟩
  replace sm := sm.next hb
  replace hB := hB.trans (hb.mono hB.size)
  clear hb
  go_wp2_with fail
  refine (gk2 _ sm).mono ?_
  rintro e w3 ⟨rfl, hb⟩
  replace sm := sm.next hb
  replace hB := hB.trans (hb.mono hB.size)
  clear hb
  go_wp2_with fail
  refine (det_bad p Am cm m hz hs _ sm).mono ?_
  rintro e w4 ⟨rfl, hb⟩
  replace sm := sm.next hb
  replace hB := hB.trans (hb.mono hB.size)
  clear hb
  go_wp2_with fail
  refine (rDet_bad p Am cm m hz hs _ sm).mono ?_
  rintro e w5 ⟨rfl, hb⟩
  replace sm := sm.next hb
  replace hB := hB.trans (hb.mono hB.size)
  clear hb
  go_wp2_with fail
  refine (awake_any _).mono ?_
  rintro e w6 ⟨rfl, hb⟩
  replace sm := sm.next hb
  replace hB := hB.trans (hb.mono hB.size)
  clear hb
  go_wp2_with fail
  go_ret
  exact ⟨rfl, hB⟩

set_option maxRecDepth 100000 in
set_option maxHeartbeats 4000000 in
theorem walk_sq (p : Int) (Am : Option Addr) (cm : Nat) (m : List (List Int)) (wm : ∀ r ∈ m, Words r) (_lm : m.length ≤ 9223372036854775807) (hf : fairB p m 10 = true) (hr : rect m = true) (hs : squ m = true) (w : World) (sm : Sll w Am cm m) :
    Calls Try.prog 4 #[.int .u64 p, .slice Am m.length cm] w fun e w' => e = .returned (.bool true) ∧ Below w.heap.size w w' := by
  obtain ⟨hp, hz, hE, hN, hL⟩ := fair_is (by omega) wm hf
  have gf := fun W (h : Sll W Am cm m) => fair_any p Am cm 10 m (by omega) W h
  rw [hf] at gf
  have gk1 := fun W (h : Sll W Am cm m) => rank_ok p hp Am cm m hz hE hr W h
  have gk2 := fun W (h : Sll W Am cm m) => rRank_ok p hp Am cm m hz hE hr W h
  generalize rnk p m = RK at *
  have gd1 := fun W (h : Sll W Am cm m) => det_ok p hp Am cm m hz hE hs W h
  have gd2 := fun W (h : Sll W Am cm m) => rDet_ok p hp Am cm m hz hE hs W h
  generalize dtm p m = D at *
  go_enter Try.func4, Try.ntmps4
  have hB := Below.refl w.heap.size w
  go_wp2_with fail
  refine (gf _ sm).mono ?_
  rintro e w1 ⟨rfl, hb⟩
  replace sm := sm.next hb
  replace hB := hB.trans (hb.mono hB.size)
  clear hb
  go_wp2_with fail
  refine (gk1 _ sm).mono ?_
  rintro e w2 ⟨rfl, hb⟩
  replace sm := sm.next hb
  replace hB := hB.trans (hb.mono hB.size)
  clear hb
  go_wp2_with fail
  refine (gk2 _ sm).mono ?_
  rintro e w3 ⟨rfl, hb⟩
  replace sm := sm.next hb
  replace hB := hB.trans (hb.mono hB.size)
  clear hb
  go_wp2_with fail
  refine (gd1 _ sm).mono ?_
  rintro e w4 ⟨rfl, hb⟩
  replace sm := sm.next hb
  replace hB := hB.trans (hb.mono hB.size)
  clear hb
  go_wp2_with fail
  refine (gd2 _ sm).mono ?_
  rintro e w5 ⟨rfl, hb⟩
  replace sm := sm.next hb
  replace hB := hB.trans (hb.mono hB.size)
  clear hb
  go_wp2_with fail
  refine (awake_any _).mono ?_
  rintro e w6 ⟨rfl, hb⟩
  replace sm := sm.next hb
  replace hB := hB.trans (hb.mono hB.size)
  clear hb
  go_wp2_with fail
  go_ret
  exact ⟨rfl, hB⟩

set_option maxRecDepth 100000 in
set_option maxHeartbeats 4000000 in
theorem walk (p : Int) (Am : Option Addr) (cm : Nat) (m : List (List Int)) (wm : ∀ r ∈ m, Words r) (lm : m.length ≤ 9223372036854775807)  (w : World) (sm : Sll w Am cm m) :
    Calls Try.prog 4 #[.int .u64 p, .slice Am m.length cm] w fun e w' => e = .returned (.bool true) ∧ Below w.heap.size w w' := by
  cases hf : fairB p m 10 with
  | false => exact walk_unfair p Am cm m wm lm hf w sm
  | true =>
    cases hs : squ m with
    | true => exact walk_sq p Am cm m wm lm hf (squ_iff.1 hs).2.2 hs w sm
    | false =>
      cases hr : rect m with
      | false => exact walk_nr p Am cm m wm lm hf hr hs w sm
      | true => exact walk_ns p Am cm m wm lm hf hr hs w sm

set_option maxRecDepth 100000 in
theorem lifted (os : Os) (started : os.Started) (H : Type) (enc : TypeId × Value → H) :
    ReturnsInHanded {} Try.checked os 4 .any (Rows.matrixRankAndDeterminantSpec.pre6 enc Try.prog Try.f4 Rows.matrixRankAndDeterminantRow.domain false) (Rows.matrixRankAndDeterminantSpec.post enc Try.prog Try.f4 false true false false) := by
  refine returnsInHanded_of_change (C := Try.checked) own started (by kernel_rfl) Try.func4
    (ChangeSpec.witness6 (enc := enc) (C := Try.checked) false ⟨#[], #[.int .u64 0, .slice none 0 0], []⟩ 8 (by kernel_rfl) (by kernel_rfl) (by kernel_rfl) (by kernel_rfl)) ?_
  intro W base args ds gs before hval0 hW hcnd _
  have hval : ∀ (j : Nat) t v, Try.f4.params[j]? = some t → args[j]? = some v → Value.okWide Try.prog W .any base t v := hval0
  have hW' := hW
  obtain ⟨p, q, hA0, hV, rfl, hfz, hnd⟩ := hW
  have hA : DataW.TrodAll enc Try.prog W 0 (fun _ => true) true Try.f4.params.toList args.toList ds p := hA0
  rw [Try.params4] at hA hval
  obtain ⟨v0, v1, d0, d1, p0, p1, rfl, rfl, rfl, t0, t1⟩ := trodAll_two hA
  obtain ⟨rfl, rfl⟩ := trodVars_none hV
  clear hA0 hval0
  simp only [List.append_nil] at hW'
  have l0 : ∀ x ∈ p0, x.block < W.heap.size := fun x hx => hW'.lt x (by simp [hx])
  obtain ⟨x0, rfl, _⟩ := arg_word (hval 0 22 v0 rfl rfl) t0
  have l1 : ∀ x ∈ p1, x.block < W.heap.size := fun x hx => hW'.lt x (by simp [hx])
  obtain ⟨A1, x1, c1, rfl, r1, b1, n1⟩ := arg_ll (hval 1 23 v1 rfl rfl) t1 l1
  refine (walk x0 A1 c1 x1 b1 n1 W r1).mono fun e W' ⟨he, hb⟩ => ?_
  subst he
  exact ⟨_, rfl, post_of_below (pa := p0 ++ p1) (pv := []) hW' (fun _ _ _ => (trodAll_cons_mk (shut_bool Try.underlying4 _) trodAll_mk0)) (fun sp hsp => trodAll_mk2 (stay_word t0 hb l0 sp (fun x hx => hsp x (by simp [hx]))) (stay_ll t1 hb l1 sp (fun x hx => hsp x (by simp [hx])))) (fun _ _ => rfl) (by simp)
    hb (ok_one (by kernel_rfl) rfl (okWide_bool_mk Try.underlying4 _))⟩

theorem over : Rows.matrixRankAndDeterminantRow.holds Try.pinned (OpenSpec.ofChange Rows.matrixRankAndDeterminantSpec) :=
  OpenClaim.holds_of_wide 4 Try.f4 rfl rfl rfl rfl rfl rfl rfl ⟨rfl, rfl, rfl, rfl, rfl⟩ rfl rfl rfl rfl rfl (by kernel_rfl) Try.func4 (by kernel_rfl)
    (of_decide_eq_true (by kernel_rfl)) (by unfold Func.isWrapper; first | (rw [if_pos (by decide +kernel)]; kernel_rfl) | (rw [if_neg (by decide +kernel)]; exact ⟨rfl, rfl⟩))
    (fun os started H enc _ => lifted os started H enc)

theorem proved : Rows.MatrixRankAndDeterminantSaid := over
end Go.Proofs.Ytgkhngiiimnchaa.matrixRankAndDeterminant
