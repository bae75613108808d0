/- New agrees with the specification for all dimensions. No conditions. -/
import Derived.Test.YtjijlefplidhpaaMG
namespace Go.Proofs.Ytjijlefplidhpaa.hyperinvertibleNewMatchesReference
set_option maxRecDepth 100000
open Go.ChangeShapes Go.WideShapes Go.ChangeAt Go.RowKit PolyMath FieldMath MatMath

set_option maxHeartbeats 4000000 in
theorem walk_unsup (p : Int) (rows : Int) (cols : Int) (_brows : -9223372036854775808 ≤ rows ∧ rows ≤ 9223372036854775807) (_bcols : -9223372036854775808 ≤ cols ∧ cols ≤ 9223372036854775807) (hs : (qOf p != 0) = false) (w : World)  :
    Calls Try.prog 3 #[.int .u64 p, .int .i64 rows, .int .i64 cols] w fun e w' => e = .returned (.bool true) ∧ Below w.heap.size w w' := by
  have gs := fun W => rSupported_any p W
  rw [hs] at gs
  go_enter Try.func3, Try.ntmps3
  have hB := Below.refl w.heap.size w
  go_wp2_with fail
  refine (awake7_any _).mono ?_
  rintro e w1 ⟨rfl, hb⟩
  replace hB := hB.trans (hb.mono hB.size)
  clear hb
  go_wp2_with fail
  refine (gs _).mono ?_
  rintro e w2 ⟨rfl, hb⟩
  replace hB := hB.trans (hb.mono hB.size)
  clear hb
  go_wp2_with fail
  go_ret
  exact ⟨rfl, hB⟩

set_option maxHeartbeats 4000000 in
theorem walk_bad (p : Int) (rows : Int) (cols : Int) (_brows : -9223372036854775808 ≤ rows ∧ rows ≤ 9223372036854775807) (_bcols : -9223372036854775808 ≤ cols ∧ cols ≤ 9223372036854775807) (hs : (qOf p != 0) = true) (hr : ¬ (1 ≤ rows ∧ rows ≤ 26 ∧ 1 ≤ cols ∧ cols ≤ 26 ∧ rows + cols < p)) (w : World)  :
    Calls Try.prog 3 #[.int .u64 p, .int .i64 rows, .int .i64 cols] w fun e w' => e = .returned (.bool true) ∧ Below w.heap.size w w' := by
  have gs := fun W => rSupported_any p W
  rw [hs] at gs
  go_enter Try.func3, Try.ntmps3
  have hB := Below.refl w.heap.size w
  go_wp2_with fail
  refine (awake7_any _).mono ?_
  rintro e w1 ⟨rfl, hb⟩
  replace hB := hB.trans (hb.mono hB.size)
  clear hb
  go_wp2_with fail
  refine (gs _).mono ?_
  rintro e w2 ⟨rfl, hb⟩
  replace hB := hB.trans (hb.mono hB.size)
  clear hb
  go_wp2_with fail
  refine (new_bad p rows cols hr _).mono ?_
  rintro e w3 ⟨rfl, hb⟩
  replace hB := hB.trans (hb.mono hB.size)
  clear hb
  go_wp2_with fail
  refine (rNew_bad p rows cols hr _).mono ?_
  rintro e w4 ⟨rfl, hb⟩
  replace hB := hB.trans (hb.mono hB.size)
  clear hb
  go_wp2_with fail
  refine (rows_b none none [] 0 0 _ (Sll.nothing _) (Sll.nothing _) (by decide) (by decide)).mono ?_
  rintro e w5 ⟨rfl, hb⟩
  replace hB := hB.trans (hb.mono hB.size)
  clear hb
  go_wp2_with fail
  go_ret
  exact ⟨rfl, hB⟩

set_option maxHeartbeats 4000000 in
theorem walk_ok (p : Int) (rows : Int) (cols : Int) (_brows : -9223372036854775808 ≤ rows ∧ rows ≤ 9223372036854775807) (_bcols : -9223372036854775808 ≤ cols ∧ cols ≤ 9223372036854775807) (N L : Nat) (eN : rows = (N : Int)) (eL : cols = (L : Int)) (hs : (qOf p != 0) = true) (hp : OkP p) (h1 : 1 ≤ N ∧ N ≤ 26) (h2 : 1 ≤ L ∧ L ≤ 26) (hN : ((L + N : Nat) : Int) < p) (w : World)  :
    Calls Try.prog 3 #[.int .u64 p, .int .i64 rows, .int .i64 cols] w fun e w' => e = .returned (.bool true) ∧ Below w.heap.size w w' := by
  have gs := fun W => rSupported_any p W
  rw [hs] at gs
  have hbd := hp.bd
  have hMat := nw_mat (p := p) (by omega) N L
  subst eN eL
  go_enter Try.func3, Try.ntmps3
  have hB := Below.refl w.heap.size w
  go_wp2_with fail
  refine (awake7_any _).mono ?_
  rintro e w1 ⟨rfl, hb⟩
  replace hB := hB.trans (hb.mono hB.size)
  clear hb
  go_wp2_with fail
  refine (gs _).mono ?_
  rintro e w2 ⟨rfl, hb⟩
  replace hB := hB.trans (hb.mono hB.size)
  clear hb
  go_wp2_with fail
  refine (new_ok p hp N L h1 h2 hN _).mono ?_
  rintro e w3 ⟨Am, cm, rfl, sm, hb⟩
  replace hB := hB.trans (hb.mono hB.size)
  clear hb
  go_wp2_with fail
  refine (rNew_ok p hp N L h1 h2 hN _).mono ?_
  rintro e w4 ⟨An, cn, rfl, sn, hb⟩
  replace sm := sm.next hb
  replace hB := hB.trans (hb.mono hB.size)
  clear hb
  go_wp2_with fail
  refine (rows_b _ _ (nw p N L) _ _ _ sm sn (by rw [nw_len]; omega) (fun r hr => by rw [(hMat.row r hr).1]; omega)).mono ?_
  rintro e w5 ⟨rfl, hb⟩
  replace sm := sm.next hb
  replace sn := sn.next hb
  replace hB := hB.trans (hb.mono hB.size)
  clear hb
  go_wp2_with fail
  go_ret
  exact ⟨rfl, hB⟩

set_option maxHeartbeats 4000000 in
theorem walk (p : Int) (rows : Int) (cols : Int) (brows : -9223372036854775808 ≤ rows ∧ rows ≤ 9223372036854775807) (bcols : -9223372036854775808 ≤ cols ∧ cols ≤ 9223372036854775807)  (w : World)  :
    Calls Try.prog 3 #[.int .u64 p, .int .i64 rows, .int .i64 cols] w fun e w' => e = .returned (.bool true) ∧ Below w.heap.size w w' := by
  rcases sup_cases p with hs | ⟨hs, hp⟩
  · exact walk_unsup p rows cols brows bcols hs w
  · by_cases hr : 1 ≤ rows ∧ rows ≤ 26 ∧ 1 ≤ cols ∧ cols ≤ 26 ∧ rows + cols < p
    · exact walk_ok p rows cols brows bcols rows.toNat cols.toNat (by omega) (by omega) hs hp (by omega) (by omega) (by omega) w
    · exact walk_bad p rows cols brows bcols hs hr w

theorem lifted (os : Os) (started : os.Started) (H : Type) (enc : TypeId × Value → H) :
    ReturnsInHanded {} Try.checked os 3 .any (Rows.hyperinvertibleNewMatchesReferenceSpec.pre6 enc Try.prog Try.f3 Rows.hyperinvertibleNewMatchesReferenceRow.domain false) (Rows.hyperinvertibleNewMatchesReferenceSpec.post enc Try.prog Try.f3 false true false false) := by
  refine returnsInHanded_of_change (C := Try.checked) own started (by kernel_rfl) Try.func3
    (ChangeSpec.witness6 (enc := enc) (C := Try.checked) false ⟨#[], #[.int .u64 0, .int .i64 0, .int .i64 0], []⟩ 8 (by kernel_rfl) (by kernel_rfl) (by kernel_rfl) (by kernel_rfl)) ?_
  intro W base args ds gs before hval0 hW hcnd _
  have hval : ∀ (j : Nat) t v, Try.f3.params[j]? = some t → args[j]? = some v → Value.okWide Try.prog W .any base t v := hval0
  have hW' := hW
  obtain ⟨p, q, hA0, hV, rfl, hfz, hnd⟩ := hW
  have hA : DataW.TrodAll enc Try.prog W 0 (fun _ => true) true Try.f3.params.toList args.toList ds p := hA0
  rw [Try.params3] at hA hval
  obtain ⟨v0, v1, v2, d0, d1, d2, p0, p1, p2, rfl, rfl, rfl, t0, t1, t2⟩ := trodAll_three hA
  obtain ⟨rfl, rfl⟩ := trodVars_none hV
  clear hA0 hval0
  simp only [List.append_nil] at hW'
  have l0 : ∀ x ∈ p0, x.block < W.heap.size := fun x hx => hW'.lt x (by simp [hx])
  obtain ⟨x0, rfl, _⟩ := arg_word (hval 0 22 v0 rfl rfl) t0
  have l1 : ∀ x ∈ p1, x.block < W.heap.size := fun x hx => hW'.lt x (by simp [hx])
  obtain ⟨x1, rfl, b1⟩ := arg_int (hval 1 3 v1 rfl rfl) t1
  have l2 : ∀ x ∈ p2, x.block < W.heap.size := fun x hx => hW'.lt x (by simp [hx])
  obtain ⟨x2, rfl, b2⟩ := arg_int (hval 2 3 v2 rfl rfl) t2
  refine (walk x0 x1 x2 b1 b2 W ).mono fun e W' ⟨he, hb⟩ => ?_
  subst he
  exact ⟨_, rfl, post_of_below (pa := p0 ++ (p1 ++ p2)) (pv := []) hW' (fun _ _ _ => (trodAll_cons_mk (shut_bool Try.underlying4 _) trodAll_mk0)) (fun sp hsp => trodAll_mk3 (stay_word t0 hb l0 sp (fun x hx => hsp x (by simp [hx]))) (stay_int t1 hb l1 sp (fun x hx => hsp x (by simp [hx]))) (stay_int t2 hb l2 sp (fun x hx => hsp x (by simp [hx])))) (fun _ _ => rfl) (by simp)
    hb (ok_one (by kernel_rfl) rfl (okWide_bool_mk Try.underlying4 _))⟩

theorem over : Rows.hyperinvertibleNewMatchesReferenceRow.holds Try.pinned (OpenSpec.ofChange Rows.hyperinvertibleNewMatchesReferenceSpec) :=
  OpenClaim.holds_of_wide 3 Try.f3 rfl rfl rfl rfl rfl rfl rfl ⟨rfl, rfl, rfl, rfl, rfl⟩ rfl rfl rfl rfl rfl (by kernel_rfl) Try.func3 (by kernel_rfl)
    (of_decide_eq_true (by kernel_rfl)) (by unfold Func.isWrapper; first | (rw [if_pos (by decide +kernel)]; kernel_rfl) | (rw [if_neg (by decide +kernel)]; exact ⟨rfl, rfl⟩))
    (fun os started H enc _ => lifted os started H enc)

theorem proved : Rows.HyperinvertibleNewMatchesReferenceSaid := over
end Go.Proofs.Ytjijlefplidhpaa.hyperinvertibleNewMatchesReference
