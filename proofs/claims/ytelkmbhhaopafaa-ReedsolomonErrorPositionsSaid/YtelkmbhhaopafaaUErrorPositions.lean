/- ErrorPositions of package reedsolomon hands back what the reference does. No conditions. -/
import Derived.Test.YtelkmbhhaopafaaVLaw
import Derived.Test.YtelkmbhhaopafaaVOpen
import Derived.Test.YtelkmbhhaopafaaMB
namespace Go.Proofs.Ytelkmbhhaopafaa.reedsolomonErrorPositions
set_option maxRecDepth 100000
open Go.ChangeShapes Go.WideShapes Go.ChangeAt Go.RowKit PolyMath FieldMath MatMath

set_option maxHeartbeats 4000000 in
theorem walk (P : Int) (B : Option Addr) (cb : Nat) (ps : List (Int × Int)) (deg wg : Int) (Af : Option Addr) (cf : Nat) (f : List Int) (hP : Wd P) (wp : PWords ps) (wf : Words f) (w : World) (sp : Pt w B cb ps) (sf : Sl w Af cf f) : Calls Try.prog 4 #[.agg #[.int .u64 P, .slice B ps.length cb, .int .i64 deg, .int .i64 wg], .slice Af f.length cf] w fun e w' => e = .returned (.bool true) ∧ Below w.heap.size w w' := by
  have hp := fitP_ok P
  have hB0 : Below w.heap.size w (w.alloc (.cells #[.int .u64 P, .slice B ps.length cb, .int .i64 deg, .int .i64 wg] 25)) := (Below.refl _ w).alloc (Nat.le_refl _) _
  have hlt0 : w.heap.size < (w.alloc (.cells #[.int .u64 P, .slice B ps.length cb, .int .i64 deg, .int .i64 wg] 25)).heap.size := by simp
  have k2 : (w.alloc (.cells #[.int .u64 P, .slice B ps.length cb, .int .i64 deg, .int .i64 wg] 25)).cell? ⟨w.heap.size, 2, none⟩ = some (.int .i64 deg) := by go_simp
  have k3 : (w.alloc (.cells #[.int .u64 P, .slice B ps.length cb, .int .i64 deg, .int .i64 wg] 25)).cell? ⟨w.heap.size, 3, none⟩ = some (.int .i64 wg) := by go_simp
  have hfit := fit8_row P hP.1 hP.2 B cb ps wp deg wg _ (sp.next hB0)
  generalize fitP P = p at *
  have hbd := hp.bd
  have hx := fitPs_x (p := p) (by omega) ps 9
  have hy := fitPs_y (p := p) (by omega) ps 9
  have hl := fitPs_len p ps 9
  generalize fitPs p ps 9 = qs at *
  go_enter Try.func4, Try.ntmps4
  go_wp2_with fail
  refine hfit.mono ?_
  rintro e w1 ⟨A1, c1, rfl, sq, b1⟩
  have d2 := (b1.cell (p := ⟨w.heap.size, 2, none⟩) hlt0).trans k2
  have d3 := (b1.cell (p := ⟨w.heap.size, 3, none⟩) hlt0).trans k3
  have hbl : w.heap.size < w1.heap.size := Nat.lt_of_lt_of_le hlt0 b1.size
  have hB1 := hB0.trans (b1.mono hB0.size)
  clear hfit b1 k2 k3 hlt0 hB0
  have sf1 := sf.next hB1
  have hwd := wdN_el (p := p) (by omega) f 12
  have hwl := wdN_len p f 12
  have hww := words8_row p hp 12 (by omega) Af cf f wf w1 sf1
  generalize wdN p f 12 = G at *
  go_wp2_with fail
  refine hww.mono ?_
  rintro e w2 ⟨A2, g2, rfl, s2, b2⟩
  have hB2 := hB1.trans (b2.mono hB1.size)
  have q2 := sq.next b2
  have hek := errK_len p G qs qs.length
  rw [errK_all] at hek
  clear hww sf1 sq b2 d2 d3
  go_wp2_with fail
  refine (awake8_any _).mono ?_
  rintro e w3 ⟨rfl, bA⟩
  have hBZ := hB2.trans (bA.mono hB2.size)
  replace s2 := s2.next bA
  replace q2 := q2.next bA
  clear bA
  go_wp2_with fail
  refine (errp_row p hp A2 A1 g2 c1 G hwd (by omega) qs hx (by omega) _ s2 q2).mono ?_
  rintro e w4 ⟨A4, g4, rfl, i4, b4⟩
  replace s2 := s2.next b4
  replace q2 := q2.next b4
  replace hBZ := hBZ.trans (b4.mono hBZ.size)
  clear b4
  go_wp2_with fail
  refine (rErrp_row p hp A2 A1 g2 c1 G hwd (by omega) qs hx (by omega) _ s2 q2).mono ?_
  rintro e w5 ⟨A5, g5, rfl, i5, b5⟩
  replace i4 := i4.next b5
  replace hBZ := hBZ.trans (b5.mono hBZ.size)
  clear b5 s2 q2
  go_wp2_with fail
  refine (places_is A4 A5 (errI p G qs) g4 g5 _ i4 i5 (by omega)).mono ?_
  rintro e w6 ⟨rfl, b6⟩
  replace hBZ := hBZ.trans (b6.mono hBZ.size)
  clear b6
  go_wp2
  go_ret
  exact ⟨rfl, hBZ⟩

theorem lifted (os : Os) (started : os.Started) (H : Type) (enc : TypeId × Value → H) :
    ReturnsInHanded {} Try.checked os 4 .any (Rows.reedsolomonErrorPositionsSpec.pre6 enc Try.prog Try.f4 Rows.reedsolomonErrorPositionsRow.domain false) (Rows.reedsolomonErrorPositionsSpec.post enc Try.prog Try.f4 false true false false) := by
  refine returnsInHanded_of_change (C := Try.checked) own started (by kernel_rfl) Try.func4
    (ChangeSpec.witness6 (enc := enc) (C := Try.checked) false ⟨#[], #[.agg #[.int .u64 0, .slice none 0 0, .int .i64 0, .int .i64 0], .slice none 0 0], []⟩ 8 (by kernel_rfl) (by kernel_rfl) (by kernel_rfl) (by kernel_rfl)) ?_
  intro W base args ds gs before hval0 hW hcnd _
  have hval : ∀ (j : Nat) t v, Try.f4.params[j]? = some t → args[j]? = some v → Value.okWide Try.prog W .any base t v := hval0
  have hW' := hW
  obtain ⟨p, q, hA0, hV, rfl, hfz, hnd⟩ := hW
  have hA : DataW.TrodAll enc Try.prog W 0 (fun _ => true) true Try.f4.params.toList args.toList ds p := hA0
  rw [Try.params4] at hA hval
  obtain ⟨v0, v1, d0, d1, p0, p1, rfl, rfl, rfl, t0, t1⟩ := trodAll_two hA
  obtain ⟨rfl, rfl⟩ := trodVars_none hV
  clear hA0 hval0
  simp only [List.append_nil] at hW'
  have l0 : ∀ x ∈ p0, x.block < W.heap.size := fun x hx => hW'.lt x (by simp [hx])
  obtain ⟨x0, A0, m0, c0, y0, z0, rfl, h0, s0, w0⟩ := arg_ask8 (hval 0 25 v0 rfl rfl) t0 l0
  have l1 : ∀ x ∈ p1, x.block < W.heap.size := fun x hx => hW'.lt x (by simp [hx])
  obtain ⟨A1, x1, c1, rfl, r1, b1⟩ := arg_sl (hval 1 28 v1 rfl rfl) t1 l1
  refine (walk x0 A0 c0 m0 y0 z0 A1 c1 x1 h0 w0 b1 W s0 r1).mono fun e W' ⟨he, hb⟩ => ?_
  subst he
  exact ⟨_, rfl, post_of_below (pa := p0 ++ p1) (pv := []) hW' (fun _ _ _ => (trodAll_cons_mk (shut_bool Try.underlying4 _) trodAll_mk0)) (fun sp hsp => trodAll_mk2 (stay_ask8 t0 hb l0 sp (fun x hx => hsp x (by simp [hx]))) (stays t1 hb l1 sp (fun x hx => hsp x (by simp [hx])))) (fun _ _ => rfl) (by simp)
    hb (ok_one (by kernel_rfl) rfl (okWide_bool_mk Try.underlying4 _))⟩

theorem over : Rows.reedsolomonErrorPositionsRow.holds Try.pinned (OpenSpec.ofChange Rows.reedsolomonErrorPositionsSpec) :=
  OpenClaim.holds_of_wide 4 Try.f4 rfl rfl rfl rfl rfl rfl rfl ⟨rfl, rfl, rfl, rfl, rfl⟩ rfl rfl rfl rfl rfl (by kernel_rfl) Try.func4 (by kernel_rfl)
    (of_decide_eq_true (by kernel_rfl)) (by unfold Func.isWrapper; first | (rw [if_pos (by decide +kernel)]; kernel_rfl) | (rw [if_neg (by decide +kernel)]; exact ⟨rfl, rfl⟩))
    (fun os started H enc _ => lifted os started H enc)

theorem proved : Rows.ReedsolomonErrorPositionsSaid := over
end Go.Proofs.Ytelkmbhhaopafaa.reedsolomonErrorPositions
