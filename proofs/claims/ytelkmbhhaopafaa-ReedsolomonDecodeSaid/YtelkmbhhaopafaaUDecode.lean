/- Decode of package reedsolomon hands back what the reference does. No conditions. -/
import Derived.Test.YtelkmbhhaopafaaVLaw
import Derived.Test.YtelkmbhhaopafaaVOpen
import Derived.Test.YtelkmbhhaopafaaMB
namespace Go.Proofs.Ytelkmbhhaopafaa.reedsolomonDecode
set_option maxRecDepth 100000
open Go.ChangeShapes Go.WideShapes Go.ChangeAt Go.RowKit PolyMath FieldMath MatMath

set_option maxHeartbeats 4000000 in
theorem walk (P : Int) (B : Option Addr) (cb : Nat) (ps : List (Int × Int)) (deg wg : Int) (hP : Wd P) (wp : PWords ps) (w : World) (sp : Pt w B cb ps) : Calls Try.prog 3 #[.agg #[.int .u64 P, .slice B ps.length cb, .int .i64 deg, .int .i64 wg]] w fun e w' => e = .returned (.bool true) ∧ Below w.heap.size w w' := by
  have hp := fitP_ok P
  have hB0 : Below w.heap.size w (w.alloc (.cells #[.int .u64 P, .slice B ps.length cb, .int .i64 deg, .int .i64 wg] 25)) := (Below.refl _ w).alloc (Nat.le_refl _) _
  have hlt0 : w.heap.size < (w.alloc (.cells #[.int .u64 P, .slice B ps.length cb, .int .i64 deg, .int .i64 wg] 25)).heap.size := by simp
  have k2 : (w.alloc (.cells #[.int .u64 P, .slice B ps.length cb, .int .i64 deg, .int .i64 wg] 25)).cell? ⟨w.heap.size, 2, none⟩ = some (.int .i64 deg) := by go_simp
  have k3 : (w.alloc (.cells #[.int .u64 P, .slice B ps.length cb, .int .i64 deg, .int .i64 wg] 25)).cell? ⟨w.heap.size, 3, none⟩ = some (.int .i64 wg) := by go_simp
  have hfit := fit8_row P hP.1 hP.2 B cb ps wp deg wg _ (sp.next hB0)
  generalize fitP P = p at *
  have hbd := hp.bd
  have hx := fitPs_x (p := p) (by omega) ps 9
  have hy := fitPs_y (p := p) (by omega) ps 9
  have hl := fitPs_len p ps 9
  generalize fitPs p ps 9 = qs at *
  go_enter Try.func3, Try.ntmps3
  go_wp2_with fail
  refine hfit.mono ?_
  rintro e w1 ⟨A1, c1, rfl, sq, b1⟩
  have d2 := (b1.cell (p := ⟨w.heap.size, 2, none⟩) hlt0).trans k2
  have d3 := (b1.cell (p := ⟨w.heap.size, 3, none⟩) hlt0).trans k3
  have hbl : w.heap.size < w1.heap.size := Nat.lt_of_lt_of_le hlt0 b1.size
  have hB1 := hB0.trans (b1.mono hB0.size)
  clear hfit b1 k2 k3 hlt0 hB0
  have hrd := fun W h => rDecode_any p hp A1 c1 qs hx hy deg wg (by omega) W h
  go_wp2_with fail
  refine (decode_any p hp A1 c1 qs hx hy deg wg (.inl (by omega)) w1 sq).mono ?_
  rintro e w2 (⟨hv, rfl, b2⟩ | ⟨hv, hno, rfl, b2⟩ | ⟨hv, f, A2, g2, A3, g3, hd, rfl, s2, i2, b2⟩)
  · have hB2 := hB1.trans (b2.mono hB1.size)
    have e2 := (b2.cell (p := ⟨w.heap.size, 2, none⟩) hbl).trans d2
    have e3 := (b2.cell (p := ⟨w.heap.size, 3, none⟩) hbl).trans d3
    have hr2 := hrd w2 (sq.next b2)
    clear hrd d2 d3 sq b2
    go_wp2_with fail
    refine hr2.mono ?_
    rintro e w3 (⟨hv', rfl, b3⟩ | ⟨hv', hno', rfl, b3⟩ | ⟨hv', g, A4, g4, A5, g5, hd', rfl, s4, i4, b3⟩)
    · have hB3 := hB2.trans (b3.mono hB2.size)
      clear hr2
      go_wp2_with fail
      refine (awake8_any _).mono ?_
      rintro e w4 ⟨rfl, bA⟩
      have hBZ := hB3.trans (bA.mono hB3.size)
      clear bA
      go_wp2_with fail
      refine (equal_is none none [] [] 0 0 _ (Sl.nothing _) (Sl.nothing _) (by decide) rfl).mono ?_
      rintro e w5 ⟨rfl, b5⟩
      replace hBZ := hBZ.trans (b5.mono hBZ.size)
      clear b5
      go_wp2_with fail
      refine (places_is none none [] 0 0 _ (Si.nothing _) (Si.nothing _) (by decide)).mono ?_
      rintro e w6 ⟨rfl, b6⟩
      replace hBZ := hBZ.trans (b6.mono hBZ.size)
      clear b6
      go_wp2
      go_ret
      exact ⟨rfl, hBZ⟩
    · exact absurd hv' hv
    · exact absurd hv' hv
  · have hB2 := hB1.trans (b2.mono hB1.size)
    have e2 := (b2.cell (p := ⟨w.heap.size, 2, none⟩) hbl).trans d2
    have e3 := (b2.cell (p := ⟨w.heap.size, 3, none⟩) hbl).trans d3
    have hr2 := hrd w2 (sq.next b2)
    clear hrd d2 d3 sq b2
    go_wp2_with fail
    refine hr2.mono ?_
    rintro e w3 (⟨hv', rfl, b3⟩ | ⟨hv', hno', rfl, b3⟩ | ⟨hv', g, A4, g4, A5, g5, hd', rfl, s4, i4, b3⟩)
    · exact absurd hv hv'
    · have hB3 := hB2.trans (b3.mono hB2.size)
      clear hr2
      go_wp2_with fail
      refine (awake8_any _).mono ?_
      rintro e w4 ⟨rfl, bA⟩
      have hBZ := hB3.trans (bA.mono hB3.size)
      clear bA
      go_wp2_with fail
      refine (equal_is none none [] [] 0 0 _ (Sl.nothing _) (Sl.nothing _) (by decide) rfl).mono ?_
      rintro e w5 ⟨rfl, b5⟩
      replace hBZ := hBZ.trans (b5.mono hBZ.size)
      clear b5
      go_wp2_with fail
      refine (places_is none none [] 0 0 _ (Si.nothing _) (Si.nothing _) (by decide)).mono ?_
      rintro e w6 ⟨rfl, b6⟩
      replace hBZ := hBZ.trans (b6.mono hBZ.size)
      clear b6
      go_wp2
      go_ret
      exact ⟨rfl, hBZ⟩
    · exact absurd hd' (hno g)
  · have hB2 := hB1.trans (b2.mono hB1.size)
    have e2 := (b2.cell (p := ⟨w.heap.size, 2, none⟩) hbl).trans d2
    have e3 := (b2.cell (p := ⟨w.heap.size, 3, none⟩) hbl).trans d3
    have hr2 := hrd w2 (sq.next b2)
    clear hrd d2 d3 sq b2
    go_wp2_with fail
    refine hr2.mono ?_
    rintro e w3 (⟨hv', rfl, b3⟩ | ⟨hv', hno', rfl, b3⟩ | ⟨hv', g, A4, g4, A5, g5, hd', rfl, s4, i4, b3⟩)
    · exact absurd hv hv'
    · exact absurd hd (hno' f)
    · have hvE := hv.1
      unfold Enough at hvE
      have he : g = f := Dec.unique hp.good hv.2 hx (by omega) hd' hd
      subst he
      have hle := hd.le
      have hB3 := hB2.trans (b3.mono hB2.size)
      have hek := errK_len p g qs qs.length
      rw [errK_all] at hek
      have s3 := s2.next b3
      have i3 := i2.next b3
      have HL : g.length ≤ 1000 := by omega
      clear hr2 hd hd' hv hv' s2 i2 b3 hvE
      generalize errI p g qs = l at *
      go_wp2_with fail
      refine (awake8_any _).mono ?_
      rintro e w4 ⟨rfl, bA⟩
      have hBZ := hB3.trans (bA.mono hB3.size)
      replace s3 := s3.next bA
      replace s4 := s4.next bA
      replace i3 := i3.next bA
      replace i4 := i4.next bA
      clear bA
      go_wp2_with fail
      refine (equal_is A2 A4 g g g2 g4 _ s3 s4 HL rfl).mono ?_
      rintro e w5 ⟨rfl, b5⟩
      replace i3 := i3.next b5
      replace i4 := i4.next b5
      replace hBZ := hBZ.trans (b5.mono hBZ.size)
      clear b5 s3 s4
      go_wp2_with fail
      refine (places_is A3 A5 l g3 g5 _ i3 i4 (by omega)).mono ?_
      rintro e w6 ⟨rfl, b6⟩
      replace hBZ := hBZ.trans (b6.mono hBZ.size)
      clear b6
      go_wp2
      go_ret
      exact ⟨rfl, hBZ⟩

theorem lifted (os : Os) (started : os.Started) (H : Type) (enc : TypeId × Value → H) :
    ReturnsInHanded {} Try.checked os 3 .any (Rows.reedsolomonDecodeSpec.pre6 enc Try.prog Try.f3 Rows.reedsolomonDecodeRow.domain false) (Rows.reedsolomonDecodeSpec.post enc Try.prog Try.f3 false true false false) := by
  refine returnsInHanded_of_change (C := Try.checked) own started (by kernel_rfl) Try.func3
    (ChangeSpec.witness6 (enc := enc) (C := Try.checked) false ⟨#[], #[.agg #[.int .u64 0, .slice none 0 0, .int .i64 0, .int .i64 0]], []⟩ 8 (by kernel_rfl) (by kernel_rfl) (by kernel_rfl) (by kernel_rfl)) ?_
  intro W base args ds gs before hval0 hW hcnd _
  have hval : ∀ (j : Nat) t v, Try.f3.params[j]? = some t → args[j]? = some v → Value.okWide Try.prog W .any base t v := hval0
  have hW' := hW
  obtain ⟨p, q, hA0, hV, rfl, hfz, hnd⟩ := hW
  have hA : DataW.TrodAll enc Try.prog W 0 (fun _ => true) true Try.f3.params.toList args.toList ds p := hA0
  rw [Try.params3] at hA hval
  obtain ⟨v0, d0, rfl, rfl, t0⟩ := trodAll_one hA
  obtain ⟨rfl, rfl⟩ := trodVars_none hV
  clear hA0 hval0
  simp only [List.append_nil] at hW'
  have l0 : ∀ x ∈ p, x.block < W.heap.size := fun x hx => hW'.lt x (by simp [hx])
  obtain ⟨x0, A0, m0, c0, y0, z0, rfl, h0, s0, w0⟩ := arg_ask8 (hval 0 25 v0 rfl rfl) t0 l0
  refine (walk x0 A0 c0 m0 y0 z0 h0 w0 W s0).mono fun e W' ⟨he, hb⟩ => ?_
  subst he
  exact ⟨_, rfl, post_of_below (pa := p) (pv := []) hW' (fun _ _ _ => (trodAll_cons_mk (shut_bool Try.underlying4 _) trodAll_mk0)) (fun sp hsp => trodAll_mk1 (stay_ask8 t0 hb l0 sp (fun x hx => hsp x (by simp [hx])))) (fun _ _ => rfl) (by simp)
    hb (ok_one (by kernel_rfl) rfl (okWide_bool_mk Try.underlying4 _))⟩

theorem over : Rows.reedsolomonDecodeRow.holds Try.pinned (OpenSpec.ofChange Rows.reedsolomonDecodeSpec) :=
  OpenClaim.holds_of_wide 3 Try.f3 rfl rfl rfl rfl rfl rfl rfl ⟨rfl, rfl, rfl, rfl, rfl⟩ rfl rfl rfl rfl rfl (by kernel_rfl) Try.func3 (by kernel_rfl)
    (of_decide_eq_true (by kernel_rfl)) (by unfold Func.isWrapper; first | (rw [if_pos (by decide +kernel)]; kernel_rfl) | (rw [if_neg (by decide +kernel)]; exact ⟨rfl, rfl⟩))
    (fun os started H enc _ => lifted os started H enc)

theorem proved : Rows.ReedsolomonDecodeSaid := over
end Go.Proofs.Ytelkmbhhaopafaa.reedsolomonDecode
