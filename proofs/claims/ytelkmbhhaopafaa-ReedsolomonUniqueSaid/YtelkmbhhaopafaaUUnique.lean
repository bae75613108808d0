/- Any polynomial of degree at most deg with at most wrong errors is the one that Decode returns. No conditions. -/
import Derived.Test.YtelkmbhhaopafaaVOrd
import Derived.Test.YtelkmbhhaopafaaVOpen
import Derived.Test.YtelkmbhhaopafaaVQuiet
import Derived.Test.YtelkmbhhaopafaaMB
namespace Go.Proofs.Ytelkmbhhaopafaa.reedsolomonUnique
set_option maxRecDepth 100000
open Go.ChangeShapes Go.WideShapes Go.ChangeAt Go.RowKit PolyMath FieldMath MatMath

set_option maxHeartbeats 4000000 in
theorem walk (P : Int) (B : Option Addr) (cb : Nat) (ps : List (Int × Int)) (deg wg : Int) (Af : Option Addr) (cf : Nat) (f : List Int) (hP : Wd P) (wp : PWords ps) (wf : Words f) (w : World) (sp : Pt w B cb ps) (sf : Sl w Af cf f) : Calls Try.prog 7 #[.agg #[.int .u64 P, .slice B ps.length cb, .int .i64 deg, .int .i64 wg], .slice Af f.length cf] w fun e w' => e = .returned (.bool true) ∧ Below w.heap.size w w' := by
  have hp := fitP_ok P
  have hB0 : Below w.heap.size w (w.alloc (.cells #[.int .u64 P, .slice B ps.length cb, .int .i64 deg, .int .i64 wg] 25)) := (Below.refl _ w).alloc (Nat.le_refl _) _
  have hlt0 : w.heap.size < (w.alloc (.cells #[.int .u64 P, .slice B ps.length cb, .int .i64 deg, .int .i64 wg] 25)).heap.size := by simp
  have k2 : (w.alloc (.cells #[.int .u64 P, .slice B ps.length cb, .int .i64 deg, .int .i64 wg] 25)).cell? ⟨w.heap.size, 2, none⟩ = some (.int .i64 deg) := by go_simp
  have k3 : (w.alloc (.cells #[.int .u64 P, .slice B ps.length cb, .int .i64 deg, .int .i64 wg] 25)).cell? ⟨w.heap.size, 3, none⟩ = some (.int .i64 wg) := by go_simp
  have hfit := fit8_row P hP.1 hP.2 B cb ps wp deg wg _ (sp.next hB0)
  generalize fitP P = p at *
  have hbd := hp.bd
  have hx := fitPs_x (p := p) (by omega) ps 9
  have hy := fitPs_y (p := p) (by omega) ps 9
  have hl := fitPs_len p ps 9
  generalize fitPs p ps 9 = qs at *
  go_enter Try.func7, Try.ntmps7
  go_wp2_with fail
  refine hfit.mono ?_
  rintro e w1 ⟨A1, c1, rfl, sq, b1⟩
  have d2 := (b1.cell (p := ⟨w.heap.size, 2, none⟩) hlt0).trans k2
  have d3 := (b1.cell (p := ⟨w.heap.size, 3, none⟩) hlt0).trans k3
  have hbl : w.heap.size < w1.heap.size := Nat.lt_of_lt_of_le hlt0 b1.size
  have hB1 := hB0.trans (b1.mono hB0.size)
  clear hfit b1 k2 k3 hlt0 hB0
  have sf1 := sf.next hB1
  have hwd := wdN_el (p := p) (by omega) f 5
  have hwl := wdN_len p f 5
  have hww := words8_row p hp 5 (by omega) Af cf f wf w1 sf1
  generalize wdN p f 5 = G at *
  go_wp2_with fail
  refine hww.mono ?_
  rintro e w2 ⟨A2, g2, rfl, s2, b2⟩
  have hB2 := hB1.trans (b2.mono hB1.size)
  have q2 := sq.next b2
  have e2 := (b2.cell (p := ⟨w.heap.size, 2, none⟩) hbl).trans d2
  have e3 := (b2.cell (p := ⟨w.heap.size, 3, none⟩) hbl).trans d3
  have hbl2 : w.heap.size < w2.heap.size := Nat.lt_of_lt_of_le hbl b2.size
  clear hww sf1 sq b2 d2 d3 hbl hB1
  have hmay : Calls Try.prog 22 #[.slice A1 qs.length c1, .int .i64 deg, .int .i64 wg] w2.drew fun e w' => e = .returned (.bool (decide (Valid qs deg wg))) ∧ Below w2.drew.heap.size w2.drew w' := (may_any A1 c1 qs (by omega) deg wg w2.drew q2.drew).mono fun e w' ⟨h1, m, h2⟩ => ⟨h1, by rw [h2]; exact below_drewN (Below.refl _ _) m⟩
  have hdg := fun W (h : Sl W A2 g2 G) => rDegree_any A2 g2 G W h (by omega)
  have her := fun W (h1 : Sl W A2 g2 G) (h2 : Pt W A1 c1 qs) => rErrp_row p hp A2 A1 g2 c1 G hwd (by omega) qs hx (by omega) W h1 h2
  have hdr : Below w2.heap.size w2 w2.drew := (Below.refl _ w2).drew
  have htn := tn_le G
  have hek := errK_len p G qs qs.length
  rw [errK_all] at hek
  obtain ⟨T, hT⟩ : ∃ T : Int, T = (tn G : Int) - 1 := ⟨_, rfl⟩
  simp only [← hT] at hdg
  have HT := Lib.hid hT
  clear hT
  by_cases hV : Valid qs deg wg
  · rw [decide_eq_true hV] at hmay
    have HV := Lib.hid hV
    clear hV
    by_cases hgt : deg < T
    · have hgd : decide (deg < T) = true := decide_eq_true hgt
      have hmq : ∀ b : Beyond w2, Calls Try.prog 22 #[.slice A1 qs.length c1, .int .i64 deg, .int .i64 wg] b.W fun e w'' => e = .returned (.bool true) ∧ ∃ b' : Beyond w2, w'' = b'.W := fun b => b.of ((may_any A1 c1 qs (by omega) deg wg b.W (q2.next b.below)).mono fun e w' ⟨h1, m, h2⟩ => ⟨by rw [h1, decide_eq_true HV.out], by rw [h2]; exact below_drewN (Below.refl _ _) m⟩)
      have hdq : ∀ b : Beyond w2, Calls Try.prog 23 #[.slice A2 G.length g2] b.W fun e w'' => e = .returned (.int .i64 T) ∧ ∃ b' : Beyond w2, w'' = b'.W := fun b => b.of (hdg b.W (s2.next b.below))
      have e2q := fun b : Beyond w2 => (b.below.cell (p := ⟨w.heap.size, 2, none⟩) hbl2).trans e2
      have e3q := fun b : Beyond w2 => (b.below.cell (p := ⟨w.heap.size, 3, none⟩) hbl2).trans e3
      clear her hdg hmay
      go_wp2_with fail
      refine wp_region_beyond (by kernel_rfl) (by kernel_rfl) ?_
      repeat (go_big_quiet_step (first | exact hmq _ | exact hdq _))
      refine wpQuiet_nil ?_
      rintro _ ⟨⟨w4, hb4⟩, rfl⟩
      clear hmq hdq e2q e3q
      have hB4 := hB2.trans (hb4.mono hB2.size)
      go_wp2_with fail
      refine (awake8_any _).mono ?_
      rintro e w5 ⟨rfl, bA⟩
      have hBZ := hB4.trans (bA.mono hB4.size)
      clear bA
      go_wp2
      go_ret
      exact ⟨rfl, hBZ⟩
    · have hgd : decide (deg < T) = false := decide_eq_false hgt
      have hle : Hid (tn G ≤ deg.toNat + 1) := Lib.hid (by have := HT.out; have := HV.out.1.1; omega)
      have hlI := errI_len p G qs
      obtain ⟨LE, hLE⟩ : ∃ LE, LE = (errI p G qs).length := ⟨_, rfl⟩
      have hek2 : LE ≤ qs.length := by omega
      have HLE := Lib.hid hLE
      have HLI := Lib.hid hlI
      unfold RowI at her
      rw [← hLE] at her
      clear hLE hlI hek
      by_cases hew : wg < (LE : Int)
      · have hed : decide (wg < (LE : Int)) = true := decide_eq_true hew
        go_wp2_with fail
        go_region_held3 (fun w' => w'.cell? ⟨w.heap.size, 2, none⟩ = some (.int .i64 deg) ∧ w'.cell? ⟨w.heap.size, 3, none⟩ = some (.int .i64 wg))
          (first | (refine ⟨?_, ?_⟩ <;> assumption) | exact ⟨e2, e3⟩)
          (first
            | (go_at_call 22; (with_reducible refine hmay.mono ?_); rintro e w3 ⟨rfl, b3⟩; have hb3 := hdr.trans (b3.mono hdr.size); have f2 := (hb3.cell (p := ⟨w.heap.size, 2, none⟩) hbl2).trans e2; have f3 := (hb3.cell (p := ⟨w.heap.size, 3, none⟩) hbl2).trans e3; have hdg3 := Lib.hid (hdg w3 (s2.next hb3)); have hbl3 : w.heap.size < w3.heap.size := Nat.lt_of_lt_of_le hbl2 hb3.size; clear hmay b3 hdg)
            | (go_at_call 23; (with_reducible refine (hdg3.out).mono ?_); rintro e w4 ⟨rfl, b4⟩; have hb4 := hb3.trans (b4.mono hb3.size); have g2_ := (hb4.cell (p := ⟨w.heap.size, 2, none⟩) hbl2).trans e2; have g3_ := (hb4.cell (p := ⟨w.heap.size, 3, none⟩) hbl2).trans e3; have her4 := Lib.hid (her w4 (s2.next hb4) (q2.next hb4)); clear b4 her)
            | (go_at_call 18; (with_reducible refine (her4.out).mono ?_); rintro e w5 ⟨A5, c5, rfl, _, b5⟩; have hb5 := hb4.trans (b5.mono hb4.size); have h2_ := (hb5.cell (p := ⟨w.heap.size, 2, none⟩) hbl2).trans e2; have h3_ := (hb5.cell (p := ⟨w.heap.size, 3, none⟩) hbl2).trans e3; clear b5))
        all_goals
          have hB5 := hB2.trans (hb5.mono hB2.size)
          go_wp2_with fail
          refine (awake8_any _).mono ?_
          rintro e w6 ⟨rfl, bA⟩
          have hBZ := hB5.trans (bA.mono hB5.size)
          clear bA
          go_wp2
          go_ret
          exact ⟨rfl, hBZ⟩
      · have hed : decide (wg < (LE : Int)) = false := decide_eq_false hew
        have hD : Hid (Dec p qs deg.toNat wg.toNat (trim G)) := Lib.hid (by
          refine ⟨hwd.trim, trim_trim _, by rw [trim_length]; exact hle.out, ?_⟩
          have e1 : errs p (trim G) qs = errs p G qs := by unfold errs; simp only [pev_trim]
          have h1 := HLE.out
          have h2 := HLI.out
          have h3 := HV.out.1.2.1
          rw [e1]
          omega)
        have hEI : Hid (errI p (trim G) qs = errI p G qs) := Lib.hid (by unfold errI errs; simp only [pev_trim])
        go_wp2_with fail
        go_region_held3 (fun w' => w'.cell? ⟨w.heap.size, 2, none⟩ = some (.int .i64 deg) ∧ w'.cell? ⟨w.heap.size, 3, none⟩ = some (.int .i64 wg))
          (first | (refine ⟨?_, ?_⟩ <;> assumption) | exact ⟨e2, e3⟩)
          (first
            | (go_at_call 22; (with_reducible refine hmay.mono ?_); rintro e w3 ⟨rfl, b3⟩; have hb3 := hdr.trans (b3.mono hdr.size); have f2 := (hb3.cell (p := ⟨w.heap.size, 2, none⟩) hbl2).trans e2; have f3 := (hb3.cell (p := ⟨w.heap.size, 3, none⟩) hbl2).trans e3; have hdg3 := Lib.hid (hdg w3 (s2.next hb3)); have hbl3 : w.heap.size < w3.heap.size := Nat.lt_of_lt_of_le hbl2 hb3.size; clear hmay b3 hdg)
            | (go_at_call 23; (with_reducible refine (hdg3.out).mono ?_); rintro e w4 ⟨rfl, b4⟩; have hb4 := hb3.trans (b4.mono hb3.size); have g2_ := (hb4.cell (p := ⟨w.heap.size, 2, none⟩) hbl2).trans e2; have g3_ := (hb4.cell (p := ⟨w.heap.size, 3, none⟩) hbl2).trans e3; have her4 := Lib.hid (her w4 (s2.next hb4) (q2.next hb4)); clear b4 her)
            | (go_at_call 18; (with_reducible refine (her4.out).mono ?_); rintro e w5 ⟨A5, c5, rfl, _, b5⟩; have hb5 := hb4.trans (b5.mono hb4.size); have h2_ := (hb5.cell (p := ⟨w.heap.size, 2, none⟩) hbl2).trans e2; have h3_ := (hb5.cell (p := ⟨w.heap.size, 3, none⟩) hbl2).trans e3; clear b5))
        all_goals
          have hB5 := hB2.trans (hb5.mono hB2.size)
          have s5 := s2.next hb5
          have q5 := q2.next hb5
          clear her4 hdg3 hb3 hb4 e2 e3 f2 f3 g2_ g3_ s2 q2
          go_wp2_with fail
          refine (decode_any p hp A1 c1 qs hx hy deg wg (.inl (by omega)) w5 q5).mono ?_
          rintro e w6 (⟨hv, _⟩ | ⟨_, hno, _⟩ | ⟨_, f, A6, g6, A7, g7, hd, rfl, s6, i6, b6⟩)
          · exact absurd HV.out hv
          · exact absurd hD.out (hno _)
          · have hvE := HV.out.1
            unfold Enough at hvE
            have hfe : f = trim G := Dec.unique hp.good HV.out.2 hx (by omega) hd hD.out
            subst hfe
            have hB6 := hB5.trans (b6.mono hB5.size)
            have s7 := s5.next b6
            have q7 := q5.next b6
            have hll : (trim G).length ≤ 1000 := by rw [trim_length]; omega
            have hsa := fun A c B c' W h1 h2 => same8_any A B G (trim G) c c' W h1 h2 (by omega) hll
            simp only [trim_trim, decide_true] at hsa
            have her2 := fun W (h1 : Sl W A2 g2 G) (h2 : Pt W A1 c1 qs) => rErrp_row p hp A2 A1 g2 c1 G hwd (by omega) qs hx (by omega) W h1 h2
            rw [hEI.out] at i6 ⊢
            have hpl := fun A B c c' W h h' => places_is A B (errI p G qs) c c' W h h' (by rw [← HLE.out]; omega)
            clear hd hvE s5 q5
            generalize trim G = Q at *
            generalize errI p G qs = l at *
            go_wp2_with fail
            refine (awake8_any _).mono ?_
            rintro e w8 ⟨rfl, bA⟩
            have hBZ := hB6.trans (bA.mono hB6.size)
            replace s7 := s7.next bA
            replace q7 := q7.next bA
            replace s6 := s6.next bA
            replace i6 := i6.next bA
            clear bA
            go_wp2_with fail
            refine (hsa A2 g2 A6 g6 _ s7 s6).mono ?_
            rintro e w9 ⟨rfl, b9⟩
            replace s7 := s7.next b9
            replace q7 := q7.next b9
            replace i6 := i6.next b9
            replace hBZ := hBZ.trans (b9.mono hBZ.size)
            clear b9 s6
            go_wp2_with fail
            refine (her2 _ s7 q7).mono ?_
            rintro e w10 ⟨A10, c10, rfl, i10, b10⟩
            replace i6 := i6.next b10
            replace hBZ := hBZ.trans (b10.mono hBZ.size)
            clear b10
            go_wp2_with fail
            refine (hpl A7 A10 g7 c10 _ i6 i10).mono ?_
            rintro e w11 ⟨rfl, b11⟩
            replace hBZ := hBZ.trans (b11.mono hBZ.size)
            clear b11
            go_wp2
            go_ret
            exact ⟨rfl, hBZ⟩
  · have hmq : ∀ n, Calls Try.prog 22 #[.slice A1 qs.length c1, .int .i64 deg, .int .i64 wg] (w2.drewN n) fun e w' => e = .returned (.bool false) ∧ ∃ m, w' = w2.drewN m := fun n => (may_any A1 c1 qs (by omega) deg wg (w2.drewN n) (q2.next (below_drewN (Below.refl _ w2) n))).mono fun e w' ⟨h1, m, h2⟩ => ⟨by rw [h1, decide_eq_false hV], n + m, by rw [h2, World.drewN_drewN]⟩
    have e2q := fun n => ((below_drewN (Below.refl _ w2) n).cell (p := ⟨w.heap.size, 2, none⟩) hbl2).trans e2
    have e3q := fun n => ((below_drewN (Below.refl _ w2) n).cell (p := ⟨w.heap.size, 3, none⟩) hbl2).trans e3
    have hBq := fun n => Lib.hid (below_drewN hB2 n)
    clear hdg her hmay
    go_wp2_with fail
    go_quiet (exact hmq _)
    have hB3 := (hBq nq).out
    obtain ⟨w3, hw3⟩ : ∃ w3, w3 = w2.drewN nq := ⟨_, rfl⟩
    rw [← hw3] at hB3 ⊢
    clear hw3 hBq e2q e3q hmq
    go_wp2_with fail
    refine (awake8_any _).mono ?_
    rintro e w5 ⟨rfl, bA⟩
    have hBZ := hB3.trans (bA.mono hB3.size)
    clear bA
    go_wp2
    go_ret
    exact ⟨rfl, hBZ⟩

theorem lifted (os : Os) (started : os.Started) (H : Type) (enc : TypeId × Value → H) :
    ReturnsInHanded {} Try.checked os 7 .any (Rows.reedsolomonUniqueSpec.pre6 enc Try.prog Try.f7 Rows.reedsolomonUniqueRow.domain false) (Rows.reedsolomonUniqueSpec.post enc Try.prog Try.f7 false true false false) := by
  refine returnsInHanded_of_change (C := Try.checked) own started (by kernel_rfl) Try.func7
    (ChangeSpec.witness6 (enc := enc) (C := Try.checked) false ⟨#[], #[.agg #[.int .u64 0, .slice none 0 0, .int .i64 0, .int .i64 0], .slice none 0 0], []⟩ 8 (by kernel_rfl) (by kernel_rfl) (by kernel_rfl) (by kernel_rfl)) ?_
  intro W base args ds gs before hval0 hW hcnd _
  have hval : ∀ (j : Nat) t v, Try.f7.params[j]? = some t → args[j]? = some v → Value.okWide Try.prog W .any base t v := hval0
  have hW' := hW
  obtain ⟨p, q, hA0, hV, rfl, hfz, hnd⟩ := hW
  have hA : DataW.TrodAll enc Try.prog W 0 (fun _ => true) true Try.f7.params.toList args.toList ds p := hA0
  rw [Try.params7] at hA hval
  obtain ⟨v0, v1, d0, d1, p0, p1, rfl, rfl, rfl, t0, t1⟩ := trodAll_two hA
  obtain ⟨rfl, rfl⟩ := trodVars_none hV
  clear hA0 hval0
  simp only [List.append_nil] at hW'
  have l0 : ∀ x ∈ p0, x.block < W.heap.size := fun x hx => hW'.lt x (by simp [hx])
  obtain ⟨x0, A0, m0, c0, y0, z0, rfl, h0, s0, w0⟩ := arg_ask8 (hval 0 25 v0 rfl rfl) t0 l0
  have l1 : ∀ x ∈ p1, x.block < W.heap.size := fun x hx => hW'.lt x (by simp [hx])
  obtain ⟨A1, x1, c1, rfl, r1, b1⟩ := arg_sl (hval 1 28 v1 rfl rfl) t1 l1
  refine (walk x0 A0 c0 m0 y0 z0 A1 c1 x1 h0 w0 b1 W s0 r1).mono fun e W' ⟨he, hb⟩ => ?_
  subst he
  exact ⟨_, rfl, post_of_below (pa := p0 ++ p1) (pv := []) hW' (fun _ _ _ => (trodAll_cons_mk (shut_bool Try.underlying4 _) trodAll_mk0)) (fun sp hsp => trodAll_mk2 (stay_ask8 t0 hb l0 sp (fun x hx => hsp x (by simp [hx]))) (stays t1 hb l1 sp (fun x hx => hsp x (by simp [hx])))) (fun _ _ => rfl) (by simp)
    hb (ok_one (by kernel_rfl) rfl (okWide_bool_mk Try.underlying4 _))⟩

theorem over : Rows.reedsolomonUniqueRow.holds Try.pinned (OpenSpec.ofChange Rows.reedsolomonUniqueSpec) :=
  OpenClaim.holds_of_wide 7 Try.f7 rfl rfl rfl rfl rfl rfl rfl ⟨rfl, rfl, rfl, rfl, rfl⟩ rfl rfl rfl rfl rfl (by kernel_rfl) Try.func7 (by kernel_rfl)
    (of_decide_eq_true (by kernel_rfl)) (by unfold Func.isWrapper; first | (rw [if_pos (by decide +kernel)]; kernel_rfl) | (rw [if_neg (by decide +kernel)]; exact ⟨rfl, rfl⟩))
    (fun os started H enc _ => lifted os started H enc)

theorem proved : Rows.ReedsolomonUniqueSaid := over
end Go.Proofs.Ytelkmbhhaopafaa.reedsolomonUnique
