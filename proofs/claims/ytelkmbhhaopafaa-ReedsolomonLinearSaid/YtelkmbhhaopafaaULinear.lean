/- Adding the values of a polynomial of degree at most deg to all points adds it to the result and leaves the error positions unchanged. No conditions. -/
import Derived.Test.YtelkmbhhaopafaaVOrd
import Derived.Test.YtelkmbhhaopafaaVOpen
import Derived.Test.YtelkmbhhaopafaaMB
namespace Go.Proofs.Ytelkmbhhaopafaa.reedsolomonLinear
set_option maxRecDepth 100000
open Go.ChangeShapes Go.WideShapes Go.ChangeAt Go.RowKit PolyMath FieldMath MatMath

set_option maxHeartbeats 4000000 in
theorem walk (P : Int) (B : Option Addr) (cb : Nat) (ps : List (Int × Int)) (deg wg : Int) (Af : Option Addr) (cf : Nat) (f : List Int) (hP : Wd P) (wp : PWords ps) (wf : Words f) (w : World) (sp : Pt w B cb ps) (sf : Sl w Af cf f) : Calls Try.prog 9 #[.agg #[.int .u64 P, .slice B ps.length cb, .int .i64 deg, .int .i64 wg], .slice Af f.length cf] w fun e w' => e = .returned (.bool true) ∧ Below w.heap.size w w' := by
  have hp := fitP_ok P
  have hB0 : Below w.heap.size w (w.alloc (.cells #[.int .u64 P, .slice B ps.length cb, .int .i64 deg, .int .i64 wg] 25)) := (Below.refl _ w).alloc (Nat.le_refl _) _
  have hlt0 : w.heap.size < (w.alloc (.cells #[.int .u64 P, .slice B ps.length cb, .int .i64 deg, .int .i64 wg] 25)).heap.size := by simp
  have k2 : (w.alloc (.cells #[.int .u64 P, .slice B ps.length cb, .int .i64 deg, .int .i64 wg] 25)).cell? ⟨w.heap.size, 2, none⟩ = some (.int .i64 deg) := by go_simp
  have k3 : (w.alloc (.cells #[.int .u64 P, .slice B ps.length cb, .int .i64 deg, .int .i64 wg] 25)).cell? ⟨w.heap.size, 3, none⟩ = some (.int .i64 wg) := by go_simp
  have hfit := fit8_row P hP.1 hP.2 B cb ps wp deg wg _ (sp.next hB0)
  obtain ⟨i0, hi, hz0, hz1, hz2⟩ := info_parts info_pt
  generalize fitP P = p at *
  have hbd := hp.bd
  have hx := fitPs_x (p := p) (by omega) ps 9
  have hy := fitPs_y (p := p) (by omega) ps 9
  have hl := fitPs_len p ps 9
  generalize fitPs p ps 9 = qs at *
  go_enter Try.func9, Try.ntmps9
  go_wp2_with fail
  refine hfit.mono ?_
  rintro e w1 ⟨A1, c1, rfl, sq, b1⟩
  have d2 := (b1.cell (p := ⟨w.heap.size, 2, none⟩) hlt0).trans k2
  have d3 := (b1.cell (p := ⟨w.heap.size, 3, none⟩) hlt0).trans k3
  have hbl : w.heap.size < w1.heap.size := Nat.lt_of_lt_of_le hlt0 b1.size
  have hB1 := hB0.trans (b1.mono hB0.size)
  clear hfit b1 k2 k3 hlt0 hB0
  have sf1 := sf.next hB1
  have hwd := wdN_el (p := p) (by omega) f 5
  have hwl := wdN_len p f 5
  have hww := words8_row p hp 5 (by omega) Af cf f wf w1 sf1
  generalize wdN p f 5 = G at *
  go_wp2_with fail
  refine hww.mono ?_
  rintro e w2 ⟨A2, g2, rfl, s2, b2⟩
  have hB2 := hB1.trans (b2.mono hB1.size)
  have q2 := sq.next b2
  have e2 := (b2.cell (p := ⟨w.heap.size, 2, none⟩) hbl).trans d2
  have e3 := (b2.cell (p := ⟨w.heap.size, 3, none⟩) hbl).trans d3
  have hbl2 : w.heap.size < w2.heap.size := Nat.lt_of_lt_of_le hbl b2.size
  clear hww sf1 sq b2 d2 d3 hbl hB1
  have hdg := rDegree_any A2 g2 G w2.drew s2.drew (by omega)
  have hdr : Below w2.heap.size w2 w2.drew := (Below.refl _ w2).drew
  have htn := tn_le G
  obtain ⟨T, hT⟩ : ∃ T : Int, T = (tn G : Int) - 1 := ⟨_, rfl⟩
  rw [← hT] at hdg
  have HT := Lib.hid hT
  clear hT
  go_wp2_with fail
  go_region_held3 (fun w' => w'.cell? ⟨w.heap.size, 2, none⟩ = some (.int .i64 deg))
    (first | assumption | exact e2)
    (first
      | (go_at_call 23; (with_reducible refine hdg.mono ?_); rintro e w3 ⟨rfl, b3⟩; have hb3 := hdr.trans (b3.mono hdr.size); have f2 := (hb3.cell (p := ⟨w.heap.size, 2, none⟩) hbl2).trans e2; clear hdg b3))
  all_goals
    have f3 := (hb3.cell (p := ⟨w.heap.size, 3, none⟩) hbl2).trans e3
    have hB3 := hB2.trans (hb3.mono hB2.size)
    have s3 := s2.next hb3
    have q3 := q2.next hb3
    have hbl3 : w.heap.size < w3.heap.size := Nat.lt_of_lt_of_le hbl2 hb3.size
    clear s2 q2 hb3 hbl2 hB2 e2 e3
    by_cases hgt : deg < T
    · go_wp2_with fail
      refine (awake8_any _).mono ?_
      rintro e w4 ⟨rfl, bA⟩
      have hBZ := hB3.trans (bA.mono hB3.size)
      clear bA
      go_wp2
      go_ret
      exact ⟨rfl, hBZ⟩
    · have hle : Hid (0 ≤ deg → tn G ≤ deg.toNat + 1) := Lib.hid fun h => by have := HT.out; omega
      have hng : ¬ deg < T := hgt
      clear hgt
      go_wp2_with fail
      go_loopw [8, 9] (fun v i wr => ∃ k : Nat, k ≤ qs.length ∧ i = .int .i64 k ∧ wr.ownsRow w3.heap.size 49 2 v k (pcells ((moved p G qs).take k)) ∧ Below w3.heap.size w3 wr) (fun _ i _ => qs.length - (intOf i).toNat)
      case atStart => exact ⟨0, Nat.zero_le _, rfl, World.ownsRow_nil _ _ _ _, Below.refl _ _⟩
      case round =>
        obtain ⟨k, hk, rfl, hrow, hB⟩ := hrel
        have hsz := hB.size
        by_cases hlt : k < qs.length
        · obtain ⟨b, off, x, y, hA, hbw, hxy, hcx0, hcy0⟩ := q3.at_ hlt
          subst hA
          have hcx := (hB.cell (p := ⟨b, off + k * 2, none⟩) hbw).trans hcx0
          have hcy := (hB.cell (p := ⟨b, off + k * 2 + 1, none⟩) hbw).trans hcy0
          have hbl4 : b < wr.heap.size := Nat.lt_of_lt_of_le hbw hsz
          have hxb : 0 ≤ x ∧ x < p := by have := hx.co (p := p) (by omega) k; rwa [px_at hxy] at this
          have hyb : 0 ≤ y ∧ y < p := by have := hy.co (p := p) (by omega) k; rwa [py_at hxy] at this
          have hNX := Lib.hid (moved_next (p := p) (g := G) hxy)
          have hev := fun W (h : Sl W A2 g2 G) => rEval_any p x hp hxb A2 g2 G hwd (by omega) W h
          have hvb := pev_bd (p := p) (by omega) G x
          have hadd := fun W => rAdd_any p y (pev p G x) hp hyb.1 hyb.2 hvb.1 hvb.2 W
          have hkN : (k : Int) < qs.length := by omega
          have s4 := s3.next hB
          have hk9 : k ≤ 9 := by omega
          generalize pev p G x = V at *
          obtain ⟨Z, hZ⟩ : ∃ Z, Z = fadd p y V := ⟨_, rfl⟩
          rw [← hZ] at hadd hNX
          obtain ⟨Av, cv, rfl⟩ := row_form22 hrow
          have hB1 := (bnew hB (.cells #[.int .u64 x, .int .u64 Z] 49) (Nat.le_refl _)).drew
          have hO1 := Lib.hid (hrow.alloc (.cells #[.int .u64 x, .int .u64 Z] 49))
          have dx := ((bnew (Below.refl _ wr) (.cells #[.int .u64 x, .int .u64 Z] 49) (Nat.le_refl _)).drew.cell (p := ⟨b, off + k * 2, none⟩) hbl4).trans hcx
          have dy := ((bnew (Below.refl _ wr) (.cells #[.int .u64 x, .int .u64 Z] 49) (Nat.le_refl _)).drew.cell (p := ⟨b, off + k * 2 + 1, none⟩) hbl4).trans hcy
          clear hxy hrow hZ
          go_wp2_with fail
          go_region_held3 (fun w' => w'.cell? ⟨b, off + k * 2, none⟩ = some (.int .u64 x) ∧ w'.cell? ⟨b, off + k * 2 + 1, none⟩ = some (.int .u64 y))
            (first | (refine ⟨?_, ?_⟩ <;> assumption) | exact ⟨hcx, hcy⟩ | exact ⟨dx, dy⟩)
            (first
              | (go_at_call 25; (with_reducible refine (hev _ s4.drew).mono ?_); rintro e w' ⟨rfl, rfl⟩)
              | (go_at_call 24; (with_reducible refine (hadd _).mono ?_); rintro e w' ⟨rfl, rfl⟩)
              | (refine step_append_own _ (by rfl) _ _ _ (by rfl) w3.heap.size 49 i0 _ 2 16 Try.underlying23 hi hz0 hz1 hz2 rfl (by omega) _ k _ (by rfl) hO1.out ⟨wr.heap.size, 0, none⟩ 1 1 [.int .u64 x, .int .u64 Z] (by rfl) (by rfl) (World.news_of_block (cs := #[.int .u64 x, .int .u64 Z]) (t := 49) (fr := (0, 0)) (World.alloc_heap_new wr _)) (by simp [Value.oneCell']) (by simp only [maxLen]; omega) (by omega) (by first | omega | (simp; done) | (simp; omega)) ?_; intro v7 w7 hown7 hgrow7; have hB7 : Below w3.heap.size w3 w7 := hB1.grown hgrow7 (by first | omega | (simp; done) | (simp; omega)) (fun x e => (World.ownsRow.lt hO1.out x e).1); have cx7 := (hB7.cell (p := ⟨b, off + k * 2, none⟩) hbw).trans hcx0; have cy7 := (hB7.cell (p := ⟨b, off + k * 2 + 1, none⟩) hbw).trans hcy0; have HO7 := Lib.hid hown7; obtain ⟨A7, c7, rfl⟩ := row_form22 hown7; clear hown7 hgrow7))
          all_goals
            go_wp2
            go_roundw
            case rel => exact ⟨k + 1, by omega, by simp, by rw [hNX.out, pcells_snoc]; exact HO7.out, hB7⟩
            case measure => simp [intOf]; omega
        · obtain rfl : k = qs.length := by omega
          rw [List.take_of_length_le (by rw [moved_len]; exact Nat.le_refl _)] at hrow
          obtain ⟨A4, c4, hv, sb⟩ := pown_form hrow
          rw [moved_len] at hv
          subst hv
          have sa := q3.next hB
          have hBr := hB3.trans (hB.mono hB3.size)
          have d4 := (hB.cell (p := ⟨w.heap.size, 2, none⟩) hbl3).trans f2
          have d5 := (hB.cell (p := ⟨w.heap.size, 3, none⟩) hbl3).trans f3
          have hblr : w.heap.size < wr.heap.size := Nat.lt_of_lt_of_le hbl3 hsz
          have s4 := s3.next hB
          have hdb := fun W h => decode_any p hp A4 c4 (moved p G qs) (by rw [moved_px]; exact hx) (moved_el (by omega)) deg wg (.inl (by rw [moved_len]; omega)) W h
          simp only [moved_len] at hdb
          clear hrow hB q3 s3 f2 f3
          go_wp2_with fail
          refine (decode_any p hp A1 c1 qs hx hy deg wg (.inl (by omega)) wr sa).mono ?_
          rintro e w5 (⟨hv, rfl, b5⟩ | ⟨hv, hno, rfl, b5⟩ | ⟨hv, f, A5, g5, A6, g6, hd, rfl, s5, i5, b5⟩)
          · have hB5 := hBr.trans (b5.mono hBr.size)
            have e4 := (b5.cell (p := ⟨w.heap.size, 2, none⟩) hblr).trans d4
            have e5 := (b5.cell (p := ⟨w.heap.size, 3, none⟩) hblr).trans d5
            have hr2 := hdb w5 (sb.next b5)
            have s6 := s4.next b5
            clear hdb d4 d5 sb sa s4
            go_wp2_with fail
            refine hr2.mono ?_
            clear hr2
            rintro e w6 (⟨hv', rfl, b6⟩ | ⟨hv', hno', rfl, b6⟩ | ⟨hv', g, A7, g7, A8, g8, hd', rfl, s7, i7, b6⟩)
            · have hB6 := hB5.trans (b6.mono hB5.size)
              go_wp2_with fail
              refine (places_is none none [] 0 0 _ (Si.nothing _) (Si.nothing _) (by decide)).mono ?_
              rintro e w7 ⟨rfl, b7⟩
              have hB7 := hB6.trans (b7.mono hB6.size)
              clear b7
              go_wp2_with fail
              refine (awake8_any _).mono ?_
              rintro e w8 ⟨rfl, bA⟩
              have hBZ := hB7.trans (bA.mono hB7.size)
              clear bA
              go_wp2
              go_ret
              exact ⟨rfl, hBZ⟩
            · exact absurd (valid_moved.1 hv') hv
            · exact absurd (valid_moved.1 hv') hv
          · have hB5 := hBr.trans (b5.mono hBr.size)
            have e4 := (b5.cell (p := ⟨w.heap.size, 2, none⟩) hblr).trans d4
            have e5 := (b5.cell (p := ⟨w.heap.size, 3, none⟩) hblr).trans d5
            have hr2 := hdb w5 (sb.next b5)
            have s6 := s4.next b5
            clear hdb d4 d5 sb sa s4
            go_wp2_with fail
            refine hr2.mono ?_
            clear hr2
            rintro e w6 (⟨hv', rfl, b6⟩ | ⟨hv', hno', rfl, b6⟩ | ⟨hv', g, A7, g7, A8, g8, hd', rfl, s7, i7, b6⟩)
            · exact absurd (valid_moved.2 hv) hv'
            · have hB6 := hB5.trans (b6.mono hB5.size)
              go_wp2_with fail
              refine (places_is none none [] 0 0 _ (Si.nothing _) (Si.nothing _) (by decide)).mono ?_
              rintro e w7 ⟨rfl, b7⟩
              have hB7 := hB6.trans (b7.mono hB6.size)
              clear b7
              go_wp2_with fail
              refine (awake8_any _).mono ?_
              rintro e w8 ⟨rfl, bA⟩
              have hBZ := hB7.trans (bA.mono hB7.size)
              clear bA
              go_wp2
              go_ret
              exact ⟨rfl, hBZ⟩
            · exact absurd (dec_back (p := p) (by omega) hy (hle.out hv.1.1) hd') (hno _)
          · have hB5 := hBr.trans (b5.mono hBr.size)
            have e4 := (b5.cell (p := ⟨w.heap.size, 2, none⟩) hblr).trans d4
            have e5 := (b5.cell (p := ⟨w.heap.size, 3, none⟩) hblr).trans d5
            have hr2 := hdb w5 (sb.next b5)
            have s6 := s4.next b5
            clear hdb d4 d5 sb sa s4
            go_wp2_with fail
            refine hr2.mono ?_
            clear hr2
            rintro e w6 (⟨hv', rfl, b6⟩ | ⟨hv', hno', rfl, b6⟩ | ⟨hv', g, A7, g7, A8, g8, hd', rfl, s7, i7, b6⟩)
            · exact absurd (valid_moved.2 hv) hv'
            · exact absurd (dec_moved (p := p) (by omega) hy (hle.out hv.1.1) hd) (hno' _)
            · have hvE := hv.1
              unfold Enough at hvE
              have hgd := hle.out hvE.1
              have hm := dec_moved (p := p) (by omega) hy hgd hd
              have he : g = padd p f G := Dec.unique hp.good (by rw [moved_px]; exact hv.2) (by rw [moved_px]; exact hx) (by rw [moved_len]; omega) hd' hm
              subst he
              have hle1 := hd.le
              have hle2 := hd'.le
              have htr := hd'.tr
              have hB6 := hB5.trans (b6.mono hB5.size)
              have hee : errI p (padd p f G) (moved p G qs) = errI p f qs := by unfold errI; rw [errs_moved (by omega) hy]
              have hek := errK_len p f qs qs.length
              rw [errK_all] at hek
              rw [hee] at i7 ⊢
              have s8 := s5.next b6
              have i8 := i5.next b6
              have s9 := s6.next b6
              have hfe := hd.el
              have HL1 : f.length ≤ 400 := by omega
              have HL2 : (padd p f G).length ≤ 1000 := by omega
              have had := fun A c B c' W h1 h2 => rAddP_row p hp A B c c' f G hfe hwd HL1 (by omega) W h1 h2
              have hsa := fun A c B c' W h1 h2 => same8_any A B (padd p f G) (padd p f G) c c' W h1 h2 HL2 HL2
              simp only [decide_true] at hsa
              clear hd hd' hv hv' s5 i5 hvE hm hee htr
              generalize padd p f G = Q at *
              generalize errI p f qs = l at *
              go_wp2_with fail
              refine (places_is A6 A8 l g6 g8 _ i8 i7 (by omega)).mono ?_
              rintro e w7 ⟨rfl, b7⟩
              have hB7 := hB6.trans (b7.mono hB6.size)
              replace s8 := s8.next b7
              replace s9 := s9.next b7
              replace s7 := s7.next b7
              clear b7 i7 i8
              go_wp2_with fail
              refine (awake8_any _).mono ?_
              rintro e w8 ⟨rfl, bA⟩
              have hBZ := hB7.trans (bA.mono hB7.size)
              replace s8 := s8.next bA
              replace s9 := s9.next bA
              replace s7 := s7.next bA
              clear bA
              go_wp2_with fail
              refine (had A5 g5 A2 g2 _ s8 s9).mono ?_
              rintro e w9 ⟨A9, c9, rfl, sA, b9⟩
              replace s7 := s7.next b9
              replace hBZ := hBZ.trans (b9.mono hBZ.size)
              clear b9 s8 s9
              go_wp2_with fail
              refine (hsa A9 c9 A7 g7 _ sA s7).mono ?_
              rintro e w10 ⟨rfl, b10⟩
              replace hBZ := hBZ.trans (b10.mono hBZ.size)
              clear b10
              go_wp2
              go_ret
              exact ⟨rfl, hBZ⟩

theorem lifted (os : Os) (started : os.Started) (H : Type) (enc : TypeId × Value → H) :
    ReturnsInHanded {} Try.checked os 9 .any (Rows.reedsolomonLinearSpec.pre6 enc Try.prog Try.f9 Rows.reedsolomonLinearRow.domain false) (Rows.reedsolomonLinearSpec.post enc Try.prog Try.f9 false true false false) := by
  refine returnsInHanded_of_change (C := Try.checked) own started (by kernel_rfl) Try.func9
    (ChangeSpec.witness6 (enc := enc) (C := Try.checked) false ⟨#[], #[.agg #[.int .u64 0, .slice none 0 0, .int .i64 0, .int .i64 0], .slice none 0 0], []⟩ 8 (by kernel_rfl) (by kernel_rfl) (by kernel_rfl) (by kernel_rfl)) ?_
  intro W base args ds gs before hval0 hW hcnd _
  have hval : ∀ (j : Nat) t v, Try.f9.params[j]? = some t → args[j]? = some v → Value.okWide Try.prog W .any base t v := hval0
  have hW' := hW
  obtain ⟨p, q, hA0, hV, rfl, hfz, hnd⟩ := hW
  have hA : DataW.TrodAll enc Try.prog W 0 (fun _ => true) true Try.f9.params.toList args.toList ds p := hA0
  rw [Try.params9] at hA hval
  obtain ⟨v0, v1, d0, d1, p0, p1, rfl, rfl, rfl, t0, t1⟩ := trodAll_two hA
  obtain ⟨rfl, rfl⟩ := trodVars_none hV
  clear hA0 hval0
  simp only [List.append_nil] at hW'
  have l0 : ∀ x ∈ p0, x.block < W.heap.size := fun x hx => hW'.lt x (by simp [hx])
  obtain ⟨x0, A0, m0, c0, y0, z0, rfl, h0, s0, w0⟩ := arg_ask8 (hval 0 25 v0 rfl rfl) t0 l0
  have l1 : ∀ x ∈ p1, x.block < W.heap.size := fun x hx => hW'.lt x (by simp [hx])
  obtain ⟨A1, x1, c1, rfl, r1, b1⟩ := arg_sl (hval 1 28 v1 rfl rfl) t1 l1
  refine (walk x0 A0 c0 m0 y0 z0 A1 c1 x1 h0 w0 b1 W s0 r1).mono fun e W' ⟨he, hb⟩ => ?_
  subst he
  exact ⟨_, rfl, post_of_below (pa := p0 ++ p1) (pv := []) hW' (fun _ _ _ => (trodAll_cons_mk (shut_bool Try.underlying4 _) trodAll_mk0)) (fun sp hsp => trodAll_mk2 (stay_ask8 t0 hb l0 sp (fun x hx => hsp x (by simp [hx]))) (stays t1 hb l1 sp (fun x hx => hsp x (by simp [hx])))) (fun _ _ => rfl) (by simp)
    hb (ok_one (by kernel_rfl) rfl (okWide_bool_mk Try.underlying4 _))⟩

theorem over : Rows.reedsolomonLinearRow.holds Try.pinned (OpenSpec.ofChange Rows.reedsolomonLinearSpec) :=
  OpenClaim.holds_of_wide 9 Try.f9 rfl rfl rfl rfl rfl rfl rfl ⟨rfl, rfl, rfl, rfl, rfl⟩ rfl rfl rfl rfl rfl (by kernel_rfl) Try.func9 (by kernel_rfl)
    (of_decide_eq_true (by kernel_rfl)) (by unfold Func.isWrapper; first | (rw [if_pos (by decide +kernel)]; kernel_rfl) | (rw [if_neg (by decide +kernel)]; exact ⟨rfl, rfl⟩))
    (fun os started H enc _ => lifted os started H enc)

theorem proved : Rows.ReedsolomonLinearSaid := over
end Go.Proofs.Ytelkmbhhaopafaa.reedsolomonLinear
