/- The points in the opposite order give the same polynomial and the error positions in the opposite order. No conditions. -/
import Derived.Test.YtelkmbhhaopafaaVOrd
import Derived.Test.YtelkmbhhaopafaaVOpen
import Derived.Test.YtelkmbhhaopafaaMB
namespace Go.Proofs.Ytelkmbhhaopafaa.reedsolomonOrder
set_option maxRecDepth 100000
open Go.ChangeShapes Go.WideShapes Go.ChangeAt Go.RowKit PolyMath FieldMath MatMath

set_option maxHeartbeats 4000000 in
theorem walk (P : Int) (B : Option Addr) (cb : Nat) (ps : List (Int × Int)) (deg wg : Int) (hP : Wd P) (wp : PWords ps) (w : World) (sp : Pt w B cb ps) : Calls Try.prog 6 #[.agg #[.int .u64 P, .slice B ps.length cb, .int .i64 deg, .int .i64 wg]] w fun e w' => e = .returned (.bool true) ∧ Below w.heap.size w w' := by
  have hp := fitP_ok P
  have hB0 : Below w.heap.size w (w.alloc (.cells #[.int .u64 P, .slice B ps.length cb, .int .i64 deg, .int .i64 wg] 25)) := (Below.refl _ w).alloc (Nat.le_refl _) _
  have hlt0 : w.heap.size < (w.alloc (.cells #[.int .u64 P, .slice B ps.length cb, .int .i64 deg, .int .i64 wg] 25)).heap.size := by simp
  have k2 : (w.alloc (.cells #[.int .u64 P, .slice B ps.length cb, .int .i64 deg, .int .i64 wg] 25)).cell? ⟨w.heap.size, 2, none⟩ = some (.int .i64 deg) := by go_simp
  have k3 : (w.alloc (.cells #[.int .u64 P, .slice B ps.length cb, .int .i64 deg, .int .i64 wg] 25)).cell? ⟨w.heap.size, 3, none⟩ = some (.int .i64 wg) := by go_simp
  have hfit := fit8_row P hP.1 hP.2 B cb ps wp deg wg _ (sp.next hB0)
  obtain ⟨i0, hi, hz0, hz1, hz2⟩ := info_parts info_pt
  generalize fitP P = p at *
  have hbd := hp.bd
  have hx := fitPs_x (p := p) (by omega) ps 9
  have hy := fitPs_y (p := p) (by omega) ps 9
  have hl := fitPs_len p ps 9
  generalize fitPs p ps 9 = qs at *
  go_enter Try.func6, Try.ntmps6
  go_wp2_with fail
  refine hfit.mono ?_
  rintro e w1 ⟨A1, c1, rfl, sq, b1⟩
  have d2 := (b1.cell (p := ⟨w.heap.size, 2, none⟩) hlt0).trans k2
  have d3 := (b1.cell (p := ⟨w.heap.size, 3, none⟩) hlt0).trans k3
  have hbl : w.heap.size < w1.heap.size := Nat.lt_of_lt_of_le hlt0 b1.size
  have hB1 := hB0.trans (b1.mono hB0.size)
  clear hfit b1 k2 k3 hlt0 hB0
  have wl : IntKind.i64.wrap ((qs.length : Int) - 1) = (qs.length : Int) - 1 := IntWalk.i64_in _ (by omega)
  go_wp2_with fail
  go_loopw [5, 6] (fun v i wr => ∃ k : Nat, k ≤ qs.length ∧ i = .int .i64 ((qs.length : Int) - 1 - k) ∧ wr.ownsRow w1.heap.size 49 2 v k (pcells (qs.reverse.take k)) ∧ Below w1.heap.size w1 wr) (fun _ i _ => (intOf i + 1).toNat)
  case atStart => exact ⟨0, Nat.zero_le _, by simp, World.ownsRow_nil _ _ _ _, Below.refl _ _⟩
  case round =>
    obtain ⟨k, hk, rfl, hrow, hB⟩ := hrel
    have hsz := hB.size
    by_cases hlt : k < qs.length
    · obtain ⟨m, hm⟩ : ∃ m : Nat, m = qs.length - 1 - k := ⟨_, rfl⟩
      rw [show ((qs.length : Int) - 1 - k) = (m : Int) from by omega]
      have hmlt : m < qs.length := by omega
      obtain ⟨b, off, x, y, hA, hbq, hxy, hcx, hcy⟩ := (sq.next hB).at_ hmlt
      subst hA
      have hNX := Lib.hid (rev_next hlt (by rw [← hm]; exact hxy))
      have hmN : (m : Int) < qs.length := by omega
      have hk1 := Lib.hid (show ((qs.length : Int) - 1 - ((k + 1 : Nat) : Int)) = (m : Int) - 1 by omega)
      have wm : IntKind.i64.wrap ((m : Int) - 1) = (m : Int) - 1 := IntWalk.i64_in _ (by omega)
      have hk9 : k ≤ 9 := by omega
      clear hxy hm
      go_wp2_with (at_builtin; refine wpList_append_own _ rfl _ _ 23 rfl w1.heap.size 49 i0 _ 2 16 Try.underlying23 hi hz0 hz1 hz2 rfl (by decide) _ _ _ rfl (hrow.alloc _) ⟨wr.heap.size, 0, none⟩ 1 1 [.int .u64 x, .int .u64 y] rfl rfl (World.news_of_block (cs := #[.int .u64 x, .int .u64 y]) (t := 49) (fr := (0, 0)) (World.alloc_heap_new wr _)) (by simp [Value.oneCell']) (by simp only [maxLen]; omega) (by omega) (by simp; omega) ?_; intro v' w2 hown' hgrow _)
      have hB2 : Below w1.heap.size w1 w2 := (hB.alloc hsz _).grown hgrow (by simp; omega) (fun k e => (hrow.lt k e).1)
      go_roundw
      case rel => exact ⟨k + 1, by omega, by rw [hk1.out], by rw [hNX.out, pcells_snoc]; exact hown', hB2⟩
      case measure => simp [intOf]
    · obtain rfl : k = qs.length := by omega
      rw [List.take_of_length_le (by simp)] at hrow
      obtain ⟨A2, c2, hv, sb⟩ := pown_form hrow
      rw [List.length_reverse] at hv
      subst hv
      have sa := sq.next hB
      have hBr := hB1.trans (hB.mono hB1.size)
      have d4 := (hB.cell (p := ⟨w.heap.size, 2, none⟩) hbl).trans d2
      have d5 := (hB.cell (p := ⟨w.heap.size, 3, none⟩) hbl).trans d3
      have hblr : w.heap.size < wr.heap.size := Nat.lt_of_lt_of_le hbl hsz
      have hdb := fun W h => decode_any p hp A2 c2 qs.reverse (by rw [px_rev]; exact el_rev hx) (by rw [py_rev]; exact el_rev hy) deg wg (.inl (by rw [List.length_reverse]; omega)) W h
      simp only [List.length_reverse] at hdb
      clear hrow hB sq
      rw [show (qs.length : Int) - 1 - (qs.length : Int) = -1 by omega]
      go_wp2_with fail
      refine (decode_any p hp A1 c1 qs hx hy deg wg (.inl (by omega)) wr sa).mono ?_
      rintro e w2 (⟨hv, rfl, b2⟩ | ⟨hv, hno, rfl, b2⟩ | ⟨hv, f, A3, g3, A4, g4, hd, rfl, s3, i3, b2⟩)
      · have hB2 := hBr.trans (b2.mono hBr.size)
        have e4 := (b2.cell (p := ⟨w.heap.size, 2, none⟩) hblr).trans d4
        have e5 := (b2.cell (p := ⟨w.heap.size, 3, none⟩) hblr).trans d5
        have hr2 := hdb w2 (sb.next b2)
        clear hdb d4 d5 sb sa
        go_wp2_with fail
        refine hr2.mono ?_
        clear hr2
        rintro e w3 (⟨hv', rfl, b3⟩ | ⟨hv', hno', rfl, b3⟩ | ⟨hv', g, A5, g5, A6, g6, hd', rfl, s5, i5, b3⟩)
        · have hB3 := hB2.trans (b3.mono hB2.size)
          go_wp2_with fail
          refine (equal_is none none [] [] 0 0 _ (Sl.nothing _) (Sl.nothing _) (by decide) rfl).mono ?_
          rintro e w5 ⟨rfl, b5⟩
          have hB5 := hB3.trans (b5.mono hB3.size)
          clear b5
          go_wp2_with fail
          go_loopw [13] (fun i wr => i = .int .i64 0 ∧ wr = w5) (fun _ _ => 0)
          case atStart => exact ⟨rfl, rfl⟩
          case round =>
            obtain ⟨rfl, rfl⟩ := hrel
            go_wp2_with fail
            refine (awake8_any _).mono ?_
            rintro e w6 ⟨rfl, bA⟩
            have hBZ := hB5.trans (bA.mono hB5.size)
            clear bA
            go_wp2
            go_ret
            exact ⟨rfl, hBZ⟩
        · exact absurd (valid_rev.1 hv') hv
        · exact absurd (valid_rev.1 hv') hv
      · have hB2 := hBr.trans (b2.mono hBr.size)
        have e4 := (b2.cell (p := ⟨w.heap.size, 2, none⟩) hblr).trans d4
        have e5 := (b2.cell (p := ⟨w.heap.size, 3, none⟩) hblr).trans d5
        have hr2 := hdb w2 (sb.next b2)
        clear hdb d4 d5 sb sa
        go_wp2_with fail
        refine hr2.mono ?_
        clear hr2
        rintro e w3 (⟨hv', rfl, b3⟩ | ⟨hv', hno', rfl, b3⟩ | ⟨hv', g, A5, g5, A6, g6, hd', rfl, s5, i5, b3⟩)
        · exact absurd (valid_rev.2 hv) hv'
        · have hB3 := hB2.trans (b3.mono hB2.size)
          go_wp2_with fail
          refine (equal_is none none [] [] 0 0 _ (Sl.nothing _) (Sl.nothing _) (by decide) rfl).mono ?_
          rintro e w5 ⟨rfl, b5⟩
          have hB5 := hB3.trans (b5.mono hB3.size)
          clear b5
          go_wp2_with fail
          go_loopw [13] (fun i wr => i = .int .i64 0 ∧ wr = w5) (fun _ _ => 0)
          case atStart => exact ⟨rfl, rfl⟩
          case round =>
            obtain ⟨rfl, rfl⟩ := hrel
            go_wp2_with fail
            refine (awake8_any _).mono ?_
            rintro e w6 ⟨rfl, bA⟩
            have hBZ := hB5.trans (bA.mono hB5.size)
            clear bA
            go_wp2
            go_ret
            exact ⟨rfl, hBZ⟩
        · exact absurd (dec_rev.1 hd') (hno g)
      · have hB2 := hBr.trans (b2.mono hBr.size)
        have e4 := (b2.cell (p := ⟨w.heap.size, 2, none⟩) hblr).trans d4
        have e5 := (b2.cell (p := ⟨w.heap.size, 3, none⟩) hblr).trans d5
        have hr2 := hdb w2 (sb.next b2)
        clear hdb d4 d5 sb sa
        go_wp2_with fail
        refine hr2.mono ?_
        clear hr2
        rintro e w3 (⟨hv', rfl, b3⟩ | ⟨hv', hno', rfl, b3⟩ | ⟨hv', g, A5, g5, A6, g6, hd', rfl, s5, i5, b3⟩)
        · exact absurd (valid_rev.2 hv) hv'
        · exact absurd (dec_rev.2 hd) (hno' f)
        · have hvE := hv.1
          unfold Enough at hvE
          have he : g = f := Dec.unique hp.good hv.2 hx (by omega) (dec_rev.1 hd') hd
          subst he
          have hle := hd.le
          have hB3 := hB2.trans (b3.mono hB2.size)
          have hel := errI_rev_len p g qs
          have hek := errK_len p g qs qs.length
          rw [errK_all] at hek
          have s4 := s3.next b3
          have i4 := i3.next b3
          have HL : g.length ≤ 1000 := by omega
          have hAT : Hid (∀ (i : Nat) (a b : Int), (errI p g qs)[i]? = some a → (errI p g qs.reverse)[(errI p g qs).length - 1 - i]? = some b → a = (qs.length : Int) - 1 - b) := Lib.hid fun i a b => errI_rev_at
          have hLE : Hid (∀ (i : Nat) (b : Int), (errI p g qs.reverse)[i]? = some b → 0 ≤ b ∧ b < qs.length) := Lib.hid fun i b h => by have := errI_at_le h; rwa [List.length_reverse] at this
          obtain ⟨LE, hLEn⟩ : ∃ LE, LE = (errI p g qs).length := ⟨_, rfl⟩
          rw [hel, ← hLEn]
          rw [← hLEn] at hek
          have HLE := Lib.hid hLEn
          have HLR : Hid (LE = (errI p g qs.reverse).length) := Lib.hid (hLEn.trans hel.symm)
          clear hd hd' hv hv' s3 i3 hvE hel hLEn
          go_wp2_with fail
          refine (equal_is A3 A5 g g g3 g5 _ s4 s5 HL rfl).mono ?_
          rintro e w5 ⟨rfl, b5⟩
          have hB5 := hB3.trans (b5.mono hB3.size)
          replace i4 := i4.next b5
          replace i5 := i5.next b5
          clear b5 s4 s5 b3
          generalize errI p g qs = l at *
          generalize errI p g qs.reverse = r at *
          go_wp2_with fail
          go_loopw [13] (fun v W => ∃ (i m : Nat), i ≤ LE ∧ v = .int .i64 i ∧ W = w5.drewN m) (fun v _ => LE - (intOf v).toNat)
          case atStart => exact ⟨0, 0, Nat.zero_le _, rfl, rfl⟩
          case round =>
            obtain ⟨i, m, hi, rfl, rfl⟩ := hrel
            by_cases hil : i < LE
            · obtain ⟨b7, o7, a, hA7, hb7, ha, hca⟩ := i4.at_ (k := i) (by rw [← HLE.out]; exact hil)
              obtain ⟨b8, o8, b, hA8, hb8, hb, hcb⟩ := i5.at_ (k := LE - 1 - i) (by rw [← HLR.out]; omega)
              subst hA7 hA8
              have hab := hAT.out i a b ha (by rw [← HLE.out]; exact hb)
              have hbb := hLE.out _ b hb
              have cA : ∀ t, (w5.drewN (m + t)).cell? ⟨b7, o7 + i, none⟩ = some (.int .i64 a) := fun t => ((below_drewN (Below.refl _ w5) (m + t)).cell (p := ⟨b7, o7 + i, none⟩) hb7).trans hca
              have cB : ∀ t, (w5.drewN (m + t)).cell? ⟨b8, o8 + (LE - 1 - i), none⟩ = some (.int .i64 b) := fun t => ((below_drewN (Below.refl _ w5) (m + t)).cell (p := ⟨b8, o8 + (LE - 1 - i), none⟩) hb8).trans hcb
              have hiI : (i : Int) < LE := by omega
              have wa : IntKind.i64.wrap ((LE : Int) - 1) = (LE : Int) - 1 := IntWalk.i64_in _ (by omega)
              have wb : IntKind.i64.wrap ((LE : Int) - 1 - i) = (LE : Int) - 1 - i := IntWalk.i64_in _ (by omega)
              have wc : IntKind.i64.wrap ((qs.length : Int) - 1 - b) = (qs.length : Int) - 1 - b := IntWalk.i64_in _ (by omega)
              have h0 : (0 : Int) ≤ (LE : Int) - 1 - i := by omega
              have h1 : (LE : Int) - 1 - i < LE := by omega
              have h2 : ((LE : Int) - 1 - i).toNat = LE - 1 - i := by omega
              have hne : (a != (qs.length : Int) - 1 - b) = false := by rw [hab]; simp
              have HAB := Lib.hid hab
              clear ha hb hab hca hcb
              go_wp2
              go_quiet (fail)
              go_wp2
              go_roundw
              case rel => exact ⟨i + 1, _, by omega, by simp, by first | rfl | (simp; rfl)⟩
              case measure => simp [intOf]; omega
            · obtain rfl : i = LE := by omega
              have hB7 := below_drewN hB5 m
              go_wp2_with fail
              refine (awake8_any _).mono ?_
              rintro e w6 ⟨rfl, bA⟩
              have hBZ := hB7.trans (bA.mono hB7.size)
              clear bA
              go_wp2
              go_ret
              exact ⟨rfl, hBZ⟩

theorem lifted (os : Os) (started : os.Started) (H : Type) (enc : TypeId × Value → H) :
    ReturnsInHanded {} Try.checked os 6 .any (Rows.reedsolomonOrderSpec.pre6 enc Try.prog Try.f6 Rows.reedsolomonOrderRow.domain false) (Rows.reedsolomonOrderSpec.post enc Try.prog Try.f6 false true false false) := by
  refine returnsInHanded_of_change (C := Try.checked) own started (by kernel_rfl) Try.func6
    (ChangeSpec.witness6 (enc := enc) (C := Try.checked) false ⟨#[], #[.agg #[.int .u64 0, .slice none 0 0, .int .i64 0, .int .i64 0]], []⟩ 8 (by kernel_rfl) (by kernel_rfl) (by kernel_rfl) (by kernel_rfl)) ?_
  intro W base args ds gs before hval0 hW hcnd _
  have hval : ∀ (j : Nat) t v, Try.f6.params[j]? = some t → args[j]? = some v → Value.okWide Try.prog W .any base t v := hval0
  have hW' := hW
  obtain ⟨p, q, hA0, hV, rfl, hfz, hnd⟩ := hW
  have hA : DataW.TrodAll enc Try.prog W 0 (fun _ => true) true Try.f6.params.toList args.toList ds p := hA0
  rw [Try.params6] at hA hval
  obtain ⟨v0, d0, rfl, rfl, t0⟩ := trodAll_one hA
  obtain ⟨rfl, rfl⟩ := trodVars_none hV
  clear hA0 hval0
  simp only [List.append_nil] at hW'
  have l0 : ∀ x ∈ p, x.block < W.heap.size := fun x hx => hW'.lt x (by simp [hx])
  obtain ⟨x0, A0, m0, c0, y0, z0, rfl, h0, s0, w0⟩ := arg_ask8 (hval 0 25 v0 rfl rfl) t0 l0
  refine (walk x0 A0 c0 m0 y0 z0 h0 w0 W s0).mono fun e W' ⟨he, hb⟩ => ?_
  subst he
  exact ⟨_, rfl, post_of_below (pa := p) (pv := []) hW' (fun _ _ _ => (trodAll_cons_mk (shut_bool Try.underlying4 _) trodAll_mk0)) (fun sp hsp => trodAll_mk1 (stay_ask8 t0 hb l0 sp (fun x hx => hsp x (by simp [hx])))) (fun _ _ => rfl) (by simp)
    hb (ok_one (by kernel_rfl) rfl (okWide_bool_mk Try.underlying4 _))⟩

theorem over : Rows.reedsolomonOrderRow.holds Try.pinned (OpenSpec.ofChange Rows.reedsolomonOrderSpec) :=
  OpenClaim.holds_of_wide 6 Try.f6 rfl rfl rfl rfl rfl rfl rfl ⟨rfl, rfl, rfl, rfl, rfl⟩ rfl rfl rfl rfl rfl (by kernel_rfl) Try.func6 (by kernel_rfl)
    (of_decide_eq_true (by kernel_rfl)) (by unfold Func.isWrapper; first | (rw [if_pos (by decide +kernel)]; kernel_rfl) | (rw [if_neg (by decide +kernel)]; exact ⟨rfl, rfl⟩))
    (fun os started H enc _ => lifted os started H enc)

theorem proved : Rows.ReedsolomonOrderSaid := over
end Go.Proofs.Ytelkmbhhaopafaa.reedsolomonOrder
