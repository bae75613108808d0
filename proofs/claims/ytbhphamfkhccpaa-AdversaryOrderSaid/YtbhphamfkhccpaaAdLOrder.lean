/- The deviations of distinct parties commute. No conditions. -/
import Derived.Test.YtbhphamfkhccpaaAdSub
import Derived.Test.YtbhphamfkhccpaaAdOpn
import Derived.Test.YtbhphamfkhccpaaAdWkO
import Derived.Test.YtbhphamfkhccpaaFrame
namespace Go.Proofs.Ytbhphamfkhccpaa.adversaryOrder
set_option maxRecDepth 100000
open Go.ChangeShapes Go.WideShapes Go.ChangeAt Go.RowKit PolyMath FieldMath PartyMath

set_option maxHeartbeats 8000000 in
theorem walk (P N T : Int) (Ac Ad At : Option Addr) (cc cd ct : Nat) (co : List Int) (ds : List Dv) (ts : List (List Int)) (r : Int) (Am : Option Addr) (cm : Nat) (M : List (List (List Int))) (Aa : Option Addr) (ca : Nat) (all : List (List Int)) (x : Nat) (wP : Wd P) (_hwr : Wi r) (hF : FitA N T co ds ts M all) (hk : ∀ d ∈ ds, Wd d.k) (hw : (∀ R ∈ M, ∀ l ∈ R, Words l) ∧ ∀ l ∈ all, Words l) (_wx : x ≤ 255) (w : World) (hL : LieA w Ac Ad At cc cd ct co ds ts Am cm M Aa ca all) :
    Calls Try.prog 9 #[.agg #[.int .u64 P, .int .i64 N, .int .i64 T, .slice Ac co.length cc, .slice Ad ds.length cd, .slice At ts.length ct, .int .i64 r, .slice Am M.length cm, .slice Aa all.length ca], .int .u8 x] w fun e w' => e = .returned (.bool true) ∧ Below w.heap.size w w' := by
  have hX1 := Lib.hid (Ax.made w P N T (.slice Ac co.length cc) (.slice Ad ds.length cd) (.slice At ts.length ct) r (.slice Am M.length cm) (.slice Aa all.length ca))
  have hB1 := Lib.hid ((Below.refl _ w).alloc (Nat.le_refl _) (.cells #[.int .u64 P, .int .i64 N, .int .i64 T, .slice Ac co.length cc, .slice Ad ds.length cd, .slice At ts.length ct, .int .i64 r, .slice Am M.length cm, .slice Aa all.length ca] 32))
  have hL1 := hL.next hB1.out
  have hmay := fun W hW => may_any P N T wP Ac Ad At cc cd ct co ds ts r Am cm M Aa ca all hF W hW
  cases hq : mayB P N T co ds ts M all with
  | false =>
    rw [hq] at hmay
    go_enter Try.func9, Try.ntmps9
    go_wp2_with fail
    refine (hmay _ hL1).mono ?_; rintro e w1 ⟨rfl, hb⟩
    go_wp2_with fail
    refine (awake_any _).mono ?_; rintro e w2 ⟨rfl, hb2⟩
    go_wp2_with fail
    go_ret
    exact ⟨rfl, hB1.out.trans ((hb.trans (hb2.mono hb.size)).mono hB1.out.size)⟩
  | true =>
    rw [hq] at hmay
    obtain ⟨N, T, rfl, rfl, hO, hmN, hrN, haN, hf2, hf1, h30⟩ := may_good hq hk hw
    have hN13 := hO.coal.n13
    have hN4 := hO.coal.n4
    have hp := hO.coal.ok
    have hpb := hp.bd
    have hp0 : 0 < P := by omega
    rw [hmN, haN] at hX1 hB1 hL1 hmay ⊢
    have HmN := Lib.hid hmN
    have HrN := Lib.hid hrN
    have HaN := Lib.hid haN
    have HOK := Lib.hid hO
    clear hF hk hw hq hmN hrN haN hL
    by_cases h0 : co.length = 0
    · have hzH := Lib.hid (show ((co.length : Int) == 0) = true by rw [h0]; rfl)
      clear h0
      go_enter Try.func9, Try.ntmps9
      go_wp2_with fail
      refine (hmay _ hL1).mono ?_; rintro e w1 ⟨rfl, hb⟩
      have hX2 := Lib.hid (hX1.out.next hb)
      have hB2 := Lib.hid (hB1.out.trans (hb.mono hB1.out.size))
      have hL2 := hL1.next hb
      have hc2 := hL2.sc.co
      have hd2 := hL2.sc.ds
      have hm2 := hL2.ms.s2 HmN.out HrN.out
      have ha2 := Sf.of_sll hL2.al HaN.out
      clear hb hX1 hB1 hL1 hL2 hmay
      obtain ⟨c0, c1, c2, c3, c4, c5, c6, c7, c8, hlt⟩ := id hX2.out
      have hz := hzH.out
      go_wp2_with fail
      refine (awake_any _).mono ?_; rintro e w2 ⟨rfl, hb2⟩
      go_wp2_with fail
      go_ret
      exact ⟨rfl, hB2.out.trans (hb2.mono hB2.out.size)⟩
    · have hrH := Lib.hid (show ((x : Nat) : Int).tmod (co.length : Int) = ((x % co.length : Nat) : Int) from (Int.ofNat_tmod x co.length).symm)
      have hxlH := Lib.hid (show x % co.length < co.length from Nat.mod_lt _ (by omega))
      have h0H := Lib.hid h0
      have hl1 := hO.coal.l1000
      clear h0
      go_enter Try.func9, Try.ntmps9
      go_wp2_with fail
      refine (hmay _ hL1).mono ?_; rintro e w1 ⟨rfl, hb⟩
      have hX2 := Lib.hid (hX1.out.next hb)
      have hB2 := Lib.hid (hB1.out.trans (hb.mono hB1.out.size))
      have hL2 := hL1.next hb
      have hc2 := hL2.sc.co
      have hd2 := hL2.sc.ds
      have hm2 := hL2.ms.s2 HmN.out HrN.out
      have ha2 := Sf.of_sll hL2.al HaN.out
      clear hb hX1 hB1 hL1 hL2 hmay
      obtain ⟨c0, c1, c2, c3, c4, c5, c6, c7, c8, hlt⟩ := id hX2.out
      have h0 := h0H.out
      have hz : ((co.length : Int) == 0) = false := by rw [beq_eq_false_iff_ne]; omega
      have hr := hrH.out
      have hxl := hxlH.out
      obtain ⟨bc, oc, kx, hAc, hbc, hkx, hcx⟩ := hc2.at_ hxl
      clear h0H hrH hxlH h0
      generalize hmx : x % co.length = mx at *
      have hm0 : (0 : Int) ≤ (mx : Int) := by omega
      have hm1 : (mx : Int) < (co.length : Int) := by omega
      subst hAc
      go_wp2
      go_quiet (fail)
      have hQb := below_drewN (Below.refl w1.heap.size w1) nq
      have hX3 := Lib.hid (hX2.out.next hQb)
      have hB3 := Lib.hid (hB2.out.trans (hQb.mono hB2.out.size))
      have hc3 := hc2.next hQb
      have hd3 := hd2.next hQb
      have hm3 := hm2.next hQb
      have ha3 := ha2.next hQb
      clear hX2 hB2 hc2 hd2 hm2 ha2 hQb c0 c1 c2 c3 c4 c5 c6 c7 c8 hlt hcx hkx hm0 hm1 hr hmx hxl hz hbc
      generalize w1.drewN nq = wz at *
      have hX2 := hX3
      have hB2 := hB3
      have hc2 := hc3
      have hd2 := hd3
      have hm2 := hm3
      have ha2 := ha3
      clear hX3 hB3 hc3 hd3 hm3 ha3
      obtain ⟨c0, c1, c2, c3, c4, c5, c6, c7, c8, hlt⟩ := id hX2.out
      have hXN := hX2
      clear hX2
      go_wp2
      have hR1 := Rw.made wz P N T (.slice (some ⟨bc, oc, none⟩) co.length cc) (.slice none 0 0) (.slice At ts.length ct)
      have hBw := Lib.hid (bnew (Below.refl wz.heap.size wz) (.cells #[.int .u64 P, .int .i64 N, .int .i64 T, .slice (some ⟨bc, oc, none⟩) co.length cc, .slice none 0 0, .slice At ts.length ct] 29) (Nat.le_refl _))
      have hR2H := Lib.hid hR1
      clear hR1 c0 c1 c2 c3 c4 c5 c6 c7 c8
      generalize (wz.alloc (.cells #[.int .u64 P, .int .i64 N, .int .i64 T, .slice (some ⟨bc, oc, none⟩) co.length cc, .slice none 0 0, .slice At ts.length ct] 29)) = W2 at *
      go_loopw [7] (fun q wr => ∃ (k : Nat) (v : Value), k ≤ ds.length ∧ q = .int .i64 k ∧ Below wz.heap.size wz wr ∧ Hid (Rw wr (wz.heap.size) P N T (.slice (some ⟨bc, oc, none⟩) co.length cc) (v) (.slice At ts.length ct)) ∧ Hid (OD wr (wz.heap.size + 1) v ((ds.take k).filter (fun d : Dv => decide (d.frm = kx))).length ((ds.take k).filter (fun d : Dv => decide (d.frm = kx)))) ∧ wz.heap.size + 1 ≤ wr.heap.size) (fun q _ => ds.length - (intOf q).toNat)
      case atStart => exact ⟨0, _, Nat.zero_le _, rfl, hBw.out, hR2H, Lib.hid (OD.none _ _), hR2H.out.lt⟩
      case round =>
        obtain ⟨k, v, hk, rfl, hB, hRv, hO, hsz⟩ := hrel
        obtain ⟨c0, c1, c2, c3, c4, c5, c6, c7, c8, hltx⟩ := id (hXN.out.next hB)
        by_cases hlt : k < ds.length
        · obtain ⟨b, off, d, hA, hbl, hdd, d0, d1, d2, d3, d4, d5, d6, d7⟩ := hd2.at_ hlt
          subst hA
          have hkN : (k : Int) < ds.length := by omega
          have e1 := (hB.cell (p := ⟨b, off + k * 8 + 1, none⟩) hbl).trans d1
          have hflen : ((ds.take k).filter (fun d : Dv => decide (d.frm = kx))).length ≤ k := by have := List.length_filter_le (fun d : Dv => decide (d.frm = kx)) (ds.take k); rw [List.length_take] at this; omega
          by_cases h1 : d.frm = kx
          · have hN : Hid ((ds.take (k + 1)).filter (fun d : Dv => decide (d.frm = kx)) = (ds.take k).filter (fun d : Dv => decide (d.frm = kx)) ++ [d]) := Lib.hid (filter_yes hdd (decide_eq_true h1))
            have h1' : (d.frm == kx) = true := beq_iff_eq.2 h1
            clear h1 hdd
            generalize (ds.take k).filter (fun d : Dv => decide (d.frm = kx)) = F at *
            go_wp2
            clear c0 c1 c2 c3 c4 c5 c6 c7 c8 hltx e1
            have hBd := Lib.hid hB.drew
            have hXd := hXN.out.next hBd.out
            have hRd := hRv.out.next (Below.refl wr.heap.size wr).drew hRv.out.lt
            have hOd := hO.out.drew
            have hsd : wr.drew.heap.size = wr.heap.size := rfl
            have E0 := (hBd.out.cell (p := ⟨b, off + k * 8, none⟩) hbl).trans d0
            have E1 := (hBd.out.cell (p := ⟨b, off + k * 8 + 1, none⟩) hbl).trans d1
            have E2 := (hBd.out.cell (p := ⟨b, off + k * 8 + 2, none⟩) hbl).trans d2
            have E3 := (hBd.out.cell (p := ⟨b, off + k * 8 + 3, none⟩) hbl).trans d3
            have E4 := (hBd.out.cell (p := ⟨b, off + k * 8 + 4, none⟩) hbl).trans d4
            have E5 := (hBd.out.cell (p := ⟨b, off + k * 8 + 5, none⟩) hbl).trans d5
            have E6 := (hBd.out.cell (p := ⟨b, off + k * 8 + 6, none⟩) hbl).trans d6
            have E7 := (hBd.out.cell (p := ⟨b, off + k * 8 + 7, none⟩) hbl).trans d7
            clear d0 d1 d2 d3 d4 d5 d6 d7
            have hF0 : Below (wz.heap.size + 1) wr.drew wr.drew := Below.refl _ _
            refine wp_region_hold 8 2 (Below (wz.heap.size + 1) wr.drew) (by kernel_rfl) (by kernel_rfl) hF0 (fun hInh => ?_)
            simp only [List.take_succ_cons, List.take_zero, List.drop_succ_cons, List.drop_zero]
            have C4 := fun b : Hold (Below (wz.heap.size + 1) wr.drew) => (b.ok.cell (p := ⟨w.heap.size, 4, none⟩) (by simp only; omega)).trans hXd.c4
            have Z4 := fun b : Hold (Below (wz.heap.size + 1) wr.drew) => (b.ok.cell (p := ⟨wz.heap.size, 4, none⟩) (by simp only; omega)).trans hRd.sx.c4
            have E0 := fun b' : Hold (Below (wz.heap.size + 1) wr.drew) => (b'.ok.cell (p := ⟨b, off + k * 8, none⟩) (by simp only; omega)).trans E0
            have E1 := fun b' : Hold (Below (wz.heap.size + 1) wr.drew) => (b'.ok.cell (p := ⟨b, off + k * 8 + 1, none⟩) (by simp only; omega)).trans E1
            have E2 := fun b' : Hold (Below (wz.heap.size + 1) wr.drew) => (b'.ok.cell (p := ⟨b, off + k * 8 + 2, none⟩) (by simp only; omega)).trans E2
            have E3 := fun b' : Hold (Below (wz.heap.size + 1) wr.drew) => (b'.ok.cell (p := ⟨b, off + k * 8 + 3, none⟩) (by simp only; omega)).trans E3
            have E4 := fun b' : Hold (Below (wz.heap.size + 1) wr.drew) => (b'.ok.cell (p := ⟨b, off + k * 8 + 4, none⟩) (by simp only; omega)).trans E4
            have E5 := fun b' : Hold (Below (wz.heap.size + 1) wr.drew) => (b'.ok.cell (p := ⟨b, off + k * 8 + 5, none⟩) (by simp only; omega)).trans E5
            have E6 := fun b' : Hold (Below (wz.heap.size + 1) wr.drew) => (b'.ok.cell (p := ⟨b, off + k * 8 + 6, none⟩) (by simp only; omega)).trans E6
            have E7 := fun b' : Hold (Below (wz.heap.size + 1) wr.drew) => (b'.ok.cell (p := ⟨b, off + k * 8 + 7, none⟩) (by simp only; omega)).trans E7
            obtain ⟨Av, mv, kv, rfl⟩ : ∃ A m c, v = .slice A m c := by obtain ⟨A, c, h, _⟩ := hOd.form; exact ⟨A, _, c, h⟩
            repeat (go_big_quiet_step (fail))
            refine wpQuiet_nil ?_
            clear C4 Z4 E0 E1 E2 E3 E4 E5 E6 E7
            refine wpListS_step (by rfl) (fun K hK => ?_)
            go_simp
            have hB4 : Below (wz.heap.size + 1) wr.drew (wr.drew.alloc (.cells #[.int .i64 d.rnd, .int .i64 d.frm, .int .i64 d.to, .int .i64 d.at_, .int .i64 d.kind, .int .u64 d.k, .int .i64 d.of_, .int .i64 d.src] 41)) := bnew hF0 (.cells #[.int .i64 d.rnd, .int .i64 d.frm, .int .i64 d.to, .int .i64 d.at_, .int .i64 d.kind, .int .u64 d.k, .int .i64 d.of_, .int .i64 d.src] 41) (by omega)
            refine hK _ _ hB4 (fun _ => ?_)
            clear hK K
            have hO4 := hOd.push (.cells #[.int .i64 d.rnd, .int .i64 d.frm, .int .i64 d.to, .int .i64 d.at_, .int .i64 d.kind, .int .u64 d.k, .int .i64 d.of_, .int .i64 d.src] 41)
            have s4 := Sd.one wr.drew d
            have hz4 := hB4.size
            have hzx : wz.heap.size + 1 ≤ (wr.drew.alloc (.cells #[.int .i64 d.rnd, .int .i64 d.frm, .int .i64 d.to, .int .i64 d.at_, .int .i64 d.kind, .int .u64 d.k, .int .i64 d.of_, .int .i64 d.src] 41)).heap.size := by omega
            have hlx : (F).length + 1 ≤ 1000000 := by first | omega | (rw [List.length_append]; omega)
            refine wpListS_step (by rfl) (fun K hK => ?_)
            refine ifp (step_append_dv (E := False) (ops := #[]) (by rfl) _ _ (by rfl) (wz.heap.size + 1) _ (F).length 1 (F) [d] (by rfl) hO4 _ 1 (by rfl) rfl s4 hlx hzx ?_) (by rfl)
            intro v' w5 hO5 hg5
            obtain ⟨A6, m6, k6, rfl⟩ : ∃ A m c, v' = .slice A m c := by obtain ⟨A, c, h, _⟩ := hO5.form; exact ⟨A, _, c, h⟩
            have hB5 : Below (wz.heap.size + 1) wr.drew w5 := hB4.grown hg5 (by omega) (fun q e => (hO4.lt q e).1)
            refine hK _ _ hB5 (fun _ => ?_)
            clear hK K
            refine wpListS_end ?_
            have hR5 := hRd.next hB5 (by omega)
            have hfz5 := hR5.frozen 4
            have hc5 := hR5.sx.c4
            have hz5 := hB5.size
            go_wp2
            refine NoPanic.normal ?_
            go_wp2
            go_roundw
            case rel => exact ⟨k + 1, (.slice A6 m6 k6), by omega, by simp, put_below (hBd.out.trans (hB5.mono (by omega))) (Nat.le_refl _) (by omega) 4 (.slice A6 m6 k6), Lib.hid (hR5.put (.slice A6 m6 k6)), by rw [hN.out, List.length_append]; exact Lib.hid (hO5.aside (by omega) 4 (.slice A6 m6 k6)), by rw [World.size_setCell]; omega⟩
            case measure => simp [intOf]; omega
          · have hN : Hid ((ds.take (k + 1)).filter (fun d : Dv => decide (d.frm = kx)) = (ds.take k).filter (fun d : Dv => decide (d.frm = kx))) := Lib.hid (filter_no hdd (decide_eq_false h1))
            have h1' : (d.frm == kx) = false := beq_eq_false_iff_ne.2 h1
            clear h1 hdd
            go_wp2
            go_roundw
            case rel => exact ⟨k + 1, v, by omega, by simp, hB, hRv, by rw [hN.out]; exact hO, hsz⟩
            case measure => simp [intOf]; omega
        · obtain rfl : k = ds.length := by omega
          rw [List.take_length] at hO
          have hlG : (ds.filter (fun d : Dv => decide (d.frm = kx))).length ≤ 30 := Nat.le_trans (List.length_filter_le _ _) h30
          have hB1' := hB
          have hRv1 := hRv
          have hO1 := hO
          have hsz1 := hsz
          clear hB hRv hO hsz
          go_wp2
          clear c0 c1 c2 c3 c4 c5 c6 c7 c8 hltx
          go_loopw [8] (fun q wr => ∃ (k : Nat) (v : Value), k ≤ ds.length ∧ q = .int .i64 k ∧ Below wz.heap.size wz wr ∧ Hid (Rw wr (wz.heap.size) P N T (.slice (some ⟨bc, oc, none⟩) co.length cc) (v) (.slice At ts.length ct)) ∧ Hid (OD wr (wz.heap.size + 1) v (ds.filter (fun d : Dv => decide (d.frm = kx)) ++ (ds.take k).filter (fun d : Dv => decide (d.frm ≠ kx))).length (ds.filter (fun d : Dv => decide (d.frm = kx)) ++ (ds.take k).filter (fun d : Dv => decide (d.frm ≠ kx)))) ∧ wz.heap.size + 1 ≤ wr.heap.size) (fun q _ => ds.length - (intOf q).toNat)
          case atStart => exact ⟨0, v, Nat.zero_le _, rfl, hB1', hRv1, by simpa using hO1, hsz1⟩
          case round =>
            clear hB1' hRv1 hO1 hsz1
            obtain ⟨k, v, hk, rfl, hB, hRv, hO, hsz⟩ := hrel
            obtain ⟨c0, c1, c2, c3, c4, c5, c6, c7, c8, hltx⟩ := id (hXN.out.next hB)
            by_cases hlt : k < ds.length
            · obtain ⟨b, off, d, hA, hbl, hdd, d0, d1, d2, d3, d4, d5, d6, d7⟩ := hd2.at_ hlt
              subst hA
              have hkN : (k : Int) < ds.length := by omega
              have e1 := (hB.cell (p := ⟨b, off + k * 8 + 1, none⟩) hbl).trans d1
              have hflen : ((ds.take k).filter (fun d : Dv => decide (d.frm ≠ kx))).length ≤ k := by have := List.length_filter_le (fun d : Dv => decide (d.frm ≠ kx)) (ds.take k); rw [List.length_take] at this; omega
              by_cases h1 : d.frm = kx
              · have hN : Hid ((ds.take (k + 1)).filter (fun d : Dv => decide (d.frm ≠ kx)) = (ds.take k).filter (fun d : Dv => decide (d.frm ≠ kx))) := Lib.hid (filter_no hdd (decide_eq_false (fun h => h h1)))
                have h1' : (d.frm != kx) = false := bne_eq_false_iff_eq.2 h1
                clear h1 hdd
                go_wp2
                go_roundw
                case rel => exact ⟨k + 1, v, by omega, by simp, hB, hRv, by rw [hN.out]; exact hO, hsz⟩
                case measure => simp [intOf]; omega
              · have hN : Hid ((ds.take (k + 1)).filter (fun d : Dv => decide (d.frm ≠ kx)) = (ds.take k).filter (fun d : Dv => decide (d.frm ≠ kx)) ++ [d]) := Lib.hid (filter_yes hdd (decide_eq_true h1))
                have h1' : (d.frm != kx) = true := bne_iff_ne.2 h1
                clear h1 hdd
                generalize (ds.take k).filter (fun d : Dv => decide (d.frm ≠ kx)) = F at *
                go_wp2
                clear c0 c1 c2 c3 c4 c5 c6 c7 c8 hltx e1
                have hBd := Lib.hid hB.drew
                have hXd := hXN.out.next hBd.out
                have hRd := hRv.out.next (Below.refl wr.heap.size wr).drew hRv.out.lt
                have hOd := hO.out.drew
                have hsd : wr.drew.heap.size = wr.heap.size := rfl
                have E0 := (hBd.out.cell (p := ⟨b, off + k * 8, none⟩) hbl).trans d0
                have E1 := (hBd.out.cell (p := ⟨b, off + k * 8 + 1, none⟩) hbl).trans d1
                have E2 := (hBd.out.cell (p := ⟨b, off + k * 8 + 2, none⟩) hbl).trans d2
                have E3 := (hBd.out.cell (p := ⟨b, off + k * 8 + 3, none⟩) hbl).trans d3
                have E4 := (hBd.out.cell (p := ⟨b, off + k * 8 + 4, none⟩) hbl).trans d4
                have E5 := (hBd.out.cell (p := ⟨b, off + k * 8 + 5, none⟩) hbl).trans d5
                have E6 := (hBd.out.cell (p := ⟨b, off + k * 8 + 6, none⟩) hbl).trans d6
                have E7 := (hBd.out.cell (p := ⟨b, off + k * 8 + 7, none⟩) hbl).trans d7
                clear d0 d1 d2 d3 d4 d5 d6 d7
                have hF0 : Below (wz.heap.size + 1) wr.drew wr.drew := Below.refl _ _
                refine wp_region_hold 8 2 (Below (wz.heap.size + 1) wr.drew) (by kernel_rfl) (by kernel_rfl) hF0 (fun hInh => ?_)
                simp only [List.take_succ_cons, List.take_zero, List.drop_succ_cons, List.drop_zero]
                have C4 := fun b : Hold (Below (wz.heap.size + 1) wr.drew) => (b.ok.cell (p := ⟨w.heap.size, 4, none⟩) (by simp only; omega)).trans hXd.c4
                have Z4 := fun b : Hold (Below (wz.heap.size + 1) wr.drew) => (b.ok.cell (p := ⟨wz.heap.size, 4, none⟩) (by simp only; omega)).trans hRd.sx.c4
                have E0 := fun b' : Hold (Below (wz.heap.size + 1) wr.drew) => (b'.ok.cell (p := ⟨b, off + k * 8, none⟩) (by simp only; omega)).trans E0
                have E1 := fun b' : Hold (Below (wz.heap.size + 1) wr.drew) => (b'.ok.cell (p := ⟨b, off + k * 8 + 1, none⟩) (by simp only; omega)).trans E1
                have E2 := fun b' : Hold (Below (wz.heap.size + 1) wr.drew) => (b'.ok.cell (p := ⟨b, off + k * 8 + 2, none⟩) (by simp only; omega)).trans E2
                have E3 := fun b' : Hold (Below (wz.heap.size + 1) wr.drew) => (b'.ok.cell (p := ⟨b, off + k * 8 + 3, none⟩) (by simp only; omega)).trans E3
                have E4 := fun b' : Hold (Below (wz.heap.size + 1) wr.drew) => (b'.ok.cell (p := ⟨b, off + k * 8 + 4, none⟩) (by simp only; omega)).trans E4
                have E5 := fun b' : Hold (Below (wz.heap.size + 1) wr.drew) => (b'.ok.cell (p := ⟨b, off + k * 8 + 5, none⟩) (by simp only; omega)).trans E5
                have E6 := fun b' : Hold (Below (wz.heap.size + 1) wr.drew) => (b'.ok.cell (p := ⟨b, off + k * 8 + 6, none⟩) (by simp only; omega)).trans E6
                have E7 := fun b' : Hold (Below (wz.heap.size + 1) wr.drew) => (b'.ok.cell (p := ⟨b, off + k * 8 + 7, none⟩) (by simp only; omega)).trans E7
                obtain ⟨Av, mv, kv, rfl⟩ : ∃ A m c, v = .slice A m c := by obtain ⟨A, c, h, _⟩ := hOd.form; exact ⟨A, _, c, h⟩
                repeat (go_big_quiet_step (fail))
                refine wpQuiet_nil ?_
                clear C4 Z4 E0 E1 E2 E3 E4 E5 E6 E7
                refine wpListS_step (by rfl) (fun K hK => ?_)
                go_simp
                have hB4 : Below (wz.heap.size + 1) wr.drew (wr.drew.alloc (.cells #[.int .i64 d.rnd, .int .i64 d.frm, .int .i64 d.to, .int .i64 d.at_, .int .i64 d.kind, .int .u64 d.k, .int .i64 d.of_, .int .i64 d.src] 41)) := bnew hF0 (.cells #[.int .i64 d.rnd, .int .i64 d.frm, .int .i64 d.to, .int .i64 d.at_, .int .i64 d.kind, .int .u64 d.k, .int .i64 d.of_, .int .i64 d.src] 41) (by omega)
                refine hK _ _ hB4 (fun _ => ?_)
                clear hK K
                have hO4 := hOd.push (.cells #[.int .i64 d.rnd, .int .i64 d.frm, .int .i64 d.to, .int .i64 d.at_, .int .i64 d.kind, .int .u64 d.k, .int .i64 d.of_, .int .i64 d.src] 41)
                have s4 := Sd.one wr.drew d
                have hz4 := hB4.size
                have hzx : wz.heap.size + 1 ≤ (wr.drew.alloc (.cells #[.int .i64 d.rnd, .int .i64 d.frm, .int .i64 d.to, .int .i64 d.at_, .int .i64 d.kind, .int .u64 d.k, .int .i64 d.of_, .int .i64 d.src] 41)).heap.size := by omega
                have hlx : (ds.filter (fun d : Dv => decide (d.frm = kx)) ++ F).length + 1 ≤ 1000000 := by first | omega | (rw [List.length_append]; omega)
                refine wpListS_step (by rfl) (fun K hK => ?_)
                refine ifp (step_append_dv (E := False) (ops := #[]) (by rfl) _ _ (by rfl) (wz.heap.size + 1) _ (ds.filter (fun d : Dv => decide (d.frm = kx)) ++ F).length 1 (ds.filter (fun d : Dv => decide (d.frm = kx)) ++ F) [d] (by rfl) hO4 _ 1 (by rfl) rfl s4 hlx hzx ?_) (by rfl)
                intro v' w5 hO5 hg5
                obtain ⟨A6, m6, k6, rfl⟩ : ∃ A m c, v' = .slice A m c := by obtain ⟨A, c, h, _⟩ := hO5.form; exact ⟨A, _, c, h⟩
                have hB5 : Below (wz.heap.size + 1) wr.drew w5 := hB4.grown hg5 (by omega) (fun q e => (hO4.lt q e).1)
                refine hK _ _ hB5 (fun _ => ?_)
                clear hK K
                refine wpListS_end ?_
                have hR5 := hRd.next hB5 (by omega)
                have hfz5 := hR5.frozen 4
                have hc5 := hR5.sx.c4
                have hz5 := hB5.size
                go_wp2
                refine NoPanic.normal ?_
                go_wp2
                go_roundw
                case rel => exact ⟨k + 1, (.slice A6 m6 k6), by omega, by simp, put_below (hBd.out.trans (hB5.mono (by omega))) (Nat.le_refl _) (by omega) 4 (.slice A6 m6 k6), Lib.hid (hR5.put (.slice A6 m6 k6)), by rw [hN.out, ← List.append_assoc, @List.length_append _ (ds.filter (fun d : Dv => decide (d.frm = kx)) ++ F) [d]]; exact Lib.hid (hO5.aside (by omega) 4 (.slice A6 m6 k6)), by rw [World.size_setCell]; omega⟩
                case measure => simp [intOf]; omega
            · obtain rfl : k = ds.length := by omega
              rw [List.take_length] at hO
              change Hid (OD wr (wz.heap.size + 1) v (kfst kx ds).length (kfst kx ds)) at hO
              obtain ⟨Av, kv, rfl, hv5⟩ := hO.out.form
              have hXr := Lib.hid (hXN.out.next hB)
              have hSv := Lib.hid hRv.out.sx
              have hc5 := hc2.next hB
              have hd5 := hd2.next hB
              have hm5 := hm2.next hB
              have ha5 := ha2.next hB
              have hBr := Lib.hid (hB2.out.trans (hB.mono hB2.out.size))
              have g1 := fun W h1 h2 h3 => ms_any P N T (some ⟨bc, oc, none⟩) Ad cc cd co ds (.slice At ts.length ct) r HOK.out Am cm (rAt2 M) hf2 W h1 h2 h3
              have g2 := fun W h1 h2 h3 => ms_any P N T (some ⟨bc, oc, none⟩) Av cc kv co (kfst kx ds) (.slice At ts.length ct) r (HOK.out.first kx) Am cm (rAt2 M) hf2 W h1 h2 h3
              have b1 := fun W h1 h2 h3 => bc_any P N T (some ⟨bc, oc, none⟩) Ad cc cd co ds (.slice At ts.length ct) r HOK.out Aa ca (rAt all) hf1 W h1 h2 h3
              have b2 := fun W h1 h2 h3 => bc_any P N T (some ⟨bc, oc, none⟩) Av cc kv co (kfst kx ds) (.slice At ts.length ct) r (HOK.out.first kx) Aa ca (rAt all) hf1 W h1 h2 h3
              rw [msF_order] at g2
              rw [bcF_order] at b2
              have t1 := fun A A' c c' W h1 h2 => sameAll_yes A A' c c' N (msF P co N r ds (rAt2 M)) (msF P co N r ds (rAt2 M)) hN13 (fun _ _ _ _ => rfl) (fun i j _ _ => ms_short hp0 hf2 i j) W h1 h2
              have t2 := fun A A' c c' W h1 h2 => same_yes A A' c c' N (bcF P co r ds (rAt all)) (bcF P co r ds (rAt all)) hN13 (fun _ _ => rfl) (fun i _ => bc_short hp0 hf1 i) W h1 h2
              unfold sv at g1 g2 b1 b2
              generalize msF P co N r ds (rAt2 M) = RM at *
              generalize bcF P co r ds (rAt all) = RB at *
              generalize rAt2 M = FM at *
              generalize rAt all = FB at *
              generalize kfst kx ds = F at *
              generalize hnF : F.length = nF at *
              obtain ⟨p0, p1, p2, p3, p4, p5, p6, p7, p8, _⟩ := id hXr.out
              obtain ⟨x0, x1, x2, x3, x4, x5, _⟩ := id hSv.out
              clear hXN hB hRv hO hB2 hc2 hd2 hm2 ha2
              go_wp2
              go_region_held3 (fun w' => w'.cell? ⟨w.heap.size, 0, none⟩ = some (.int .u64 P) ∧ w'.cell? ⟨w.heap.size, 1, none⟩ = some (.int .i64 N) ∧ w'.cell? ⟨w.heap.size, 2, none⟩ = some (.int .i64 T) ∧ w'.cell? ⟨w.heap.size, 3, none⟩ = some (.slice (some ⟨bc, oc, none⟩) co.length cc) ∧ w'.cell? ⟨w.heap.size, 4, none⟩ = some (.slice Ad ds.length cd) ∧ w'.cell? ⟨w.heap.size, 5, none⟩ = some (.slice At ts.length ct) ∧ w'.cell? ⟨w.heap.size, 6, none⟩ = some (.int .i64 r) ∧ w'.cell? ⟨w.heap.size, 7, none⟩ = some (.slice Am N cm) ∧ w'.cell? ⟨w.heap.size, 8, none⟩ = some (.slice Aa N ca) ∧ w'.cell? ⟨wz.heap.size, 0, none⟩ = some (.int .u64 P) ∧ w'.cell? ⟨wz.heap.size, 1, none⟩ = some (.int .i64 N) ∧ w'.cell? ⟨wz.heap.size, 2, none⟩ = some (.int .i64 T) ∧ w'.cell? ⟨wz.heap.size, 3, none⟩ = some (.slice (some ⟨bc, oc, none⟩) co.length cc) ∧ w'.cell? ⟨wz.heap.size, 4, none⟩ = some (.slice Av nF kv) ∧ w'.cell? ⟨wz.heap.size, 5, none⟩ = some (.slice At ts.length ct))
                (refine ⟨?_, ?_, ?_, ?_, ?_, ?_, ?_, ?_, ?_, ?_, ?_, ?_, ?_, ?_, ?_⟩ <;> first | assumption | go_simp)
                (first
                  | (go_at_call 11; refine (awake_any _).mono ?_; rintro e w3 ⟨rfl, hb3⟩; have q3 := Lib.hid ((Below.refl wr.heap.size wr).drew.trans hb3); clear p0 p1 p2 p3 p4 p5 p6 p7 p8 x0 x1 x2 x3 x4 x5; obtain ⟨p0, p1, p2, p3, p4, p5, p6, p7, p8, _⟩ := hXr.out.next q3.out; obtain ⟨x0, x1, x2, x3, x4, x5, _⟩ := hSv.out.next q3.out; clear hb3)
                  | (go_at_call 13; with_reducible refine (g1 _ (hc5.next q3.out) (hd5.next q3.out) (hm5.next q3.out)).mono ?_; rintro e w4 ⟨A4, k4, rfl, s4, hb4⟩; have q4 := Lib.hid (q3.out.trans (hb4.mono q3.out.size)); clear p0 p1 p2 p3 p4 p5 p6 p7 p8 x0 x1 x2 x3 x4 x5; obtain ⟨p0, p1, p2, p3, p4, p5, p6, p7, p8, _⟩ := hXr.out.next q4.out; obtain ⟨x0, x1, x2, x3, x4, x5, _⟩ := hSv.out.next q4.out;  clear hb4)
                  | (go_at_call 13; with_reducible refine (g2 _ (hc5.next q4.out) (hv5.next q4.out) (hm5.next q4.out)).mono ?_; rintro e w5 ⟨A5, k5, rfl, s5, hb5⟩; have q5 := Lib.hid (q4.out.trans (hb5.mono q4.out.size)); clear p0 p1 p2 p3 p4 p5 p6 p7 p8 x0 x1 x2 x3 x4 x5; obtain ⟨p0, p1, p2, p3, p4, p5, p6, p7, p8, _⟩ := hXr.out.next q5.out; obtain ⟨x0, x1, x2, x3, x4, x5, _⟩ := hSv.out.next q5.out; have s45 := s4.next hb5; clear hb5)
                  | (go_at_call 12; with_reducible refine (t1 _ _ _ _ _ s45 s5).mono ?_; rintro e w6 ⟨rfl, hb6⟩; have q6 := Lib.hid (q5.out.trans (hb6.mono q5.out.size)); clear p0 p1 p2 p3 p4 p5 p6 p7 p8 x0 x1 x2 x3 x4 x5; obtain ⟨p0, p1, p2, p3, p4, p5, p6, p7, p8, _⟩ := hXr.out.next q6.out; obtain ⟨x0, x1, x2, x3, x4, x5, _⟩ := hSv.out.next q6.out; clear hb6)
                  | (go_at_call 16; with_reducible refine (b1 _ (hc5.next q6.out) (hd5.next q6.out) (ha5.next q6.out)).mono ?_; rintro e w7 ⟨A7, k7, rfl, s7, hb7⟩; have q7 := Lib.hid (q6.out.trans (hb7.mono q6.out.size)); clear p0 p1 p2 p3 p4 p5 p6 p7 p8 x0 x1 x2 x3 x4 x5; obtain ⟨p0, p1, p2, p3, p4, p5, p6, p7, p8, _⟩ := hXr.out.next q7.out; obtain ⟨x0, x1, x2, x3, x4, x5, _⟩ := hSv.out.next q7.out;  clear hb7)
                  | (go_at_call 16; with_reducible refine (b2 _ (hc5.next q7.out) (hv5.next q7.out) (ha5.next q7.out)).mono ?_; rintro e w8 ⟨A8, k8, rfl, s8, hb8⟩; have q8 := Lib.hid (q7.out.trans (hb8.mono q7.out.size)); clear p0 p1 p2 p3 p4 p5 p6 p7 p8 x0 x1 x2 x3 x4 x5; obtain ⟨p0, p1, p2, p3, p4, p5, p6, p7, p8, _⟩ := hXr.out.next q8.out; obtain ⟨x0, x1, x2, x3, x4, x5, _⟩ := hSv.out.next q8.out; have s78 := s7.next hb8; clear hb8)
                  | (go_at_call 15; with_reducible refine (t2 _ _ _ _ _ s78 s8).mono ?_; rintro e w9 ⟨rfl, hb9⟩; have q9 := Lib.hid (q8.out.trans (hb9.mono q8.out.size)); clear p0 p1 p2 p3 p4 p5 p6 p7 p8 x0 x1 x2 x3 x4 x5; obtain ⟨p0, p1, p2, p3, p4, p5, p6, p7, p8, _⟩ := hXr.out.next q9.out; obtain ⟨x0, x1, x2, x3, x4, x5, _⟩ := hSv.out.next q9.out; clear hb9))
              go_wp2
              go_ret
              exact ⟨rfl, hBr.out.trans (q9.out.mono hBr.out.size)⟩

theorem lifted (os : Os) (started : os.Started) (H : Type) (enc : TypeId × Value → H) :
    ReturnsInHanded {} Try.checked os 9 .any (Rows.adversaryOrderSpec.pre6 enc Try.prog Try.f9 Rows.adversaryOrderRow.domain false) (Rows.adversaryOrderSpec.post enc Try.prog Try.f9 false true false false) := by
  refine returnsInHanded_of_change (C := Try.checked) own started (by kernel_rfl) Try.func9
    (ChangeSpec.witness6 (enc := enc) (C := Try.checked) false ⟨#[], #[.agg #[.int .u64 0, .int .i64 0, .int .i64 0, .slice none 0 0, .slice none 0 0, .slice none 0 0, .int .i64 0, .slice none 0 0, .slice none 0 0], .int .u8 0], []⟩ 8 (by kernel_rfl) (by kernel_rfl) (by kernel_rfl) (by kernel_rfl)) ?_
  intro W base args ds gs before hval0 hW hcnd _
  have hval : ∀ (j : Nat) t v, Try.f9.params[j]? = some t → args[j]? = some v → Value.okWide Try.prog W .any base t v := hval0
  have hW' := hW
  obtain ⟨p, q, hA0, hV, rfl, hfz, hnd⟩ := hW
  have hA : DataW.TrodAll enc Try.prog W 0 (fun _ => true) true Try.f9.params.toList args.toList ds p := hA0
  rw [Try.params9] at hA hval
  obtain ⟨v0, v1, d0, d1, p0, p1, rfl, rfl, rfl, t0, t1⟩ := trodAll_two hA
  obtain ⟨rfl, rfl⟩ := trodVars_none hV
  clear hA0 hval0
  simp only [List.append_nil] at hW'
  have l0 : ∀ x ∈ p0, x.block < W.heap.size := fun x hx => hW'.lt x (by simp [hx])
  obtain ⟨P0, N0, T0, Ac0, Ad0, At0, cc0, cd0, ct0, co0, ds0, ts0, rd0, Am0, cm0, M0, Aa0, ca0, all0, rfl, b0, e0, f0, g0, h0, r0⟩ := arg_ask13 (hval 0 32 v0 rfl rfl) t0 l0
  have l1 : ∀ x ∈ p1, x.block < W.heap.size := fun x hx => hW'.lt x (by simp [hx])
  obtain ⟨x1, rfl, b1⟩ := arg_u8 (hval 1 5 v1 rfl rfl) t1
  refine (walk P0 N0 T0 Ac0 Ad0 At0 cc0 cd0 ct0 co0 ds0 ts0 rd0 Am0 cm0 M0 Aa0 ca0 all0 x1 b0 e0 f0 g0 h0 b1 W r0).mono fun e W' ⟨he, hb⟩ => ?_
  subst he
  exact ⟨_, rfl, post_of_below (pa := p0 ++ p1) (pv := []) hW' (fun _ _ _ => (trodAll_cons_mk (shut_bool Try.underlying4 _) trodAll_mk0)) (fun sp hsp => trodAll_mk2 (stay_ask13 t0 hb l0 sp (fun x hx => hsp x (by simp [hx]))) (stay_u8 t1 hb l1 sp (fun x hx => hsp x (by simp [hx])))) (fun _ _ => rfl) (by simp)
    hb (ok_one (by kernel_rfl) rfl (okWide_bool_mk Try.underlying4 _))⟩

theorem over : Rows.adversaryOrderRow.holds Try.pinned (OpenSpec.ofChange Rows.adversaryOrderSpec) :=
  OpenClaim.holds_of_wide 9 Try.f9 rfl rfl rfl rfl rfl rfl rfl ⟨rfl, rfl, rfl, rfl, rfl⟩ rfl rfl rfl rfl rfl (by kernel_rfl) Try.func9 (by kernel_rfl)
    (of_decide_eq_true (by kernel_rfl)) (by unfold Func.isWrapper; first | (rw [if_pos (by decide +kernel)]; kernel_rfl) | (rw [if_neg (by decide +kernel)]; exact ⟨rfl, rfl⟩))
    (fun os started H enc _ => lifted os started H enc)

theorem proved : Rows.AdversaryOrderSaid := over
end Go.Proofs.Ytbhphamfkhccpaa.adversaryOrder
