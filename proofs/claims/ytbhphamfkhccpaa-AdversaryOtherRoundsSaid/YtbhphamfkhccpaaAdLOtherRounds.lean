/- Deviations of other rounds have no effect; without deviations all messages are unchanged. No conditions. -/
import Derived.Test.YtbhphamfkhccpaaAdSub
import Derived.Test.YtbhphamfkhccpaaAdOpn
import Derived.Test.YtbhphamfkhccpaaAdWk
import Derived.Test.YtbhphamfkhccpaaFrame
namespace Go.Proofs.Ytbhphamfkhccpaa.adversaryOtherRounds
set_option maxRecDepth 100000
open Go.ChangeShapes Go.WideShapes Go.ChangeAt Go.RowKit PolyMath FieldMath PartyMath

set_option maxHeartbeats 8000000 in
theorem walk (P N T : Int) (Ac Ad At : Option Addr) (cc cd ct : Nat) (co : List Int) (ds : List Dv) (ts : List (List Int)) (r : Int) (Am : Option Addr) (cm : Nat) (M : List (List (List Int))) (Aa : Option Addr) (ca : Nat) (all : List (List Int)) (wP : Wd P) (_hwr : Wi r) (hF : FitA N T co ds ts M all) (hk : ∀ d ∈ ds, Wd d.k) (hw : (∀ R ∈ M, ∀ l ∈ R, Words l) ∧ ∀ l ∈ all, Words l) (w : World) (hL : LieA w Ac Ad At cc cd ct co ds ts Am cm M Aa ca all) :
    Calls Try.prog 6 #[.agg #[.int .u64 P, .int .i64 N, .int .i64 T, .slice Ac co.length cc, .slice Ad ds.length cd, .slice At ts.length ct, .int .i64 r, .slice Am M.length cm, .slice Aa all.length ca]] w fun e w' => e = .returned (.bool true) ∧ Below w.heap.size w w' := by
  have hX1 := Lib.hid (Ax.made w P N T (.slice Ac co.length cc) (.slice Ad ds.length cd) (.slice At ts.length ct) r (.slice Am M.length cm) (.slice Aa all.length ca))
  have hB1 := Lib.hid ((Below.refl _ w).alloc (Nat.le_refl _) (.cells #[.int .u64 P, .int .i64 N, .int .i64 T, .slice Ac co.length cc, .slice Ad ds.length cd, .slice At ts.length ct, .int .i64 r, .slice Am M.length cm, .slice Aa all.length ca] 32))
  have hL1 := hL.next hB1.out
  have hmay := fun W hW => may_any P N T wP Ac Ad At cc cd ct co ds ts r Am cm M Aa ca all hF W hW
  cases hq : mayB P N T co ds ts M all with
  | false =>
    rw [hq] at hmay
    go_enter Try.func6, Try.ntmps6
    go_wp2_with fail
    refine (hmay _ hL1).mono ?_; rintro e w1 ⟨rfl, hb⟩
    go_wp2_with fail
    refine (awake_any _).mono ?_; rintro e w2 ⟨rfl, hb2⟩
    go_wp2_with fail
    go_ret
    exact ⟨rfl, hB1.out.trans ((hb.trans (hb2.mono hb.size)).mono hB1.out.size)⟩
  | true =>
    rw [hq] at hmay
    obtain ⟨N, T, rfl, rfl, hO, hmN, hrN, haN, hf2, hf1, h30⟩ := may_good hq hk hw
    have hN13 := hO.coal.n13
    have hN4 := hO.coal.n4
    have hp := hO.coal.ok
    have hpb := hp.bd
    have hp0 : 0 < P := by omega
    rw [hmN, haN] at hX1 hB1 hL1 hmay ⊢
    have HmN := Lib.hid hmN
    have HrN := Lib.hid hrN
    have HaN := Lib.hid haN
    have HOK := Lib.hid hO
    clear hF hk hw hq hmN hrN haN hL
    go_enter Try.func6, Try.ntmps6
    go_wp2_with fail
    refine (hmay _ hL1).mono ?_; rintro e w1 ⟨rfl, hb⟩
    have hX2 := Lib.hid (hX1.out.next hb)
    have hB2 := Lib.hid (hB1.out.trans (hb.mono hB1.out.size))
    have hL2 := hL1.next hb
    have hc2 := hL2.sc.co
    have hd2 := hL2.sc.ds
    have hm2 := hL2.ms.s2 HmN.out HrN.out
    have ha2 := Sf.of_sll hL2.al HaN.out
    clear hb hX1 hB1 hL1 hL2 hmay
    obtain ⟨c0, c1, c2, c3, c4, c5, c6, c7, c8, hlt⟩ := id hX2.out
    have hXN := hX2
    clear hX2
    go_wp2
    have hR1 := (Rw.made w1 P N T (.slice Ac co.length cc) (.slice none 0 0) (.slice At ts.length ct))
    have hR2 := hR1.next ((Below.refl _ (w1.alloc (.cells #[.int .u64 P, .int .i64 N, .int .i64 T, .slice Ac co.length cc, .slice none 0 0, .slice At ts.length ct] 29))).alloc (Nat.le_refl _) (.cells #[.int .u64 P, .int .i64 N, .int .i64 T, .slice Ac co.length cc, .slice none 0 0, .slice At ts.length ct] 29)) hR1.lt
    have hR3 := Rw.made (w1.alloc (.cells #[.int .u64 P, .int .i64 N, .int .i64 T, .slice Ac co.length cc, .slice none 0 0, .slice At ts.length ct] 29)) P N T (.slice Ac co.length cc) (.slice none 0 0) (.slice At ts.length ct)
    have hBw := Lib.hid (bnew (bnew (Below.refl w1.heap.size w1) (.cells #[.int .u64 P, .int .i64 N, .int .i64 T, .slice Ac co.length cc, .slice none 0 0, .slice At ts.length ct] 29) (Nat.le_refl _)) (.cells #[.int .u64 P, .int .i64 N, .int .i64 T, .slice Ac co.length cc, .slice none 0 0, .slice At ts.length ct] 29) (Nat.le_refl _))
    rw [World.size_alloc] at hR3
    have hR2H := Lib.hid hR2
    have hR3H := Lib.hid hR3
    clear hR1 hR2 hR3 c0 c1 c2 c3 c4 c5 c6 c7 c8
    generalize (w1.alloc (.cells #[.int .u64 P, .int .i64 N, .int .i64 T, .slice Ac co.length cc, .slice none 0 0, .slice At ts.length ct] 29)).alloc (.cells #[.int .u64 P, .int .i64 N, .int .i64 T, .slice Ac co.length cc, .slice none 0 0, .slice At ts.length ct] 29) = W2 at *
    go_loopw [5] (fun q wr => ∃ (k : Nat) (v : Value), k ≤ ds.length ∧ q = .int .i64 k ∧ Below w1.heap.size w1 wr ∧ Hid (Rw wr (w1.heap.size) P N T (.slice Ac co.length cc) (v) (.slice At ts.length ct)) ∧ Hid (Rw wr (w1.heap.size + 1) P N T (.slice Ac co.length cc) (.slice none 0 0) (.slice At ts.length ct)) ∧ Hid (OD wr (w1.heap.size + 2) v ((ds.take k).filter (fun d : Dv => decide (d.rnd = r))).length ((ds.take k).filter (fun d : Dv => decide (d.rnd = r)))) ∧ w1.heap.size + 2 ≤ wr.heap.size) (fun q _ => ds.length - (intOf q).toNat)
    case atStart => exact ⟨0, _, Nat.zero_le _, rfl, hBw.out, hR2H, hR3H, Lib.hid (OD.none _ _), hR3H.out.lt⟩
    case round =>
      obtain ⟨k, v, hk, rfl, hB, hRv, hRn, hO, hsz⟩ := hrel
      obtain ⟨c0, c1, c2, c3, c4, c5, c6, c7, c8, hltx⟩ := id (hXN.out.next hB)
      by_cases hlt : k < ds.length
      · obtain ⟨b, off, d, hA, hbl, hdd, d0, d1, d2, d3, d4, d5, d6, d7⟩ := hd2.at_ hlt
        subst hA
        have hkN : (k : Int) < ds.length := by omega
        have e0 := (hB.cell (p := ⟨b, off + k * 8, none⟩) hbl).trans d0
        have hYES : decide (d.rnd = r) = true → Hid ((ds.take (k + 1)).filter (fun d : Dv => decide (d.rnd = r)) = (ds.take k).filter (fun d : Dv => decide (d.rnd = r)) ++ [d]) := fun h => Lib.hid (filter_yes hdd h)
        have hNO : decide (d.rnd = r) = false → Hid ((ds.take (k + 1)).filter (fun d : Dv => decide (d.rnd = r)) = (ds.take k).filter (fun d : Dv => decide (d.rnd = r))) := fun h => Lib.hid (filter_no hdd h)
        have hflen : ((ds.take k).filter (fun d : Dv => decide (d.rnd = r))).length ≤ k := by have := List.length_filter_le (fun d : Dv => decide (d.rnd = r)) (ds.take k); rw [List.length_take] at this; omega
        clear hdd
        go_wp2
        go_quiet (fail)
        have hQb := below_drewN (Below.refl wr.heap.size wr) nq
        have hBq := hB.trans (hQb.mono hB.size)
        have hRvq := Lib.hid (hRv.out.next hQb hRv.out.lt)
        have hRnq := Lib.hid (hRn.out.next hQb hRn.out.lt)
        have hOq := Lib.hid (hO.out.next hQb)
        have hsq := Nat.le_trans hsz hQb.size
        clear hQb hB hRv hRn hO hsz c0 c1 c2 c3 c4 c5 c6 c7 c8 hltx e0
        generalize wr.drewN nq = wq at *
        by_cases h1 : d.rnd = r
        · have h1' : (d.rnd == r) = true := beq_iff_eq.2 h1
          have hN := hYES (decide_eq_true h1)
          clear h1 hYES hNO
          generalize (ds.take k).filter (fun d : Dv => decide (d.rnd = r)) = F at *
          go_wp2
          have hBd := Lib.hid hBq.drew
          have hXd := hXN.out.next hBd.out
          have hRd := hRvq.out.next (Below.refl wq.heap.size wq).drew hRvq.out.lt
          have hOd := hOq.out.drew
          have hsd : wq.drew.heap.size = wq.heap.size := rfl
          have E0 := (hBd.out.cell (p := ⟨b, off + k * 8, none⟩) hbl).trans d0
          have E1 := (hBd.out.cell (p := ⟨b, off + k * 8 + 1, none⟩) hbl).trans d1
          have E2 := (hBd.out.cell (p := ⟨b, off + k * 8 + 2, none⟩) hbl).trans d2
          have E3 := (hBd.out.cell (p := ⟨b, off + k * 8 + 3, none⟩) hbl).trans d3
          have E4 := (hBd.out.cell (p := ⟨b, off + k * 8 + 4, none⟩) hbl).trans d4
          have E5 := (hBd.out.cell (p := ⟨b, off + k * 8 + 5, none⟩) hbl).trans d5
          have E6 := (hBd.out.cell (p := ⟨b, off + k * 8 + 6, none⟩) hbl).trans d6
          have E7 := (hBd.out.cell (p := ⟨b, off + k * 8 + 7, none⟩) hbl).trans d7
          clear d0 d1 d2 d3 d4 d5 d6 d7
          have hF0 : Below (w1.heap.size + 2) wq.drew wq.drew := Below.refl _ _
          refine wp_region_hold 8 2 (Below (w1.heap.size + 2) wq.drew) (by kernel_rfl) (by kernel_rfl) hF0 (fun hInh => ?_)
          simp only [List.take_succ_cons, List.take_zero, List.drop_succ_cons, List.drop_zero]
          have C4 := fun b : Hold (Below (w1.heap.size + 2) wq.drew) => (b.ok.cell (p := ⟨w.heap.size, 4, none⟩) (by simp only; omega)).trans hXd.c4
          have Z4 := fun b : Hold (Below (w1.heap.size + 2) wq.drew) => (b.ok.cell (p := ⟨w1.heap.size, 4, none⟩) (by simp only; omega)).trans hRd.sx.c4
          have E0 := fun b' : Hold (Below (w1.heap.size + 2) wq.drew) => (b'.ok.cell (p := ⟨b, off + k * 8, none⟩) (by simp only; omega)).trans E0
          have E1 := fun b' : Hold (Below (w1.heap.size + 2) wq.drew) => (b'.ok.cell (p := ⟨b, off + k * 8 + 1, none⟩) (by simp only; omega)).trans E1
          have E2 := fun b' : Hold (Below (w1.heap.size + 2) wq.drew) => (b'.ok.cell (p := ⟨b, off + k * 8 + 2, none⟩) (by simp only; omega)).trans E2
          have E3 := fun b' : Hold (Below (w1.heap.size + 2) wq.drew) => (b'.ok.cell (p := ⟨b, off + k * 8 + 3, none⟩) (by simp only; omega)).trans E3
          have E4 := fun b' : Hold (Below (w1.heap.size + 2) wq.drew) => (b'.ok.cell (p := ⟨b, off + k * 8 + 4, none⟩) (by simp only; omega)).trans E4
          have E5 := fun b' : Hold (Below (w1.heap.size + 2) wq.drew) => (b'.ok.cell (p := ⟨b, off + k * 8 + 5, none⟩) (by simp only; omega)).trans E5
          have E6 := fun b' : Hold (Below (w1.heap.size + 2) wq.drew) => (b'.ok.cell (p := ⟨b, off + k * 8 + 6, none⟩) (by simp only; omega)).trans E6
          have E7 := fun b' : Hold (Below (w1.heap.size + 2) wq.drew) => (b'.ok.cell (p := ⟨b, off + k * 8 + 7, none⟩) (by simp only; omega)).trans E7
          obtain ⟨Av, kv, rfl, _⟩ := hOd.form
          repeat (go_big_quiet_step (fail))
          refine wpQuiet_nil ?_
          clear C4 Z4 E0 E1 E2 E3 E4 E5 E6 E7
          refine wpListS_step (by rfl) (fun K hK => ?_)
          go_simp
          have hB4 : Below (w1.heap.size + 2) wq.drew (wq.drew.alloc (.cells #[.int .i64 d.rnd, .int .i64 d.frm, .int .i64 d.to, .int .i64 d.at_, .int .i64 d.kind, .int .u64 d.k, .int .i64 d.of_, .int .i64 d.src] 41)) := bnew hF0 (.cells #[.int .i64 d.rnd, .int .i64 d.frm, .int .i64 d.to, .int .i64 d.at_, .int .i64 d.kind, .int .u64 d.k, .int .i64 d.of_, .int .i64 d.src] 41) (by omega)
          refine hK _ _ hB4 (fun _ => ?_)
          clear hK K
          have hO4 := hOd.push (.cells #[.int .i64 d.rnd, .int .i64 d.frm, .int .i64 d.to, .int .i64 d.at_, .int .i64 d.kind, .int .u64 d.k, .int .i64 d.of_, .int .i64 d.src] 41)
          have s4 := Sd.one wq.drew d
          have hz4 := hB4.size
          have hzx : w1.heap.size + 2 ≤ (wq.drew.alloc (.cells #[.int .i64 d.rnd, .int .i64 d.frm, .int .i64 d.to, .int .i64 d.at_, .int .i64 d.kind, .int .u64 d.k, .int .i64 d.of_, .int .i64 d.src] 41)).heap.size := by omega
          have hlx : F.length + 1 ≤ 1000000 := by first | omega | (rw [List.length_append]; omega)
          refine wpListS_step (by rfl) (fun K hK => ?_)
          refine ifp (step_append_dv (E := False) (ops := #[]) (by rfl) _ _ (by rfl) (w1.heap.size + 2) _ F.length 1 F [d] (by rfl) hO4 _ 1 (by rfl) rfl s4 hlx hzx ?_) (by rfl)
          intro v' w5 hO5 hg5
          obtain ⟨A6, m6, k6, rfl⟩ : ∃ A m c, v' = .slice A m c := by obtain ⟨A, c, h, _⟩ := hO5.form; exact ⟨A, _, c, h⟩
          have hB5 : Below (w1.heap.size + 2) wq.drew w5 := hB4.grown hg5 (by omega) (fun q e => (hO4.lt q e).1)
          refine hK _ _ hB5 (fun _ => ?_)
          clear hK K
          refine wpListS_end ?_
          have hR5 := hRd.next hB5 (by omega)
          have hN5 := (hRnq.out.next (Below.refl wq.heap.size wq).drew hRnq.out.lt).next hB5 (by omega)
          have hfz5 := hR5.frozen 4
          have hc5 := hR5.sx.c4
          have hz5 := hB5.size
          go_wp2
          refine NoPanic.normal ?_
          go_wp2
          go_roundw
          case rel => exact ⟨k + 1, (.slice A6 m6 k6), by omega, by simp, put_below (hBd.out.trans (hB5.mono (by omega))) (Nat.le_refl _) (by omega) 4 (.slice A6 m6 k6), Lib.hid (hR5.put (.slice A6 m6 k6)), Lib.hid (hN5.far (.slice A6 m6 k6) (by omega)), by rw [hN.out]; simpa using Lib.hid (hO5.aside (by omega) 4 (.slice A6 m6 k6)), by rw [World.size_setCell]; omega⟩
          case measure => simp [intOf]; omega
        · have hN := hNO (decide_eq_false h1)
          have h1' : (d.rnd == r) = false := beq_eq_false_iff_ne.2 h1
          clear h1 hYES hNO
          go_wp2
          go_roundw
          case rel => exact ⟨k + 1, v, by omega, by simp, hBq, hRvq, hRnq, by rw [hN.out]; exact hOq, hsq⟩
          case measure => simp [intOf]; omega
      · obtain rfl : k = ds.length := by omega
        rw [List.take_length] at hO
        obtain ⟨Av, kv, rfl, hv5⟩ := hO.out.form
        have hXr := Lib.hid (hXN.out.next hB)
        have hSv := Lib.hid hRv.out.sx
        have hSn := Lib.hid hRn.out.sx
        have hc5 := hc2.next hB
        have hd5 := hd2.next hB
        have hm5 := hm2.next hB
        have ha5 := ha2.next hB
        have hBr := Lib.hid (hB2.out.trans (hB.mono hB2.out.size))
        have g1 := fun W h1 h2 h3 => ms_any P N T Ac Ad cc cd co ds (.slice At ts.length ct) r HOK.out Am cm (rAt2 M) hf2 W h1 h2 h3
        have g2 := fun W h1 h2 h3 => ms_any P N T Ac Av cc kv co (ds.filter (fun d : Dv => decide (d.rnd = r))) (.slice At ts.length ct) r (HOK.out.filter (fun d : Dv => decide (d.rnd = r))) Am cm (rAt2 M) hf2 W h1 h2 h3
        have g3 := fun W h1 h2 h3 => ms_any P N T Ac none cc 0 co [] (.slice At ts.length ct) r HOK.out.none Am cm (rAt2 M) hf2 W h1 h2 h3
        have b1 := fun W h1 h2 h3 => bc_any P N T Ac Ad cc cd co ds (.slice At ts.length ct) r HOK.out Aa ca (rAt all) hf1 W h1 h2 h3
        have b2 := fun W h1 h2 h3 => bc_any P N T Ac Av cc kv co (ds.filter (fun d : Dv => decide (d.rnd = r))) (.slice At ts.length ct) r (HOK.out.filter (fun d : Dv => decide (d.rnd = r))) Aa ca (rAt all) hf1 W h1 h2 h3
        have b3 := fun W h1 h2 h3 => bc_any P N T Ac none cc 0 co [] (.slice At ts.length ct) r HOK.out.none Aa ca (rAt all) hf1 W h1 h2 h3
        rw [msF_round] at g2
        rw [bcF_round] at b2
        rw [msF_nil] at g3
        rw [bcF_nil] at b3
        have t1 := fun A A' c c' W h1 h2 => sameAll_yes A A' c c' N (msF P co N r ds (rAt2 M)) (msF P co N r ds (rAt2 M)) hN13 (fun _ _ _ _ => rfl) (fun i j _ _ => ms_short hp0 hf2 i j) W h1 h2
        have t2 := fun A A' c c' W h1 h2 => same_yes A A' c c' N (bcF P co r ds (rAt all)) (bcF P co r ds (rAt all)) hN13 (fun _ _ => rfl) (fun i _ => bc_short hp0 hf1 i) W h1 h2
        have t3 := fun A A' c c' W h1 h2 => sameAll_yes A A' c c' N (rAt2 M) (rAt2 M) hN13 (fun _ _ _ _ => rfl) (fun i j _ _ => (hf2 i j).2) W h1 h2
        have t4 := fun A A' c c' W h1 h2 => same_yes A A' c c' N (rAt all) (rAt all) hN13 (fun _ _ => rfl) (fun i _ => (hf1 i).2) W h1 h2
        simp only [List.length_nil] at g3 b3
        unfold sv at g1 g2 g3 b1 b2 b3
        generalize msF P co N r ds (rAt2 M) = RM at *
        generalize bcF P co r ds (rAt all) = RB at *
        generalize rAt2 M = FM at *
        generalize rAt all = FB at *
        generalize ds.filter (fun d : Dv => decide (d.rnd = r)) = F at *
        generalize hnF : F.length = nF at *
        obtain ⟨p0, p1, p2, p3, p4, p5, p6, p7, p8, _⟩ := id hXr.out
        obtain ⟨x0, x1, x2, x3, x4, x5, _⟩ := id hSv.out
        obtain ⟨y0, y1, y2, y3, y4, y5, _⟩ := id hSn.out
        clear hXN hB hRv hRn hO hB2 hc2 hd2 hm2 ha2
        go_wp2
        go_region_held3 (fun w' => w'.cell? ⟨w.heap.size, 0, none⟩ = some (.int .u64 P) ∧ w'.cell? ⟨w.heap.size, 1, none⟩ = some (.int .i64 N) ∧ w'.cell? ⟨w.heap.size, 2, none⟩ = some (.int .i64 T) ∧ w'.cell? ⟨w.heap.size, 3, none⟩ = some (.slice Ac co.length cc) ∧ w'.cell? ⟨w.heap.size, 4, none⟩ = some (.slice Ad ds.length cd) ∧ w'.cell? ⟨w.heap.size, 5, none⟩ = some (.slice At ts.length ct) ∧ w'.cell? ⟨w.heap.size, 6, none⟩ = some (.int .i64 r) ∧ w'.cell? ⟨w.heap.size, 7, none⟩ = some (.slice Am N cm) ∧ w'.cell? ⟨w.heap.size, 8, none⟩ = some (.slice Aa N ca) ∧ w'.cell? ⟨w1.heap.size, 0, none⟩ = some (.int .u64 P) ∧ w'.cell? ⟨w1.heap.size, 1, none⟩ = some (.int .i64 N) ∧ w'.cell? ⟨w1.heap.size, 2, none⟩ = some (.int .i64 T) ∧ w'.cell? ⟨w1.heap.size, 3, none⟩ = some (.slice Ac co.length cc) ∧ w'.cell? ⟨w1.heap.size, 4, none⟩ = some (.slice Av nF kv) ∧ w'.cell? ⟨w1.heap.size, 5, none⟩ = some (.slice At ts.length ct) ∧ w'.cell? ⟨w1.heap.size + 1, 0, none⟩ = some (.int .u64 P) ∧ w'.cell? ⟨w1.heap.size + 1, 1, none⟩ = some (.int .i64 N) ∧ w'.cell? ⟨w1.heap.size + 1, 2, none⟩ = some (.int .i64 T) ∧ w'.cell? ⟨w1.heap.size + 1, 3, none⟩ = some (.slice Ac co.length cc) ∧ w'.cell? ⟨w1.heap.size + 1, 4, none⟩ = some (.slice none 0 0) ∧ w'.cell? ⟨w1.heap.size + 1, 5, none⟩ = some (.slice At ts.length ct))
          (refine ⟨?_, ?_, ?_, ?_, ?_, ?_, ?_, ?_, ?_, ?_, ?_, ?_, ?_, ?_, ?_, ?_, ?_, ?_, ?_, ?_, ?_⟩ <;> first | assumption | go_simp)
          (first
            | (go_at_call 11; refine (awake_any _).mono ?_; rintro e w3 ⟨rfl, hb3⟩; have q3 := Lib.hid ((Below.refl wr.heap.size wr).drew.trans hb3); clear p0 p1 p2 p3 p4 p5 p6 p7 p8 x0 x1 x2 x3 x4 x5 y0 y1 y2 y3 y4 y5; obtain ⟨p0, p1, p2, p3, p4, p5, p6, p7, p8, _⟩ := hXr.out.next q3.out; obtain ⟨x0, x1, x2, x3, x4, x5, _⟩ := hSv.out.next q3.out; obtain ⟨y0, y1, y2, y3, y4, y5, _⟩ := hSn.out.next q3.out; clear hb3)
            | (go_at_call 13; with_reducible refine (g1 _ (hc5.next q3.out) (hd5.next q3.out) (hm5.next q3.out)).mono ?_; rintro e w4 ⟨A4, k4, rfl, s4, hb4⟩; have q4 := Lib.hid (q3.out.trans (hb4.mono q3.out.size)); clear p0 p1 p2 p3 p4 p5 p6 p7 p8 x0 x1 x2 x3 x4 x5 y0 y1 y2 y3 y4 y5; obtain ⟨p0, p1, p2, p3, p4, p5, p6, p7, p8, _⟩ := hXr.out.next q4.out; obtain ⟨x0, x1, x2, x3, x4, x5, _⟩ := hSv.out.next q4.out; obtain ⟨y0, y1, y2, y3, y4, y5, _⟩ := hSn.out.next q4.out;  clear hb4)
            | (go_at_call 13; with_reducible refine (g2 _ (hc5.next q4.out) (hv5.next q4.out) (hm5.next q4.out)).mono ?_; rintro e w5 ⟨A5, k5, rfl, s5, hb5⟩; have q5 := Lib.hid (q4.out.trans (hb5.mono q4.out.size)); clear p0 p1 p2 p3 p4 p5 p6 p7 p8 x0 x1 x2 x3 x4 x5 y0 y1 y2 y3 y4 y5; obtain ⟨p0, p1, p2, p3, p4, p5, p6, p7, p8, _⟩ := hXr.out.next q5.out; obtain ⟨x0, x1, x2, x3, x4, x5, _⟩ := hSv.out.next q5.out; obtain ⟨y0, y1, y2, y3, y4, y5, _⟩ := hSn.out.next q5.out; have s45 := s4.next hb5; clear hb5)
            | (go_at_call 12; with_reducible refine (t1 _ _ _ _ _ s45 s5).mono ?_; rintro e w6 ⟨rfl, hb6⟩; have q6 := Lib.hid (q5.out.trans (hb6.mono q5.out.size)); clear p0 p1 p2 p3 p4 p5 p6 p7 p8 x0 x1 x2 x3 x4 x5 y0 y1 y2 y3 y4 y5; obtain ⟨p0, p1, p2, p3, p4, p5, p6, p7, p8, _⟩ := hXr.out.next q6.out; obtain ⟨x0, x1, x2, x3, x4, x5, _⟩ := hSv.out.next q6.out; obtain ⟨y0, y1, y2, y3, y4, y5, _⟩ := hSn.out.next q6.out; clear hb6)
            | (go_at_call 16; with_reducible refine (b1 _ (hc5.next q6.out) (hd5.next q6.out) (ha5.next q6.out)).mono ?_; rintro e w7 ⟨A7, k7, rfl, s7, hb7⟩; have q7 := Lib.hid (q6.out.trans (hb7.mono q6.out.size)); clear p0 p1 p2 p3 p4 p5 p6 p7 p8 x0 x1 x2 x3 x4 x5 y0 y1 y2 y3 y4 y5; obtain ⟨p0, p1, p2, p3, p4, p5, p6, p7, p8, _⟩ := hXr.out.next q7.out; obtain ⟨x0, x1, x2, x3, x4, x5, _⟩ := hSv.out.next q7.out; obtain ⟨y0, y1, y2, y3, y4, y5, _⟩ := hSn.out.next q7.out;  clear hb7)
            | (go_at_call 16; with_reducible refine (b2 _ (hc5.next q7.out) (hv5.next q7.out) (ha5.next q7.out)).mono ?_; rintro e w8 ⟨A8, k8, rfl, s8, hb8⟩; have q8 := Lib.hid (q7.out.trans (hb8.mono q7.out.size)); clear p0 p1 p2 p3 p4 p5 p6 p7 p8 x0 x1 x2 x3 x4 x5 y0 y1 y2 y3 y4 y5; obtain ⟨p0, p1, p2, p3, p4, p5, p6, p7, p8, _⟩ := hXr.out.next q8.out; obtain ⟨x0, x1, x2, x3, x4, x5, _⟩ := hSv.out.next q8.out; obtain ⟨y0, y1, y2, y3, y4, y5, _⟩ := hSn.out.next q8.out; have s78 := s7.next hb8; clear hb8)
            | (go_at_call 15; with_reducible refine (t2 _ _ _ _ _ s78 s8).mono ?_; rintro e w9 ⟨rfl, hb9⟩; have q9 := Lib.hid (q8.out.trans (hb9.mono q8.out.size)); clear p0 p1 p2 p3 p4 p5 p6 p7 p8 x0 x1 x2 x3 x4 x5 y0 y1 y2 y3 y4 y5; obtain ⟨p0, p1, p2, p3, p4, p5, p6, p7, p8, _⟩ := hXr.out.next q9.out; obtain ⟨x0, x1, x2, x3, x4, x5, _⟩ := hSv.out.next q9.out; obtain ⟨y0, y1, y2, y3, y4, y5, _⟩ := hSn.out.next q9.out; clear hb9)
            | (go_at_call 13; with_reducible refine (g3 _ (hc5.next q9.out) (Sd.nothing _) (hm5.next q9.out)).mono ?_; rintro e w10 ⟨A10, k10, rfl, s10, hb10⟩; have q10 := Lib.hid (q9.out.trans (hb10.mono q9.out.size)); clear p0 p1 p2 p3 p4 p5 p6 p7 p8 x0 x1 x2 x3 x4 x5 y0 y1 y2 y3 y4 y5; obtain ⟨p0, p1, p2, p3, p4, p5, p6, p7, p8, _⟩ := hXr.out.next q10.out; obtain ⟨x0, x1, x2, x3, x4, x5, _⟩ := hSv.out.next q10.out; obtain ⟨y0, y1, y2, y3, y4, y5, _⟩ := hSn.out.next q10.out;  clear hb10)
            | (go_at_call 12; with_reducible refine (t3 _ _ _ _ _ s10 (hm5.next q10.out)).mono ?_; rintro e w11 ⟨rfl, hb11⟩; have q11 := Lib.hid (q10.out.trans (hb11.mono q10.out.size)); clear p0 p1 p2 p3 p4 p5 p6 p7 p8 x0 x1 x2 x3 x4 x5 y0 y1 y2 y3 y4 y5; obtain ⟨p0, p1, p2, p3, p4, p5, p6, p7, p8, _⟩ := hXr.out.next q11.out; obtain ⟨x0, x1, x2, x3, x4, x5, _⟩ := hSv.out.next q11.out; obtain ⟨y0, y1, y2, y3, y4, y5, _⟩ := hSn.out.next q11.out; clear hb11)
            | (go_at_call 16; with_reducible refine (b3 _ (hc5.next q11.out) (Sd.nothing _) (ha5.next q11.out)).mono ?_; rintro e w12 ⟨A12, k12, rfl, s12, hb12⟩; have q12 := Lib.hid (q11.out.trans (hb12.mono q11.out.size)); clear p0 p1 p2 p3 p4 p5 p6 p7 p8 x0 x1 x2 x3 x4 x5 y0 y1 y2 y3 y4 y5; obtain ⟨p0, p1, p2, p3, p4, p5, p6, p7, p8, _⟩ := hXr.out.next q12.out; obtain ⟨x0, x1, x2, x3, x4, x5, _⟩ := hSv.out.next q12.out; obtain ⟨y0, y1, y2, y3, y4, y5, _⟩ := hSn.out.next q12.out;  clear hb12)
            | (go_at_call 15; with_reducible refine (t4 _ _ _ _ _ s12 (ha5.next q12.out)).mono ?_; rintro e w13 ⟨rfl, hb13⟩; have q13 := Lib.hid (q12.out.trans (hb13.mono q12.out.size)); clear p0 p1 p2 p3 p4 p5 p6 p7 p8 x0 x1 x2 x3 x4 x5 y0 y1 y2 y3 y4 y5; obtain ⟨p0, p1, p2, p3, p4, p5, p6, p7, p8, _⟩ := hXr.out.next q13.out; obtain ⟨x0, x1, x2, x3, x4, x5, _⟩ := hSv.out.next q13.out; obtain ⟨y0, y1, y2, y3, y4, y5, _⟩ := hSn.out.next q13.out; clear hb13))
        go_wp2
        go_ret
        exact ⟨rfl, hBr.out.trans (q13.out.mono hBr.out.size)⟩

theorem lifted (os : Os) (started : os.Started) (H : Type) (enc : TypeId × Value → H) :
    ReturnsInHanded {} Try.checked os 6 .any (Rows.adversaryOtherRoundsSpec.pre6 enc Try.prog Try.f6 Rows.adversaryOtherRoundsRow.domain false) (Rows.adversaryOtherRoundsSpec.post enc Try.prog Try.f6 false true false false) := by
  refine returnsInHanded_of_change (C := Try.checked) own started (by kernel_rfl) Try.func6
    (ChangeSpec.witness6 (enc := enc) (C := Try.checked) false ⟨#[], #[.agg #[.int .u64 0, .int .i64 0, .int .i64 0, .slice none 0 0, .slice none 0 0, .slice none 0 0, .int .i64 0, .slice none 0 0, .slice none 0 0]], []⟩ 8 (by kernel_rfl) (by kernel_rfl) (by kernel_rfl) (by kernel_rfl)) ?_
  intro W base args ds gs before hval0 hW hcnd _
  have hval : ∀ (j : Nat) t v, Try.f6.params[j]? = some t → args[j]? = some v → Value.okWide Try.prog W .any base t v := hval0
  have hW' := hW
  obtain ⟨p, q, hA0, hV, rfl, hfz, hnd⟩ := hW
  have hA : DataW.TrodAll enc Try.prog W 0 (fun _ => true) true Try.f6.params.toList args.toList ds p := hA0
  rw [Try.params6] at hA hval
  obtain ⟨v0, d0, rfl, rfl, t0⟩ := trodAll_one hA
  obtain ⟨rfl, rfl⟩ := trodVars_none hV
  clear hA0 hval0
  simp only [List.append_nil] at hW'
  have l0 : ∀ x ∈ p, x.block < W.heap.size := fun x hx => hW'.lt x (by simp [hx])
  obtain ⟨P0, N0, T0, Ac0, Ad0, At0, cc0, cd0, ct0, co0, ds0, ts0, rd0, Am0, cm0, M0, Aa0, ca0, all0, rfl, b0, e0, f0, g0, h0, r0⟩ := arg_ask13 (hval 0 32 v0 rfl rfl) t0 l0
  refine (walk P0 N0 T0 Ac0 Ad0 At0 cc0 cd0 ct0 co0 ds0 ts0 rd0 Am0 cm0 M0 Aa0 ca0 all0 b0 e0 f0 g0 h0 W r0).mono fun e W' ⟨he, hb⟩ => ?_
  subst he
  exact ⟨_, rfl, post_of_below (pa := p) (pv := []) hW' (fun _ _ _ => (trodAll_cons_mk (shut_bool Try.underlying4 _) trodAll_mk0)) (fun sp hsp => trodAll_mk1 (stay_ask13 t0 hb l0 sp (fun x hx => hsp x (by simp [hx])))) (fun _ _ => rfl) (by simp)
    hb (ok_one (by kernel_rfl) rfl (okWide_bool_mk Try.underlying4 _))⟩

theorem over : Rows.adversaryOtherRoundsRow.holds Try.pinned (OpenSpec.ofChange Rows.adversaryOtherRoundsSpec) :=
  OpenClaim.holds_of_wide 6 Try.f6 rfl rfl rfl rfl rfl rfl rfl ⟨rfl, rfl, rfl, rfl, rfl⟩ rfl rfl rfl rfl rfl (by kernel_rfl) Try.func6 (by kernel_rfl)
    (of_decide_eq_true (by kernel_rfl)) (by unfold Func.isWrapper; first | (rw [if_pos (by decide +kernel)]; kernel_rfl) | (rw [if_neg (by decide +kernel)]; exact ⟨rfl, rfl⟩))
    (fun os started H enc _ => lifted os started H enc)

theorem proved : Rows.AdversaryOtherRoundsSaid := over
end Go.Proofs.Ytbhphamfkhccpaa.adversaryOtherRounds
