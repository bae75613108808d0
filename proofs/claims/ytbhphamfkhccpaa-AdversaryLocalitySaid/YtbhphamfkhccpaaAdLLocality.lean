/- The messages of corrupted parties do not depend on the messages that honest parties send to each other. No conditions. -/
import Derived.Test.YtbhphamfkhccpaaAdSub
import Derived.Test.YtbhphamfkhccpaaAdOpn
import Derived.Test.YtbhphamfkhccpaaAdMix
import Derived.Test.YtbhphamfkhccpaaAdWk
import Derived.Test.YtbhphamfkhccpaaFrame
namespace Go.Proofs.Ytbhphamfkhccpaa.adversaryLocality
set_option maxRecDepth 100000
open Go.ChangeShapes Go.WideShapes Go.ChangeAt Go.RowKit PolyMath FieldMath PartyMath

set_option maxHeartbeats 8000000 in
theorem walk (P N T : Int) (Ac Ad At : Option Addr) (cc cd ct : Nat) (co : List Int) (ds : List Dv) (ts : List (List Int)) (r : Int) (Am : Option Addr) (cm : Nat) (M : List (List (List Int))) (Aa : Option Addr) (ca : Nat) (all : List (List Int)) (Ao : Option Addr) (cO : Nat) (O : List (List (List Int))) (wP : Wd P) (_hwr : Wi r) (hF : FitA N T co ds ts M all) (hk : ∀ d ∈ ds, Wd d.k) (hw : (∀ R ∈ M, ∀ l ∈ R, Words l) ∧ ∀ l ∈ all, Words l) (wo : ∀ R ∈ O, R.length ≤ 9223372036854775807 ∧ ∀ r ∈ R, Words r) (lo : O.length ≤ 9223372036854775807) (w : World) (hL : LieA w Ac Ad At cc cd ct co ds ts Am cm M Aa ca all) (hOo : Sm w Ao cO O) :
    Calls Try.prog 7 #[.agg #[.int .u64 P, .int .i64 N, .int .i64 T, .slice Ac co.length cc, .slice Ad ds.length cd, .slice At ts.length ct, .int .i64 r, .slice Am M.length cm, .slice Aa all.length ca], .slice Ao O.length cO] w fun e w' => e = .returned (.bool true) ∧ Below w.heap.size w w' := by
  have hX1 := Lib.hid (Ax.made w P N T (.slice Ac co.length cc) (.slice Ad ds.length cd) (.slice At ts.length ct) r (.slice Am M.length cm) (.slice Aa all.length ca))
  have hB1 := Lib.hid ((Below.refl _ w).alloc (Nat.le_refl _) (.cells #[.int .u64 P, .int .i64 N, .int .i64 T, .slice Ac co.length cc, .slice Ad ds.length cd, .slice At ts.length ct, .int .i64 r, .slice Am M.length cm, .slice Aa all.length ca] 32))
  have hL1 := hL.next hB1.out
  have hmay := fun W hW => may_any P N T wP Ac Ad At cc cd ct co ds ts r Am cm M Aa ca all hF W hW
  have hmayO := fun W hW => may_any P N T wP Ac Ad At cc cd ct co ds ts 0 Ao cO O Aa ca all ⟨hF.sc, lo, fun R hR => (wo R hR).1, hF.la⟩ W hW
  have hL1o := (show LieA w Ac Ad At cc cd ct co ds ts Ao cO O Aa ca all from ⟨hL.sc, hOo, hL.al⟩).next hB1.out
  cases hq : mayB P N T co ds ts M all with
  | false =>
    rw [hq] at hmay
    go_enter Try.func7, Try.ntmps7
    go_wp2_with fail
    refine (hmay _ hL1).mono ?_; rintro e w1 ⟨rfl, hb⟩
    go_wp2_with fail
    refine (awake_any _).mono ?_; rintro e w2 ⟨rfl, hb2⟩
    go_wp2_with fail
    go_ret
    exact ⟨rfl, hB1.out.trans ((hb.trans (hb2.mono hb.size)).mono hB1.out.size)⟩
  | true =>
    cases hq2 : mayB P N T co ds ts O all with
    | false =>
      rw [hq] at hmay
      rw [hq2] at hmayO
      go_enter Try.func7, Try.ntmps7
      go_wp2_with fail
      refine (hmay _ hL1).mono ?_; rintro e w1 ⟨rfl, hb⟩
      have hX2 := Lib.hid (hX1.out.next hb)
      obtain ⟨c0, c1, c2, c3, c4, c5, c6, c7, c8, hlt⟩ := id hX2.out
      have hLo2 := hL1o.next hb
      go_wp2_with fail
      refine (hmayO _ hLo2).mono ?_; rintro e w2 ⟨rfl, hb2⟩
      go_wp2_with fail
      refine (awake_any _).mono ?_; rintro e w3 ⟨rfl, hb3⟩
      go_wp2_with fail
      go_ret
      exact ⟨rfl, hB1.out.trans ((hb.trans ((hb2.trans (hb3.mono hb2.size)).mono hb.size)).mono hB1.out.size)⟩
    | true =>
      rw [hq2] at hmayO
      obtain ⟨N0, T0, hN0, hT0, _, hmO, hrO, _, hfO, _, _⟩ := may_good hq2 hk ⟨fun R hR l hl => (wo R hR).2 l hl, hw.2⟩
      clear hq2 wo lo
      rw [hq] at hmay
      obtain ⟨N, T, rfl, rfl, hO, hmN, hrN, haN, hf2, hf1, h30⟩ := may_good hq hk hw
      have hN13 := hO.coal.n13
      have hN4 := hO.coal.n4
      have hp := hO.coal.ok
      have hpb := hp.bd
      have hp0 : 0 < P := by omega
      rw [hmN, haN] at hX1 hB1 hL1 hL1o hmay ⊢
      have HmN := Lib.hid hmN
      have HrN := Lib.hid hrN
      have HaN := Lib.hid haN
      have haNx := haN
      have HOK := Lib.hid hO
      clear hF hk hw hq hmN hrN haN hL
      obtain rfl : N0 = N := by omega
      rw [haNx, hmO] at hmayO
      rw [hmO]
      have HmO := Lib.hid hmO
      have HrO := Lib.hid hrO
      clear hN0 hT0 hmO hrO
      go_enter Try.func7, Try.ntmps7
      go_wp2_with fail
      refine (hmay _ hL1).mono ?_; rintro e w1 ⟨rfl, hb⟩
      have hX2 := Lib.hid (hX1.out.next hb)
      obtain ⟨c0, c1, c2, c3, c4, c5, c6, c7, c8, hlt⟩ := id hX2.out
      have hLo2 := hL1o.next hb
      go_wp2_with fail
      refine (hmayO _ hLo2).mono ?_; rintro e w2 ⟨rfl, hb2⟩
      have hb3 := hb.trans (hb2.mono hb.size)
      have hLo3 := hLo2.next hb2
      clear hb hb2 hX2 hLo2 hL1o hmayO c0 c1 c2 c3 c4 c5 c6 c7 c8 hlt
      have hb := hb3
      clear hb3
      have hX2 := Lib.hid (hX1.out.next hb)
      have hB2 := Lib.hid (hB1.out.trans (hb.mono hB1.out.size))
      have hL2 := hL1.next hb
      have hc2 := hL2.sc.co
      have hd2 := hL2.sc.ds
      have hm2 := hL2.ms.s2 HmN.out HrN.out
      have ha2 := Sf.of_sll hL2.al HaN.out
      clear hb hX1 hB1 hL1 hL2 hmay
      have ho2 := hLo3.ms.s2 HmO.out HrO.out
      clear hLo3
      obtain ⟨c0, c1, c2, c3, c4, c5, c6, c7, c8, hlt⟩ := id hX2.out
      have hXN := hX2
      clear hX2
      have g5 := fun x W h => corrupt_any P N0 T Ac cc co (.slice Ad ds.length cd) (.slice At ts.length ct) x hO.coal.l1000 W h
      unfold sv at g5
      generalize rAt2 O = FO at *
      generalize rAt2 M = FM at *
      obtain ⟨i0, hi0, hz0, hz1, hz2⟩ := info_parts info_sll
      go_wp2
      go_loopw [5, 6] (fun v q wr => ∃ (k : Nat) (g cp : Nat → Nat), k ≤ N0 ∧ q = .int .i64 k ∧ Hid (BM w2.heap.size wr v N0 k g cp (mix co FO FM)) ∧ Hid (Below w2.heap.size w2 wr)) (fun _ q _ => N0 - (intOf q).toNat)
      case atStart => exact ⟨0, fun _ => 0, fun _ => 0, Nat.zero_le _, rfl, Lib.hid (BM.nothing _ _ _ _ _ _), Lib.hid (Below.refl _ _)⟩
      case round =>
        obtain ⟨k, g, cp, hk, rfl, hM, hB⟩ := hrel
        obtain ⟨wk, hwk⟩ : ∃ z, z = wr := ⟨_, rfl⟩
        subst hwk
        have hsr := hB.out.size
        obtain ⟨c0, c1, c2, c3, c4, c5, c6, c7, c8, hltx⟩ := id (hXN.out.next hB.out)
        by_cases hlt : k < N0
        · have hkN : (k : Int) < N0 := by omega
          obtain ⟨b, off, A', c', rfl, hbl, hcell0, hsf0⟩ := hm2.at_ hlt
          have hcell := (hB.out.cell (p := ⟨b, off + k, none⟩) hbl).trans hcell0
          obtain ⟨b2, off2, rfl, hbl2, hcm⟩ := hsf0.rd (by omega)
          have hlit := Lib.hid (own_lit1 wk (Nat.le_refl wk.heap.size))
          have hc3 : Hid (∀ j, j < N0 → ∃ A' c', (wk.alloc (.cells #[] 42)).cell? ⟨b2, off2 + j, none⟩ = some (.slice A' (FM k j).length c') ∧ (Sl wk A' c' (FM k j) ∧ (FM k j ≠ [] → ∀ ad, A' = some ad → ad.block < w2.heap.size))) := Lib.hid fun j hj => by
            obtain ⟨A', c', h1, h2⟩ := hcm j hj
            exact ⟨A', c', ((hB.out.trans (bnew (Below.refl w2.heap.size wk) (.cells #[] 42) hsr)).cell (p := ⟨b2, off2 + j, none⟩) hbl2).trans h1, h2.next hB.out, fun hn ad e => h2.base ad e hn⟩
          have hsr1 : Hid (wk.heap.size ≤ (wk.alloc (.cells #[] 42)).heap.size) := Lib.hid (by simp)
          have hcellA := ((bnew (Below.refl wk.heap.size wk) (.cells #[] 42) (Nat.le_refl _)).cell (p := ⟨b, off + k, none⟩) (Nat.lt_of_lt_of_le hbl hsr)).trans hcell
          have hX7 := ((bnew (Below.refl wk.heap.size wk) (.cells #[] 42) (Nat.le_refl _)).cell (p := ⟨w.heap.size, 7, none⟩) hltx).trans c7
          clear hcm hcell0 hsf0
          go_wp2_with (at_builtin; refine wpList_append_hd (by rfl) _ _ rfl wk.heap.size _ 0 N0 [] rfl hlit.out b2 off2 c' (FM k) (fun j A' c' => Sl wk A' c' (FM k j) ∧ (FM k j ≠ [] → ∀ ad, A' = some ad → ad.block < w2.heap.size)) rfl hc3.out (by omega) hsr1.out ?_; intro v2 w3 us hul hus hown hg2; rw [Nat.zero_add, List.nil_append] at hown; obtain ⟨x, cx, rfl, hx1, hx2⟩ := World.ownsRow.form hown (by omega); have hb3 : Below wk.heap.size wk w3 := (bnew (Below.refl _ _) (.cells #[] 42) (Nat.le_refl _)).grown hg2 hsr1.out (fun q e => (hlit.out.lt q e).1); have hb3H := Lib.hid hb3; have hRq : Hid (Rq wk.heap.size w2.heap.size wk w3 x cx N0 (mixR co FO FM k 0)) := Lib.hid (by rw [mixR_zero]; exact ⟨us, hown, hus⟩); clear hb3 hown hus hg2 hul)
          clear hcell hcellA hX7 c0 c1 c2 c3 c4 c5 c6 c7 c8 hltx
          go_loopw [8] (fun q wq => ∃ jj : Nat, jj ≤ N0 ∧ q = .int .i64 jj ∧ Hid (Rq wk.heap.size w2.heap.size wk wq x cx N0 (mixR co FO FM k jj)) ∧ Hid (Below wk.heap.size wk wq)) (fun q _ => N0 - (intOf q).toNat)
          case atStart => exact ⟨0, Nat.zero_le _, rfl, hRq, hb3H⟩
          case round =>
            clear hRq hb3H
            obtain ⟨jj, hjj, rfl, hRq, hq⟩ := hrel
            have hBq := Lib.hid (hB.out.trans (hq.out.mono hsr))
            obtain ⟨c0, c1, c2, c3, c4, c5, c6, c7, c8, hltx⟩ := id (hXN.out.next hBq.out)
            by_cases hlt2 : jj < N0
            · have hjN : (jj : Int) < N0 := by omega
              have hNI : (N0 : Int) ≤ 13 := by omega
              have ek : IntKind.i64.wrap ((k : Int) + 1) = (k : Int) + 1 := IntWalk.i64_in _ (by omega)
              have ej : IntKind.i64.wrap ((jj : Int) + 1) = (jj : Int) + 1 := IntWalk.i64_in _ (by omega)
              have q1 := fun W h => g5 ((k : Int) + 1) W h
              have q2 := fun W h => g5 ((jj : Int) + 1) W h
              have hcq := Lib.hid (hc2.next hBq.out)
              by_cases h1 : ((k : Int) + 1) ∈ co
              · rw [decide_eq_true h1] at q1
                have hN := Lib.hid (mixR_no (co := co) (O := FO) (M := FM) (i := k) (k := jj) (fun h => h.1 h1))
                clear h1
                go_wp2_with fail
                refine (q1 _ hcq.out).mono ?_; rintro e w4 ⟨rfl, hb4⟩
                go_wp2
                go_roundw
                case rel => exact ⟨jj + 1, by omega, by simp, by rw [hN.out]; exact Lib.hid (hRq.out.next hb4), Lib.hid (hq.out.trans (hb4.mono hq.out.size))⟩
                case measure => simp [intOf]; omega
              · rw [decide_eq_false h1] at q1
                go_wp2_with fail
                refine (q1 _ hcq.out).mono ?_; rintro e w4 ⟨rfl, hb4⟩
                have hB4 := hBq.out.trans (hb4.mono hBq.out.size)
                obtain ⟨y0, y1, y2, y3, y4, y5, y6, y7, y8, hlty⟩ := id (hXN.out.next hB4)
                have hc4 := Lib.hid (hc2.next hB4)
                by_cases h2 : ((jj : Int) + 1) ∈ co
                · rw [decide_eq_true h2] at q2
                  have hN := Lib.hid (mixR_no (co := co) (O := FO) (M := FM) (i := k) (k := jj) (fun h => h.2 h2))
                  clear h1 h2
                  go_wp2_with fail
                  refine (q2 _ hc4.out).mono ?_; rintro e w5 ⟨rfl, hb5⟩
                  have hb45 := hb4.trans (hb5.mono hb4.size)
                  go_wp2
                  go_roundw
                  case rel => exact ⟨jj + 1, by omega, by simp, by rw [hN.out]; exact Lib.hid (hRq.out.next hb45), Lib.hid (hq.out.trans (hb45.mono hq.out.size))⟩
                  case measure => simp [intOf]; omega
                · rw [decide_eq_false h2] at q2
                  have hN := Lib.hid (mixR_yes (co := co) (O := FO) (M := FM) (i := k) (k := jj) h1 h2)
                  clear h1 h2
                  go_wp2_with fail
                  refine (q2 _ hc4.out).mono ?_; rintro e w5 ⟨rfl, hb5⟩
                  have hb45 := hb4.trans (hb5.mono hb4.size)
                  have hB5 := hBq.out.trans (hb45.mono hBq.out.size)
                  have hR5 := hRq.out.next hb45
                  have hq5 := hq.out.trans (hb45.mono hq.out.size)
                  clear hb4 hb5 hb45 hB4 y0 y1 y2 y3 y4 y5 y6 y7 y8 hlty c0 c1 c2 c3 c4 c5 c6 c7 c8 hltx q1 q2 hc4 hcq
                  obtain ⟨b6, off6, A6, c6, rfl, hbl6, hcell6, hsf6⟩ := ho2.at_ hlt
                  obtain ⟨b7, off7, rfl, hbl7, hcm7⟩ := hsf6.rd (by omega)
                  obtain ⟨A8, c8, hcell8, hsl8⟩ := hcm7 jj hlt2
                  have hcell6' := (hB5.cell (p := ⟨b6, off6 + k, none⟩) hbl6).trans hcell6
                  have hcell8' := (hB5.cell (p := ⟨b7, off7 + jj, none⟩) hbl7).trans hcell8
                  have hfz := hR5.frozen jj
                  obtain ⟨A9, c9, hcell9⟩ := hR5.at_ hlt2
                  have hRn := Lib.hid (hR5.put hlt2 (hsl8.next hB.out) (fun hn ad e => hsl8.base ad e hn))
                  have hqn := Lib.hid (put_below hq5 (b := x) hR5.lt.1 (Nat.le_of_lt (Nat.lt_of_le_of_lt hR5.lt.1 hR5.lt.2)) jj (.slice A8 (FO k jj).length c8))
                  rw [← hN.out] at hRn
                  have hcx := hR5.cap
                  clear hcell6 hcell8 hcm7 hsf6 hsl8 hR5 hq5 hRq hq hB5
                  go_wp2
                  go_roundw
                  case rel => exact ⟨jj + 1, by omega, by simp, hRn, hqn⟩
                  case measure => simp [intOf]; omega
            · obtain rfl : N0 = jj := by omega
              obtain ⟨us, hown, hus⟩ := hRq.out.ex
              have husH : Hid (∀ j, j < N0 → ∃ A c, us[j]? = some (.slice A (mix co FO FM k j).length c) ∧ Sl wk A c (mix co FO FM k j) ∧ (mix co FO FM k j ≠ [] → ∀ ad, A = some ad → ad.block < w2.heap.size)) := Lib.hid fun j hj => by
                obtain ⟨A, c, e1, e2, e3⟩ := hus j hj
                rw [mixR_end co FO FM k hj] at e1 e2 e3
                exact ⟨A, c, e1, e2, e3⟩
              have hownH := Lib.hid hown
              have hh3 := own_belowN (own_belowN hM.out.head hq.out) ((Below.refl wr.heap.size wr).alloc (Nat.le_refl _) (.cells #[.slice (some ⟨x, 0, none⟩) N0 cx] 27))
              have hh3H := Lib.hid hh3
              have hz3 : Hid (w2.heap.size ≤ (wr.alloc (.cells #[.slice (some ⟨x, 0, none⟩) N0 cx] 27)).heap.size) := Lib.hid (by have := hq.out.size; simp; omega)
              clear hown hus hh3
              go_wp2_with (at_builtin; refine wpList_append_own _ rfl _ _ 30 rfl w2.heap.size 27 i0 (.slice none 0 0) 1 24 Try.underlying30 hi0 hz0 hz1 hz2 rfl (by decide) _ _ _ rfl hh3H.out ⟨wr.heap.size, 0, none⟩ 1 1 [.slice (some ⟨x, 0, none⟩) N0 cx] rfl rfl (cell_one_new _ _ _) (by simp [Value.oneCell']) (by simp only [maxLen]; omega) (by omega) hz3.out ?_; intro v3 w5 hown5 hg5 _)
              have hMn := Lib.hid (hM.out.add hsr hq.out hownH.out husH.out hown5 hg5)
              have hBn := Lib.hid ((hB.out.trans (bnew (hq.out.mono hsr) (.cells #[.slice (some ⟨x, 0, none⟩) N0 cx] 27) hsr)).grown hg5 hz3.out (fun q e => (World.ownsRow.lt hM.out.head q e).1))
              go_roundw
              case rel => exact ⟨k + 1, _, _, by omega, by simp, hMn, hBn⟩
              case measure => simp [intOf]; omega
        · obtain rfl : N0 = k := by omega
          obtain ⟨G, cG, rfl, hG1, hG2⟩ := World.ownsRow.form hM.out.head (by omega)
          have hmx := hM.out.rm.s2
          have hc5 := hc2.next hB.out
          have hd5 := hd2.next hB.out
          have hm5 := hm2.next hB.out
          have hXr := Lib.hid (hXN.out.next hB.out)
          have hBr := Lib.hid (hB2.out.trans (hB.out.mono hB2.out.size))
          have g1 := fun W h1 h2 h3 => ms_any P N0 T Ac Ad cc cd co ds (.slice At ts.length ct) r HOK.out Am cm FM hf2 W h1 h2 h3
          have g2 := fun W h1 h2 h3 => ms_any P N0 T Ac Ad cc cd co ds (.slice At ts.length ct) r HOK.out (some ⟨G, 0, none⟩) cG (mix co FO FM) (fin2_mix hfO hf2) W h1 h2 h3
          have hloc := fun (i j : Nat) (hi : i < N0) (hj : j < N0) (hc : (i : Int) + 1 ∈ co) => msF_local (p := P) (r := r) (ds := ds) (out := FM) (out' := mix co FO FM) (fun x hx => (HOK.out.coal.mem x hx).1) (fun d hd h3 => by have := HOK.out.dv d hd; unfold dvB at this; have := of_decide_eq_true this; omega) (fun x hx => (HOK.out.coal.mem x hx).2) (fun a b _ _ h => mix_cor h) hi hj hc
          have hsh := fun i j => ms_short (cor := co) (N := N0) (r := r) (ds := ds) hp0 hf2 i j
          unfold sv at g1 g2
          generalize msF P co N0 r ds FM = R1 at *
          generalize msF P co N0 r ds (mix co FO FM) = R2 at *
          generalize mix co FO FM = MX at *
          clear hM hB hXN hB2 hm2 ho2 hlt
          have q3 := Lib.hid (Below.refl wk.heap.size wk).drew
          obtain ⟨c0, c1, c2, c3, c4, c5, c6, c7, c8, hlt⟩ := id hXr.out
          go_wp2
          go_region_held3 (fun w' => w'.cell? ⟨w.heap.size, 0, none⟩ = some (.int .u64 P) ∧ w'.cell? ⟨w.heap.size, 1, none⟩ = some (.int .i64 N0) ∧ w'.cell? ⟨w.heap.size, 2, none⟩ = some (.int .i64 T) ∧ w'.cell? ⟨w.heap.size, 3, none⟩ = some (.slice Ac co.length cc) ∧ w'.cell? ⟨w.heap.size, 4, none⟩ = some (.slice Ad ds.length cd) ∧ w'.cell? ⟨w.heap.size, 5, none⟩ = some (.slice At ts.length ct) ∧ w'.cell? ⟨w.heap.size, 6, none⟩ = some (.int .i64 r) ∧ w'.cell? ⟨w.heap.size, 7, none⟩ = some (.slice Am N0 cm) ∧ w'.cell? ⟨w.heap.size, 8, none⟩ = some (.slice Aa N0 ca))
            (refine ⟨?_, ?_, ?_, ?_, ?_, ?_, ?_, ?_, ?_⟩ <;> first | assumption | go_simp)
            (first
              | (go_at_call 13; with_reducible refine (g2 _ (hc5.next q4.out) (hd5.next q4.out) (hmx.next q4.out)).mono ?_; rintro e w5 ⟨A5, k5, rfl, s5, hb5⟩; have q5 := Lib.hid (q4.out.trans (hb5.mono q4.out.size)); have s45 := s4.next hb5; obtain ⟨t0, t1, t2, t3, t4, t5, t6, t7, t8, _⟩ := hXr.out.next q5.out; clear hb5)
              | (go_at_call 13; refine (g1 _ (hc5.next q3.out) (hd5.next q3.out) (hm5.next q3.out)).mono ?_; rintro e w4 ⟨A4, k4, rfl, s4, hb4⟩; have q4 := Lib.hid (q3.out.trans hb4); obtain ⟨r0, r1, r2, r3, r4, r5, r6, r7, r8, _⟩ := hXr.out.next q4.out; clear hb4))
          have hX5 := Lib.hid (hXr.out.next q5.out)
          have hB5 := Lib.hid (hBr.out.trans (q5.out.mono hBr.out.size))
          have hc6 := hc5.next q5.out
          have hNe : ((N0 : Int) != (N0 : Int)) = false := by rw [bne_eq_false_iff_eq]
          have hNI : (N0 : Int) ≤ 13 := by omega
          have S4 := Lib.hid s45
          have S5 := Lib.hid s5
          clear g1 g2 s4 s45 s5 hc5 hd5 hm5 hmx hXr q4 q5 hBr
          go_wp2
          go_loopw [11] (fun q wr => ∃ k : Nat, k ≤ N0 ∧ q = .int .i64 k ∧ Below w5.heap.size w5 wr) (fun q _ => N0 - (intOf q).toNat)
          case atStart => exact ⟨0, Nat.zero_le _, rfl, Below.refl _ _⟩
          case round =>
            obtain ⟨i, hi, rfl, hb⟩ := hrel
            obtain ⟨x0, x1, x2, x3, x4, x5, x6, x7, x8, hltx⟩ := id (hX5.out.next hb)
            by_cases hlt : i < N0
            · have hiI : (i : Int) < N0 := by omega
              obtain ⟨b1, o1, A1, l1, rfl, hl1, hc1, hs1⟩ := (S4.out.next hb).at_ hlt
              obtain ⟨b2, o2, A2, l2, rfl, hl2, hc2, hs2⟩ := (S5.out.next hb).at_ hlt
              have ew : IntKind.i64.wrap ((i : Int) + 1) = (i : Int) + 1 := IntWalk.i64_in _ (by omega)
              have X0 := fun b : Beyond wr => (b.below.cell (p := ⟨w.heap.size, 0, none⟩) hltx).trans x0
              have X1 := fun b : Beyond wr => (b.below.cell (p := ⟨w.heap.size, 1, none⟩) hltx).trans x1
              have X2 := fun b : Beyond wr => (b.below.cell (p := ⟨w.heap.size, 2, none⟩) hltx).trans x2
              have X3 := fun b : Beyond wr => (b.below.cell (p := ⟨w.heap.size, 3, none⟩) hltx).trans x3
              have X4 := fun b : Beyond wr => (b.below.cell (p := ⟨w.heap.size, 4, none⟩) hltx).trans x4
              have X5 := fun b : Beyond wr => (b.below.cell (p := ⟨w.heap.size, 5, none⟩) hltx).trans x5
              have Y1 := fun b : Beyond wr => (b.below.cell (p := ⟨b1, o1 + i, none⟩) hl1).trans hc1
              have Y2 := fun b : Beyond wr => (b.below.cell (p := ⟨b2, o2 + i, none⟩) hl2).trans hc2
              have c9 : ∀ b : Beyond wr, Calls Try.prog 18 #[.agg #[.int .u64 P, .int .i64 N0, .int .i64 T, .slice Ac co.length cc, .slice Ad ds.length cd, .slice At ts.length ct], .int .i64 ((i : Int) + 1)] b.W fun e w'' => e = .returned (.bool (decide (((i : Int) + 1) ∈ co))) ∧ ∃ b' : Beyond wr, w'' = b'.W := fun b => b.of (g5 ((i : Int) + 1) b.W (hc6.next (hb.trans (b.below.mono hb.size))))
              have HB := Lib.hid hb
              by_cases hin : ((i : Int) + 1) ∈ co
              · rw [decide_eq_true hin] at c9
                have e1 : ∀ b : Beyond wr, Calls Try.prog 15 #[.slice A1 N0 l1, .slice A2 N0 l2] b.W fun e w'' => e = .returned (.bool true) ∧ ∃ b' : Beyond wr, w'' = b'.W := fun b => b.of (same_yes _ _ _ _ N0 _ _ hN13 (fun j hj => (hloc i j hlt hj hin).symm) (fun j _ => hsh i j) b.W (hs1.next b.below) (hs2.next b.below))
                clear hin
                go_wp2
                refine wp_region_beyond (by kernel_rfl) (by kernel_rfl) ?_
                repeat (go_big_quiet_step (first | (with_reducible exact c9 _) | (with_reducible exact e1 _)))
                refine wpQuiet_nil ?_
                rintro _ ⟨⟨w7, hb7⟩, rfl⟩
                clear X0 X1 X2 X3 X4 X5 Y1 Y2 c9 e1
                go_wp2
                go_roundw
                case rel => exact ⟨i + 1, by omega, by simp, HB.out.trans (hb7.mono HB.out.size)⟩
                case measure => simp [intOf]; omega
              · rw [decide_eq_false hin] at c9
                clear hin
                go_wp2
                refine wp_region_beyond (by kernel_rfl) (by kernel_rfl) ?_
                repeat (go_big_quiet_step (exact c9 _))
                refine wpQuiet_nil ?_
                rintro _ ⟨⟨w7, hb7⟩, rfl⟩
                clear X0 X1 X2 X3 X4 X5 Y1 Y2 c9
                go_wp2
                go_roundw
                case rel => exact ⟨i + 1, by omega, by simp, HB.out.trans (hb7.mono HB.out.size)⟩
                case measure => simp [intOf]; omega
            · obtain rfl : N0 = i := by omega
              go_wp2_with fail
              refine (awake_any _).mono ?_; rintro e w8 ⟨rfl, hb8⟩
              go_wp2_with fail
              go_ret
              exact ⟨rfl, hB5.out.trans ((hb.trans (hb8.mono hb.size)).mono hB5.out.size)⟩

theorem lifted (os : Os) (started : os.Started) (H : Type) (enc : TypeId × Value → H) :
    ReturnsInHanded {} Try.checked os 7 .any (Rows.adversaryLocalitySpec.pre6 enc Try.prog Try.f7 Rows.adversaryLocalityRow.domain false) (Rows.adversaryLocalitySpec.post enc Try.prog Try.f7 false true false false) := by
  refine returnsInHanded_of_change (C := Try.checked) own started (by kernel_rfl) Try.func7
    (ChangeSpec.witness6 (enc := enc) (C := Try.checked) false ⟨#[], #[.agg #[.int .u64 0, .int .i64 0, .int .i64 0, .slice none 0 0, .slice none 0 0, .slice none 0 0, .int .i64 0, .slice none 0 0, .slice none 0 0], .slice none 0 0], []⟩ 8 (by kernel_rfl) (by kernel_rfl) (by kernel_rfl) (by kernel_rfl)) ?_
  intro W base args ds gs before hval0 hW hcnd _
  have hval : ∀ (j : Nat) t v, Try.f7.params[j]? = some t → args[j]? = some v → Value.okWide Try.prog W .any base t v := hval0
  have hW' := hW
  obtain ⟨p, q, hA0, hV, rfl, hfz, hnd⟩ := hW
  have hA : DataW.TrodAll enc Try.prog W 0 (fun _ => true) true Try.f7.params.toList args.toList ds p := hA0
  rw [Try.params7] at hA hval
  obtain ⟨v0, v1, d0, d1, p0, p1, rfl, rfl, rfl, t0, t1⟩ := trodAll_two hA
  obtain ⟨rfl, rfl⟩ := trodVars_none hV
  clear hA0 hval0
  simp only [List.append_nil] at hW'
  have l0 : ∀ x ∈ p0, x.block < W.heap.size := fun x hx => hW'.lt x (by simp [hx])
  obtain ⟨P0, N0, T0, Ac0, Ad0, At0, cc0, cd0, ct0, co0, ds0, ts0, rd0, Am0, cm0, M0, Aa0, ca0, all0, rfl, b0, e0, f0, g0, h0, r0⟩ := arg_ask13 (hval 0 32 v0 rfl rfl) t0 l0
  have l1 : ∀ x ∈ p1, x.block < W.heap.size := fun x hx => hW'.lt x (by simp [hx])
  obtain ⟨A1, M1, c1, rfl, r1, b1, e1⟩ := arg_mm (hval 1 30 v1 rfl rfl) t1 l1
  refine (walk P0 N0 T0 Ac0 Ad0 At0 cc0 cd0 ct0 co0 ds0 ts0 rd0 Am0 cm0 M0 Aa0 ca0 all0 A1 c1 M1 b0 e0 f0 g0 h0 b1 e1 W r0 r1).mono fun e W' ⟨he, hb⟩ => ?_
  subst he
  exact ⟨_, rfl, post_of_below (pa := p0 ++ p1) (pv := []) hW' (fun _ _ _ => (trodAll_cons_mk (shut_bool Try.underlying4 _) trodAll_mk0)) (fun sp hsp => trodAll_mk2 (stay_ask13 t0 hb l0 sp (fun x hx => hsp x (by simp [hx]))) (stay_mm t1 hb l1 sp (fun x hx => hsp x (by simp [hx])))) (fun _ _ => rfl) (by simp)
    hb (ok_one (by kernel_rfl) rfl (okWide_bool_mk Try.underlying4 _))⟩

theorem over : Rows.adversaryLocalityRow.holds Try.pinned (OpenSpec.ofChange Rows.adversaryLocalitySpec) :=
  OpenClaim.holds_of_wide 7 Try.f7 rfl rfl rfl rfl rfl rfl rfl ⟨rfl, rfl, rfl, rfl, rfl⟩ rfl rfl rfl rfl rfl (by kernel_rfl) Try.func7 (by kernel_rfl)
    (of_decide_eq_true (by kernel_rfl)) (by unfold Func.isWrapper; first | (rw [if_pos (by decide +kernel)]; kernel_rfl) | (rw [if_neg (by decide +kernel)]; exact ⟨rfl, rfl⟩))
    (fun os started H enc _ => lifted os started H enc)

theorem proved : Rows.AdversaryLocalitySaid := over
end Go.Proofs.Ytbhphamfkhccpaa.adversaryLocality
