/- A valid scenario with one deviation more is valid just if the deviation is. No conditions. -/
import Derived.Test.YtkkfkkicbgejaaaFDvs
import Derived.Test.YtkkfkkicbgejaaaFOpn
import Derived.Test.YtkkfkkicbgejaaaFrame
import Derived.Deep.RegionHeld3
namespace Go.Proofs.Ytkkfkkicbgejaaa.paramsScenarioWithExtraDeviation
set_option maxRecDepth 100000
open Go.ChangeShapes Go.WideShapes Go.ChangeAt Go.RowKit PolyMath FieldMath PartyMath

set_option maxHeartbeats 4000000 in
theorem walk (P N T : Int) (Ac Ad At : Option Addr) (cc cd ct : Nat) (co : List Int) (ds : List Dv) (ts : List (List Int)) (l : Dv) (wP : Wd P) (wN : Wi N) (wT : Wi T) (wco : Nums co) (w : World) (hL : Lie w Ac Ad At cc cd ct co ds ts) :
    Calls Try.prog 8 #[sv P N T (.slice Ac co.length cc) (.slice Ad ds.length cd) (.slice At ts.length ct), dvv l] w fun e w' => e = .returned (.bool true) ∧ Below w.heap.size w w' := by
  unfold sv dvv
  have hB1 := Lib.hid (bnew ((Below.refl _ w).alloc (Nat.le_refl _) (.cells #[.int .u64 P, .int .i64 N, .int .i64 T, .slice Ac co.length cc, .slice Ad ds.length cd, .slice At ts.length ct] 32)) (.cells #[.int .i64 l.rnd, .int .i64 l.frm, .int .i64 l.to, .int .i64 l.at_, .int .i64 l.kind, .int .u64 l.k, .int .i64 l.of_, .int .i64 l.src] 43) (Nat.le_refl _))
  have hX1 := (Sx.made w P N T (.slice Ac co.length cc) (.slice Ad ds.length cd) (.slice At ts.length ct)).next ((Below.refl _ (w.alloc (.cells #[.int .u64 P, .int .i64 N, .int .i64 T, .slice Ac co.length cc, .slice Ad ds.length cd, .slice At ts.length ct] 32))).alloc (Nat.le_refl _) (.cells #[.int .i64 l.rnd, .int .i64 l.frm, .int .i64 l.to, .int .i64 l.at_, .int .i64 l.kind, .int .u64 l.k, .int .i64 l.of_, .int .i64 l.src] 43))
  have hD1 := Dx.made (w.alloc (.cells #[.int .u64 P, .int .i64 N, .int .i64 T, .slice Ac co.length cc, .slice Ad ds.length cd, .slice At ts.length ct] 32)) l
  rw [World.size_alloc] at hD1
  have hL1 := hL.next hB1.out
  have hli := fun W h => light_any P N T wP wN wT Ac Ad At cc cd ct co ds ts wco W h
  unfold sv at hli
  go_enter Try.func8, Try.ntmps8
  go_wp2_with fail
  refine (awake_any _).mono ?_; rintro e w1 ⟨rfl, hb⟩
  replace hX1 := hX1.next hb
  replace hD1 := hD1.next hb
  replace hL1 := hL1.next hb
  replace hB1 := Lib.hid (hB1.out.trans (hb.mono hB1.out.size))
  clear hb
  obtain ⟨c0, c1, c2, c3, c4, c5, hlt⟩ := id hX1
  go_wp2_with fail
  refine (hli _ hL1).mono ?_; rintro e w2 ⟨rfl, hb⟩
  replace hX1 := hX1.next hb
  replace hD1 := hD1.next hb
  replace hL1 := hL1.next hb
  replace hB1 := Lib.hid (hB1.out.trans (hb.mono hB1.out.size))
  clear hb c0 c1 c2 c3 c4 c5 hlt hli
  cases hq : (liB N ds ts && scB P N T co ds ts) with
  | false =>
    go_wp2
    go_ret
    exact ⟨rfl, hB1.out⟩
  | true =>
    rw [Bool.and_eq_true] at hq
    obtain ⟨hli, hsc⟩ := hq
    have hvc : vC P N T co = true := by unfold scB at hsc; rw [Bool.and_eq_true] at hsc; exact hsc.1
    have hda : ds.all (dvB N) = true := by unfold scB at hsc; rw [Bool.and_eq_true, Bool.and_eq_true] at hsc; exact hsc.2.1
    have htp : tpB P N ts = true := by unfold scB at hsc; rw [Bool.and_eq_true, Bool.and_eq_true] at hsc; exact hsc.2.2
    have hsv : scB P N T co (ds ++ [l]) ts = dvB N l := by unfold scB; rw [hvc, htp, List.all_append, hda]; simp
    have hco : co.length ≤ 1000 := by
      obtain ⟨N', T', _, _, hC⟩ := Coal.of hvc
      exact hC.l1000
    have hF : Fit N T co ds ts ∧ Fit N T co (ds ++ [l]) ts := by
      unfold liB at hli
      simp only [Bool.and_eq_true, decide_eq_true_eq, List.all_eq_true] at hli
      obtain ⟨_, h2, h3, h4⟩ := hli
      exact ⟨⟨wN, wT, wco, by omega, by omega, fun r hr => by have := h4 r hr; omega⟩, ⟨wN, wT, wco, by rw [List.length_append, List.length_singleton]; omega, by omega, fun r hr => by have := h4 r hr; omega⟩⟩
    have f1 := fun W h => scen_any P N T Ac Ad At cc cd ct co ds ts hF.1 hco W h
    have f2 := fun A c W h => scen_any P N T Ac A At cc c ct co (ds ++ [l]) ts hF.2 hco W h
    have f3 := fun W => rDev_any P N T l W
    rw [hsc] at f1
    rw [hsv] at f2
    unfold sv at f1 f2
    unfold pv dvv at f3
    rw [List.length_append, List.length_singleton] at f2
    generalize dvB N l = q at *
    have hqq : (q == q) = true := beq_self_eq_true q
    clear hvc hda htp hsv hco hF
    obtain ⟨c0, c1, c2, c3, c4, c5, hlt⟩ := id hX1
    have hds : ds.length ≤ 20 := by unfold liB at hli; simp only [Bool.and_eq_true, decide_eq_true_eq] at hli; exact hli.2.1
    go_wp2_with fail
    have hV := Sx.made w2 P N T (.slice Ac co.length cc) (.slice Ad ds.length cd) (.slice At ts.length ct)
    have hbW := (Below.refl w2.heap.size w2).alloc (Nat.le_refl _) (.cells #[.int .u64 P, .int .i64 N, .int .i64 T, .slice Ac co.length cc, .slice Ad ds.length cd, .slice At ts.length ct] 32)
    have hFV := frozen_of_row (w2.alloc (.cells #[.int .u64 P, .int .i64 N, .int .i64 T, .slice Ac co.length cc, .slice Ad ds.length cd, .slice At ts.length ct] 32)) w2.heap.size 4 _ _ (heap_alloc_new w2 _)
    have hX := hX1.next hbW
    have hD := hD1.next hbW
    have hLW := hL1.next hbW
    have hBW := Lib.hid (hB1.out.trans (hbW.mono hB1.out.size))
    have hsW : w.heap.size + 1 < w2.heap.size := hD1.lt
    have hrow := heap_alloc_new w2 (.cells #[.int .u64 P, .int .i64 N, .int .i64 T, .slice Ac co.length cc, .slice Ad ds.length cd, .slice At ts.length ct] 32)
    clear c0 c1 c2 c3 c4 c5 hlt hX1 hD1 hL1 hB1 hbW
    generalize w2.alloc (.cells #[.int .u64 P, .int .i64 N, .int .i64 T, .slice Ac co.length cc, .slice Ad ds.length cd, .slice At ts.length ct] 32) = W at *
    generalize hbv : w2.heap.size = bv at *
    have hltv := hV.lt
    clear hbv
    have eA := Lib.hid ((OD.nothing (w := W.alloc (.cells #[.int .i64 l.rnd, .int .i64 l.frm, .int .i64 l.to, .int .i64 l.at_, .int .i64 l.kind, .int .u64 l.k, .int .i64 l.of_, .int .i64 l.src] 43)) (B := W.heap.size) (by simp)).drew)
    have eB := Lib.hid (((OD.nothing (w := W) (B := W.heap.size) (Nat.le_refl _)).push (.cells #[.int .i64 l.rnd, .int .i64 l.frm, .int .i64 l.to, .int .i64 l.at_, .int .i64 l.kind, .int .u64 l.k, .int .i64 l.of_, .int .i64 l.src] 43)).drew)
    have eC := Lib.hid ((OD.nothing (w := W) (B := W.heap.size) (Nat.le_refl _)).drew)
    have lA := Lib.hid (((OD.one W l (B := W.heap.size) (Nat.le_refl _)).push (.cells #[] 43)).drew)
    have lB := Lib.hid ((OD.one (W.alloc (.cells #[] 43)) l (B := W.heap.size) (by simp)).drew)
    rw [World.size_alloc] at eA lB
    have sA := Lib.hid (((hLW.ds.push (.cells #[.int .i64 l.rnd, .int .i64 l.frm, .int .i64 l.to, .int .i64 l.at_, .int .i64 l.kind, .int .u64 l.k, .int .i64 l.of_, .int .i64 l.src] 43)).push (.cells #[] 43)).next (Below.refl _ _).drew)
    have sB := Lib.hid (((hLW.ds.push (.cells #[] 43)).push (.cells #[.int .i64 l.rnd, .int .i64 l.frm, .int .i64 l.to, .int .i64 l.at_, .int .i64 l.kind, .int .u64 l.k, .int .i64 l.of_, .int .i64 l.src] 43)).next (Below.refl _ _).drew)
    have sC := Lib.hid ((hLW.ds.push (.cells #[] 43)).next (Below.refl _ _).drew)
    have bA := Lib.hid (bnew (bnew (Below.refl W.heap.size W) (.cells #[.int .i64 l.rnd, .int .i64 l.frm, .int .i64 l.to, .int .i64 l.at_, .int .i64 l.kind, .int .u64 l.k, .int .i64 l.of_, .int .i64 l.src] 43) (Nat.le_refl _)) (.cells #[] 43) (Nat.le_refl _)).drew
    have bB := Lib.hid (bnew (bnew (Below.refl W.heap.size W) (.cells #[] 43) (Nat.le_refl _)) (.cells #[.int .i64 l.rnd, .int .i64 l.frm, .int .i64 l.to, .int .i64 l.at_, .int .i64 l.kind, .int .u64 l.k, .int .i64 l.of_, .int .i64 l.src] 43) (Nat.le_refl _)).drew
    have bC := Lib.hid (bnew (Below.refl W.heap.size W) (.cells #[] 43) (Nat.le_refl _)).drew
    obtain ⟨c0, c1, c2, c3, c4, c5, hlt⟩ := id hX
    obtain ⟨d0, d1, d2, d3, d4, d5, d6, d7, hlt2⟩ := id hD
    have hne1 : w.heap.size ≠ W.heap.size := by omega
    have hne2 : w.heap.size + 1 ≠ W.heap.size := by omega
    have hne3 : w.heap.size ≠ W.heap.size + 1 := by omega
    have hne4 : w.heap.size + 1 ≠ W.heap.size + 1 := by omega
    have hne5 : w.heap.size ≠ bv := by omega
    have hne6 : w.heap.size + 1 ≠ bv := by omega
    go_region_held3 (fun w' => w'.cell? ⟨w.heap.size, 4, none⟩ = some (.slice Ad ds.length cd) ∧ w'.cell? ⟨w.heap.size + 1, 0, none⟩ = some (.int .i64 l.rnd) ∧ w'.cell? ⟨w.heap.size + 1, 1, none⟩ = some (.int .i64 l.frm) ∧ w'.cell? ⟨w.heap.size + 1, 2, none⟩ = some (.int .i64 l.to) ∧ w'.cell? ⟨w.heap.size + 1, 3, none⟩ = some (.int .i64 l.at_) ∧ w'.cell? ⟨w.heap.size + 1, 4, none⟩ = some (.int .i64 l.kind) ∧ w'.cell? ⟨w.heap.size + 1, 5, none⟩ = some (.int .u64 l.k) ∧ w'.cell? ⟨w.heap.size + 1, 6, none⟩ = some (.int .i64 l.of_) ∧ w'.cell? ⟨w.heap.size + 1, 7, none⟩ = some (.int .i64 l.src))
      (refine ⟨?_, ?_, ?_, ?_, ?_, ?_, ?_, ?_, ?_⟩ <;> first | assumption | go_simp)
      (first
        | (refine step_append_dv (by rfl) _ _ (by rfl) W.heap.size _ 0 ds.length [] ds (by rfl) eA.out Ad cd (by rfl) rfl sA.out (by omega) (by first | omega | (simp; done) | (simp; omega)) ?_; intro v5 w5 hO5 hg5; have hb5 : Below W.heap.size W w5 := bA.out.grown hg5 (by first | omega | (simp; done) | (simp; omega)) (fun q e => (eA.out.lt q e).1); have l5 := Lib.hid (lA.out.kept hg5 (by simp [Value.ownBlock])); obtain ⟨p05, p15, p25, p35, p45, p55, _⟩ := hX.next hb5; obtain ⟨q05, q15, q25, q35, q45, q55, q65, q75, _⟩ := hD.next hb5; clear hg5)
        | (refine step_append_dv (by rfl) _ _ (by rfl) W.heap.size _ 0 ds.length [] ds (by rfl) eB.out Ad cd (by rfl) rfl sB.out (by omega) (by first | omega | (simp; done) | (simp; omega)) ?_; intro v5 w5 hO5 hg5; have hb5 : Below W.heap.size W w5 := bB.out.grown hg5 (by first | omega | (simp; done) | (simp; omega)) (fun q e => (eB.out.lt q e).1); have l5 := Lib.hid (lB.out.kept hg5 (by simp [Value.ownBlock])); obtain ⟨p05, p15, p25, p35, p45, p55, _⟩ := hX.next hb5; obtain ⟨q05, q15, q25, q35, q45, q55, q65, q75, _⟩ := hD.next hb5; clear hg5)
        | (refine step_append_dv (by rfl) _ _ (by rfl) W.heap.size _ 0 ds.length [] ds (by rfl) eC.out Ad cd (by rfl) rfl sC.out (by omega) (by first | omega | (simp; done) | (simp; omega)) ?_; intro v5 w5 hO5 hg5; have hb5 : Below W.heap.size W w5 := bC.out.grown hg5 (by first | omega | (simp; done) | (simp; omega)) (fun q e => (eC.out.lt q e).1); have z5 := hb5.size; have u5 := Lib.hid (hO5.push (.cells #[.int .i64 l.rnd, .int .i64 l.frm, .int .i64 l.to, .int .i64 l.at_, .int .i64 l.kind, .int .u64 l.k, .int .i64 l.of_, .int .i64 l.src] 43)); have l5c := Lib.hid (OD.one w5 l (B := W.heap.size) hb5.size); have hn51 : w.heap.size ≠ w5.heap.size := Nat.ne_of_lt (Nat.lt_of_lt_of_le hlt hb5.size); have hn52 : w.heap.size + 1 ≠ w5.heap.size := Nat.ne_of_lt (Nat.lt_of_lt_of_le hlt2 hb5.size); obtain ⟨p05, p15, p25, p35, p45, p55, _⟩ := hX.next hb5; obtain ⟨q05, q15, q25, q35, q45, q55, q65, q75, _⟩ := hD.next hb5; clear hg5)
        | (refine step_append_dv (by rfl) _ _ (by rfl) W.heap.size _ (0 + ds.length) 1 ([] ++ ds) [l] (by rfl) hO5 _ 1 (by rfl) rfl l5.out.sd (by omega) hb5.size ?_; intro v6 w6 hO6 hg6; obtain ⟨A6, k6, rfl, s6⟩ := hO6.form; have hb6 : Below W.heap.size W w6 := hb5.grown hg6 hb5.size (fun q e => (hO5.lt q e).1); obtain ⟨p06, p16, p26, p36, p46, p56, _⟩ := hX.next hb6; obtain ⟨q06, q16, q26, q36, q46, q56, q66, q76, _⟩ := hD.next hb6; have rv6 := (hb6.block bv hltv).trans hrow; have fv6 := frozen_of_row w6 bv 4 _ _ rv6; have hv6 := hV.next hb6; obtain ⟨r0, r1, r2, r3, r4, r5, _⟩ := hv6)
        | (refine step_append_dv (by rfl) _ _ (by rfl) W.heap.size _ (0 + ds.length) 1 ([] ++ ds) [l] (by rfl) u5.out _ 1 (by rfl) rfl l5c.out.sd (by omega) (by first | omega | (simp; done) | (simp; omega)) ?_; intro v6 w6 hO6 hg6; obtain ⟨A6, k6, rfl, s6⟩ := hO6.form; have hb6 : Below W.heap.size W w6 := (bnew hb5 (.cells #[.int .i64 l.rnd, .int .i64 l.frm, .int .i64 l.to, .int .i64 l.at_, .int .i64 l.kind, .int .u64 l.k, .int .i64 l.of_, .int .i64 l.src] 43) (Nat.le_refl _)).grown hg6 (by first | omega | (simp; done) | (simp; omega)) (fun q e => (u5.out.lt q e).1); obtain ⟨p06, p16, p26, p36, p46, p56, _⟩ := hX.next hb6; obtain ⟨q06, q16, q26, q36, q46, q56, q66, q76, _⟩ := hD.next hb6; have rv6 := (hb6.block bv hltv).trans hrow; have fv6 := frozen_of_row w6 bv 4 _ _ rv6; have hv6 := hV.next hb6; obtain ⟨r0, r1, r2, r3, r4, r5, _⟩ := hv6))
    all_goals
      have hBx : Bex bv w6 (w6.setCell ⟨bv, 4, none⟩ (.slice A6 (ds.length + 1) k6)) := (Bex.refl bv w6).setCell 4 _
      have hOn := hO6.aside (b := bv) hltv 4 (.slice A6 (ds.length + 1) k6)
      have hrn := heap_setCell_same w6 bv 4 _ _ (.slice A6 (ds.length + 1) k6) rv6
      have hz6 := hb6.size
      have hBn := (hBW.out.trans (hb6.mono hBW.out.size)).trans (hBx.below (B := w.heap.size) (by omega) (by omega))
      have hLn := hL.next hBn
      have hl6 : w.heap.size < w6.heap.size := by omega
      have hl7 : w.heap.size + 1 < w6.heap.size := by omega
      have hbv6 : bv < w6.heap.size := by omega
      have B0 := (hBx.cell (p := ⟨w.heap.size, 0, none⟩) hl6 hne5).trans p06
      have B1 := (hBx.cell (p := ⟨w.heap.size, 1, none⟩) hl6 hne5).trans p16
      have B2 := (hBx.cell (p := ⟨w.heap.size, 2, none⟩) hl6 hne5).trans p26
      have B3 := (hBx.cell (p := ⟨w.heap.size, 3, none⟩) hl6 hne5).trans p36
      have B4 := (hBx.cell (p := ⟨w.heap.size, 4, none⟩) hl6 hne5).trans p46
      have B5 := (hBx.cell (p := ⟨w.heap.size, 5, none⟩) hl6 hne5).trans p56
      have D0 := (hBx.cell (p := ⟨w.heap.size + 1, 0, none⟩) hl7 hne6).trans q06
      have D1 := (hBx.cell (p := ⟨w.heap.size + 1, 1, none⟩) hl7 hne6).trans q16
      have D2 := (hBx.cell (p := ⟨w.heap.size + 1, 2, none⟩) hl7 hne6).trans q26
      have D3 := (hBx.cell (p := ⟨w.heap.size + 1, 3, none⟩) hl7 hne6).trans q36
      have D4 := (hBx.cell (p := ⟨w.heap.size + 1, 4, none⟩) hl7 hne6).trans q46
      have D5 := (hBx.cell (p := ⟨w.heap.size + 1, 5, none⟩) hl7 hne6).trans q56
      have D6 := (hBx.cell (p := ⟨w.heap.size + 1, 6, none⟩) hl7 hne6).trans q66
      have D7 := (hBx.cell (p := ⟨w.heap.size + 1, 7, none⟩) hl7 hne6).trans q76
      have E0 := (cell_at hrn 0).trans (show _ = some (Value.int .u64 P) from rfl)
      have E1 := (cell_at hrn 1).trans (show _ = some (Value.int .i64 N) from rfl)
      have E2 := (cell_at hrn 2).trans (show _ = some (Value.int .i64 T) from rfl)
      have E3 := (cell_at hrn 3).trans (show _ = some (Value.slice Ac co.length cc) from rfl)
      have E4 := (cell_at hrn 4).trans (show _ = some (Value.slice A6 (ds.length + 1) k6) from rfl)
      have E5 := (cell_at hrn 5).trans (show _ = some (Value.slice At ts.length ct) from rfl)
      have hzn := hBx.size
      obtain ⟨A', c', eq', hs6⟩ := hOn.form
      injection eq' with eq1 _ eq3
      subst eq1 eq3
      rw [List.nil_append] at hs6
      clear hBx hOn hrn rv6 fv6 r0 r1 r2 r3 r4 r5 p06 p16 p26 p36 p46 p56 q06 q16 q26 q36 q46 q56 q66 q76 hO6 s6 hg6
      generalize w6.setCell ⟨bv, 4, none⟩ (.slice A6 (ds.length + 1) k6) = Wn at *
      have k0 : w.heap.size < Wn.heap.size := by omega
      have k1 : w.heap.size + 1 < Wn.heap.size := by omega
      have k2 : bv < Wn.heap.size := by omega
      have X0 := fun b : Beyond Wn => (b.below.cell (p := ⟨w.heap.size, 0, none⟩) k0).trans B0
      have X1 := fun b : Beyond Wn => (b.below.cell (p := ⟨w.heap.size, 1, none⟩) k0).trans B1
      have X2 := fun b : Beyond Wn => (b.below.cell (p := ⟨w.heap.size, 2, none⟩) k0).trans B2
      have X3 := fun b : Beyond Wn => (b.below.cell (p := ⟨w.heap.size, 3, none⟩) k0).trans B3
      have X4 := fun b : Beyond Wn => (b.below.cell (p := ⟨w.heap.size, 4, none⟩) k0).trans B4
      have X5 := fun b : Beyond Wn => (b.below.cell (p := ⟨w.heap.size, 5, none⟩) k0).trans B5
      have Y0 := fun b : Beyond Wn => (b.below.cell (p := ⟨w.heap.size + 1, 0, none⟩) k1).trans D0
      have Y1 := fun b : Beyond Wn => (b.below.cell (p := ⟨w.heap.size + 1, 1, none⟩) k1).trans D1
      have Y2 := fun b : Beyond Wn => (b.below.cell (p := ⟨w.heap.size + 1, 2, none⟩) k1).trans D2
      have Y3 := fun b : Beyond Wn => (b.below.cell (p := ⟨w.heap.size + 1, 3, none⟩) k1).trans D3
      have Y4 := fun b : Beyond Wn => (b.below.cell (p := ⟨w.heap.size + 1, 4, none⟩) k1).trans D4
      have Y5 := fun b : Beyond Wn => (b.below.cell (p := ⟨w.heap.size + 1, 5, none⟩) k1).trans D5
      have Y6 := fun b : Beyond Wn => (b.below.cell (p := ⟨w.heap.size + 1, 6, none⟩) k1).trans D6
      have Y7 := fun b : Beyond Wn => (b.below.cell (p := ⟨w.heap.size + 1, 7, none⟩) k1).trans D7
      have Z0 := fun b : Beyond Wn => (b.below.cell (p := ⟨bv, 0, none⟩) k2).trans E0
      have Z1 := fun b : Beyond Wn => (b.below.cell (p := ⟨bv, 1, none⟩) k2).trans E1
      have Z2 := fun b : Beyond Wn => (b.below.cell (p := ⟨bv, 2, none⟩) k2).trans E2
      have Z3 := fun b : Beyond Wn => (b.below.cell (p := ⟨bv, 3, none⟩) k2).trans E3
      have Z4 := fun b : Beyond Wn => (b.below.cell (p := ⟨bv, 4, none⟩) k2).trans E4
      have Z5 := fun b : Beyond Wn => (b.below.cell (p := ⟨bv, 5, none⟩) k2).trans E5
      have g1 : ∀ b : Beyond Wn, Calls Try.prog 14 #[.agg #[.int .u64 P, .int .i64 N, .int .i64 T, .slice Ac co.length cc, .slice Ad ds.length cd, .slice At ts.length ct]] b.W fun e w'' => e = .returned (.bool true) ∧ ∃ b' : Beyond Wn, w'' = b'.W := fun b => b.of (f1 b.W (hLn.next b.below))
      have g2 : ∀ b : Beyond Wn, Calls Try.prog 14 #[.agg #[.int .u64 P, .int .i64 N, .int .i64 T, .slice Ac co.length cc, .slice A6 (ds.length + 1) k6, .slice At ts.length ct]] b.W fun e w'' => e = .returned (.bool q) ∧ ∃ b' : Beyond Wn, w'' = b'.W := fun b => b.of (f2 A6 k6 b.W ⟨hLn.co.next b.below, hs6.next b.below, hLn.ts.next b.below⟩)
      have g3 : ∀ b : Beyond Wn, Calls Try.prog 27 #[.agg #[.int .u64 P, .int .i64 N, .int .i64 T], .agg #[.int .i64 l.rnd, .int .i64 l.frm, .int .i64 l.to, .int .i64 l.at_, .int .i64 l.kind, .int .u64 l.k, .int .i64 l.of_, .int .i64 l.src]] b.W fun e w'' => e = .returned (.bool q) ∧ ∃ b' : Beyond Wn, w'' = b'.W := fun b => b.of (f3 b.W)
      clear B0 B1 B2 B3 B4 B5 D0 D1 D2 D3 D4 D5 D6 D7 E0 E1 E2 E3 E4 E5 f1 f2 f3 hX hD hV eA eB eC lA lB sA sB sC bA bB bC hrow hFV hLW
      go_wp2
      refine wp_region_beyond (by kernel_rfl) (by kernel_rfl) ?_
      repeat (go_big_quiet_step (first | (with_reducible exact g1 _) | (with_reducible exact g2 _) | (with_reducible exact g3 _)))
      refine wpQuiet_nil ?_
      rintro _ ⟨⟨w4, hb4⟩, rfl⟩
      clear g1 g2 g3 X0 X1 X2 X3 X4 X5 Y0 Y1 Y2 Y3 Y4 Y5 Y6 Y7 Z0 Z1 Z2 Z3 Z4 Z5
      go_wp2
      go_ret
      exact ⟨by first | rfl | simp, hBn.trans (hb4.mono hBn.size)⟩

theorem lifted (os : Os) (started : os.Started) (H : Type) (enc : TypeId × Value → H) :
    ReturnsInHanded {} Try.checked os 8 .any (Rows.paramsScenarioWithExtraDeviationSpec.pre6 enc Try.prog Try.f8 Rows.paramsScenarioWithExtraDeviationRow.domain false) (Rows.paramsScenarioWithExtraDeviationSpec.post enc Try.prog Try.f8 false true false false) := by
  refine returnsInHanded_of_change (C := Try.checked) own started (by kernel_rfl) Try.func8
    (ChangeSpec.witness6 (enc := enc) (C := Try.checked) false ⟨#[], #[.agg #[.int .u64 0, .int .i64 0, .int .i64 0, .slice none 0 0, .slice none 0 0, .slice none 0 0], .agg #[.int .i64 0, .int .i64 0, .int .i64 0, .int .i64 0, .int .i64 0, .int .u64 0, .int .i64 0, .int .i64 0]], []⟩ 8 (by kernel_rfl) (by kernel_rfl) (by kernel_rfl) (by kernel_rfl)) ?_
  intro W base args ds gs before hval0 hW hcnd _
  have hval : ∀ (j : Nat) t v, Try.f8.params[j]? = some t → args[j]? = some v → Value.okWide Try.prog W .any base t v := hval0
  have hW' := hW
  obtain ⟨p, q, hA0, hV, rfl, hfz, hnd⟩ := hW
  have hA : DataW.TrodAll enc Try.prog W 0 (fun _ => true) true Try.f8.params.toList args.toList ds p := hA0
  rw [Try.params8] at hA hval
  obtain ⟨v0, v1, d0, d1, p0, p1, rfl, rfl, rfl, t0, t1⟩ := trodAll_two hA
  obtain ⟨rfl, rfl⟩ := trodVars_none hV
  clear hA0 hval0
  simp only [List.append_nil] at hW'
  have l0 : ∀ x ∈ p0, x.block < W.heap.size := fun x hx => hW'.lt x (by simp [hx])
  obtain ⟨P0, N0, T0, Ac0, Ad0, At0, cc0, cd0, ct0, co0, ds0, ts0, rfl, b0, e0, f0, g0, r0⟩ := arg_sc (hval 0 32 v0 rfl rfl) t0 l0
  have l1 : ∀ x ∈ p1, x.block < W.heap.size := fun x hx => hW'.lt x (by simp [hx])
  obtain ⟨x1, rfl⟩ := arg_dv (hval 1 43 v1 rfl rfl) t1
  refine (walk P0 N0 T0 Ac0 Ad0 At0 cc0 cd0 ct0 co0 ds0 ts0 x1 b0 e0 f0 g0  W r0).mono fun e W' ⟨he, hb⟩ => ?_
  subst he
  exact ⟨_, rfl, post_of_below (pa := p0 ++ p1) (pv := []) hW' (fun _ _ _ => (trodAll_cons_mk (shut_bool Try.underlying4 _) trodAll_mk0)) (fun sp hsp => trodAll_mk2 (stay_sc t0 hb l0 sp (fun x hx => hsp x (by simp [hx]))) (stay_dv t1 hb l1 sp (fun x hx => hsp x (by simp [hx])))) (fun _ _ => rfl) (by simp)
    hb (ok_one (by kernel_rfl) rfl (okWide_bool_mk Try.underlying4 _))⟩

theorem over : Rows.paramsScenarioWithExtraDeviationRow.holds Try.pinned (OpenSpec.ofChange Rows.paramsScenarioWithExtraDeviationSpec) :=
  OpenClaim.holds_of_wide 8 Try.f8 rfl rfl rfl rfl rfl rfl rfl ⟨rfl, rfl, rfl, rfl, rfl⟩ rfl rfl rfl rfl rfl (by kernel_rfl) Try.func8 (by kernel_rfl)
    (of_decide_eq_true (by kernel_rfl)) (by unfold Func.isWrapper; first | (rw [if_pos (by decide +kernel)]; kernel_rfl) | (rw [if_neg (by decide +kernel)]; exact ⟨rfl, rfl⟩))
    (fun os started H enc _ => lifted os started H enc)

theorem proved : Rows.ParamsScenarioWithExtraDeviationSaid := over
end Go.Proofs.Ytkkfkkicbgejaaa.paramsScenarioWithExtraDeviation
