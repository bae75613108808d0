/- What honest parties send and what a party sends to itself is unchanged. No conditions. -/
import Derived.Test.YtbhphamfkhccpaaAdSub
import Derived.Test.YtbhphamfkhccpaaAdOpn
import Derived.Test.YtbhphamfkhccpaaFrame
namespace Go.Proofs.Ytbhphamfkhccpaa.adversaryHonestUnchanged
set_option maxRecDepth 100000
open Go.ChangeShapes Go.WideShapes Go.ChangeAt Go.RowKit PolyMath FieldMath PartyMath

set_option maxHeartbeats 8000000 in
theorem walk (P N T : Int) (Ac Ad At : Option Addr) (cc cd ct : Nat) (co : List Int) (ds : List Dv) (ts : List (List Int)) (r : Int) (Am : Option Addr) (cm : Nat) (M : List (List (List Int))) (Aa : Option Addr) (ca : Nat) (all : List (List Int)) (wP : Wd P) (wr : Wi r) (hF : FitA N T co ds ts M all) (hk : ∀ d ∈ ds, Wd d.k) (hw : (∀ R ∈ M, ∀ l ∈ R, Words l) ∧ ∀ l ∈ all, Words l) (w : World) (hL : LieA w Ac Ad At cc cd ct co ds ts Am cm M Aa ca all) :
    Calls Try.prog 5 #[.agg #[.int .u64 P, .int .i64 N, .int .i64 T, .slice Ac co.length cc, .slice Ad ds.length cd, .slice At ts.length ct, .int .i64 r, .slice Am M.length cm, .slice Aa all.length ca]] w fun e w' => e = .returned (.bool true) ∧ Below w.heap.size w w' := by
  have hX1 := Lib.hid (Ax.made w P N T (.slice Ac co.length cc) (.slice Ad ds.length cd) (.slice At ts.length ct) r (.slice Am M.length cm) (.slice Aa all.length ca))
  have hB1 := Lib.hid ((Below.refl _ w).alloc (Nat.le_refl _) (.cells #[.int .u64 P, .int .i64 N, .int .i64 T, .slice Ac co.length cc, .slice Ad ds.length cd, .slice At ts.length ct, .int .i64 r, .slice Am M.length cm, .slice Aa all.length ca] 32))
  have hL1 := hL.next hB1.out
  have hmay := fun W hW => may_any P N T wP Ac Ad At cc cd ct co ds ts r Am cm M Aa ca all hF W hW
  cases hq : mayB P N T co ds ts M all with
  | false =>
    rw [hq] at hmay
    go_enter Try.func5, Try.ntmps5
    go_wp2_with fail
    refine (hmay _ hL1).mono ?_; rintro e w1 ⟨rfl, hb⟩
    go_wp2_with fail
    refine (awake_any _).mono ?_; rintro e w2 ⟨rfl, hb2⟩
    go_wp2_with fail
    go_ret
    exact ⟨rfl, hB1.out.trans ((hb.trans (hb2.mono hb.size)).mono hB1.out.size)⟩
  | true =>
    rw [hq] at hmay
    obtain ⟨N, T, rfl, rfl, hO, hmN, hrN, haN, hf2, hf1, h30⟩ := may_good hq hk hw
    have hN13 := hO.coal.n13
    have hN4 := hO.coal.n4
    have hp := hO.coal.ok
    have hpb := hp.bd
    have hp0 : 0 < P := by omega
    rw [hmN, haN] at hX1 hB1 hL1 hmay ⊢
    have HmN := Lib.hid hmN
    have HrN := Lib.hid hrN
    have HaN := Lib.hid haN
    have HOK := Lib.hid hO
    clear hF hk hw hq hmN hrN haN hL
    have g1 := fun W h1 h2 h3 => ms_any P N T Ac Ad cc cd co ds (.slice At ts.length ct) r hO Am cm (rAt2 M) hf2 W h1 h2 h3
    have g2 := fun W h1 h2 h3 => bc_any P N T Ac Ad cc cd co ds (.slice At ts.length ct) r hO Aa ca (rAt all) hf1 W h1 h2 h3
    have g5 := fun x W h => corrupt_any P N T Ac cc co (.slice Ad ds.length cd) (.slice At ts.length ct) x hO.coal.l1000 W h
    have hself := fun i => msF_self P co N r ds (rAt2 M) i
    have hhm := fun (i j : Nat) (h : ((i : Int) + 1) ∉ co) => msF_honest P N r ds (rAt2 M) j h
    have hhb := fun (i : Nat) (h : ((i : Int) + 1) ∉ co) => bcF_honest P r ds (rAt all) h
    have hsm := fun i j => (hf2 i j).2
    have hsb := fun i => (hf1 i).2
    unfold sv at g1 g2 g5
    go_enter Try.func5, Try.ntmps5
    go_wp2_with fail
    refine (hmay _ hL1).mono ?_; rintro e w1 ⟨rfl, hb⟩
    have hX2 := Lib.hid (hX1.out.next hb)
    have hB2 := Lib.hid (hB1.out.trans (hb.mono hB1.out.size))
    have hL2 := hL1.next hb
    have hc2 := hL2.sc.co
    have hd2 := hL2.sc.ds
    have hm2 := hL2.ms.s2 HmN.out HrN.out
    have ha2 := Sf.of_sll hL2.al HaN.out
    clear hb hX1 hB1 hL1 hL2 hmay
    obtain ⟨c0, c1, c2, c3, c4, c5, c6, c7, c8, hlt⟩ := id hX2.out
    have hXN := hX2
    clear hX2 hO
    generalize rAt2 M = FM at *
    generalize rAt all = FB at *
    generalize msF P co N r ds FM = RM at *
    generalize bcF P co r ds FB = RB at *
    have q3 := Lib.hid (Below.refl w1.heap.size w1).drew
    go_wp2
    go_region_held3 (fun w' => w'.cell? ⟨w.heap.size, 0, none⟩ = some (.int .u64 P) ∧ w'.cell? ⟨w.heap.size, 1, none⟩ = some (.int .i64 N) ∧ w'.cell? ⟨w.heap.size, 2, none⟩ = some (.int .i64 T) ∧ w'.cell? ⟨w.heap.size, 3, none⟩ = some (.slice Ac co.length cc) ∧ w'.cell? ⟨w.heap.size, 4, none⟩ = some (.slice Ad ds.length cd) ∧ w'.cell? ⟨w.heap.size, 5, none⟩ = some (.slice At ts.length ct) ∧ w'.cell? ⟨w.heap.size, 6, none⟩ = some (.int .i64 r) ∧ w'.cell? ⟨w.heap.size, 7, none⟩ = some (.slice Am N cm) ∧ w'.cell? ⟨w.heap.size, 8, none⟩ = some (.slice Aa N ca))
      (refine ⟨?_, ?_, ?_, ?_, ?_, ?_, ?_, ?_, ?_⟩ <;> first | assumption | go_simp)
      (first
        | (go_at_call 13; refine (g1 _ (hc2.next q3.out) (hd2.next q3.out) (hm2.next q3.out)).mono ?_; rintro e w4 ⟨A4, k4, rfl, s4, hb4⟩; have q4 := Lib.hid (q3.out.trans hb4); obtain ⟨r0, r1, r2, r3, r4, r5, r6, r7, r8, _⟩ := hXN.out.next q4.out; clear hb4)
        | (go_at_call 16; with_reducible refine (g2 _ (hc2.next q4.out) (hd2.next q4.out) (ha2.next q4.out)).mono ?_; rintro e w5 ⟨A5, k5, rfl, s5, hb5⟩; have q5 := Lib.hid (q4.out.trans (hb5.mono q4.out.size)); have s45 := s4.next hb5; obtain ⟨t0, t1, t2, t3, t4, t5, t6, t7, t8, _⟩ := hXN.out.next q5.out; clear hb5))
    have hX5 := Lib.hid (hXN.out.next q5.out)
    have hB5 := Lib.hid (hB2.out.trans (q5.out.mono hB2.out.size))
    have hc5 := hc2.next q5.out
    have hm5 := hm2.next q5.out
    have ha5 := ha2.next q5.out
    have hNe : ((N : Int) != (N : Int)) = false := by rw [bne_eq_false_iff_eq]
    have hNI : (N : Int) ≤ 13 := by omega
    obtain ⟨b5, o5, rfl, hl5, _⟩ := s5.rd (by omega)
    obtain ⟨b6, o6, rfl, hl6, _⟩ := ha5.rd (by omega)
    have hk5 := s5.cap
    have hk6 := ha5.cap
    have S4 := Lib.hid s45
    have S5 := Lib.hid s5
    have HA5 := Lib.hid ha5
    clear g1 g2 s4 s45 s5 hc2 hd2 hm2 ha2 ha5 hXN q4 q5 hB2
    go_wp2
    go_loopw [5] (fun q wr => ∃ k : Nat, k ≤ N ∧ q = .int .i64 k ∧ Below w5.heap.size w5 wr) (fun q _ => N - (intOf q).toNat)
    case atStart => exact ⟨0, Nat.zero_le _, rfl, Below.refl _ _⟩
    case round =>
      obtain ⟨i, hi, rfl, hb⟩ := hrel
      obtain ⟨x0, x1, x2, x3, x4, x5, x6, x7, x8, hltx⟩ := id (hX5.out.next hb)
      by_cases hlt : i < N
      · have hiI : (i : Int) < N := by omega
        obtain ⟨b1, o1, A1, l1, rfl, hl1, hc1, hs1⟩ := (S4.out.next hb).at_ hlt
        obtain ⟨b2, o2, A2, l2, rfl, hl2, hc2, hs2⟩ := (hm5.next hb).at_ hlt
        obtain ⟨b3, o3, rfl, hl3, _⟩ := hs1.rd (by omega)
        obtain ⟨b4, o4, rfl, hl4, _⟩ := hs2.rd (by omega)
        have hk1 := hs1.cap
        have hk2 := hs2.cap
        have z1 : (i : Int) < l1 := by omega
        have z2 : (i : Int) < l2 := by omega
        have z3 : ¬ l1 = i := by omega
        have z4 : ¬ l2 = i := by omega
        have z5 : (i : Int) + 1 ≤ l1 := by omega
        have z6 : (i : Int) + 1 ≤ l2 := by omega
        have z7 : ¬ k5 = i := by omega
        have z8 : ¬ ca = i := by omega
        have z9 : (i : Int) + 1 ≤ k5 := by omega
        have zz : (i : Int) + 1 ≤ ca := by omega
        have ew : IntKind.i64.wrap ((i : Int) + 1) = (i : Int) + 1 := IntWalk.i64_in _ (by omega)
        have X0 := fun b : Beyond wr => (b.below.cell (p := ⟨w.heap.size, 0, none⟩) hltx).trans x0
        have X1 := fun b : Beyond wr => (b.below.cell (p := ⟨w.heap.size, 1, none⟩) hltx).trans x1
        have X2 := fun b : Beyond wr => (b.below.cell (p := ⟨w.heap.size, 2, none⟩) hltx).trans x2
        have X3 := fun b : Beyond wr => (b.below.cell (p := ⟨w.heap.size, 3, none⟩) hltx).trans x3
        have X4 := fun b : Beyond wr => (b.below.cell (p := ⟨w.heap.size, 4, none⟩) hltx).trans x4
        have X5 := fun b : Beyond wr => (b.below.cell (p := ⟨w.heap.size, 5, none⟩) hltx).trans x5
        have X7 := fun b : Beyond wr => (b.below.cell (p := ⟨w.heap.size, 7, none⟩) hltx).trans x7
        have X8 := fun b : Beyond wr => (b.below.cell (p := ⟨w.heap.size, 8, none⟩) hltx).trans x8
        have Y1 := fun b : Beyond wr => (b.below.cell (p := ⟨b1, o1 + i, none⟩) hl1).trans hc1
        have Y2 := fun b : Beyond wr => (b.below.cell (p := ⟨b2, o2 + i, none⟩) hl2).trans hc2
        have e1 : ∀ b : Beyond wr, Calls Try.prog 15 #[.slice (some ⟨b3, o3 + i, none⟩) 1 (l1 - i), .slice (some ⟨b4, o4 + i, none⟩) 1 (l2 - i)] b.W fun e w'' => e = .returned (.bool true) ∧ ∃ b' : Beyond wr, w'' = b'.W := fun b => b.of (same_yes _ _ _ _ 1 _ _ (by decide) (fun j _ => hself i) (fun j _ => by rw [hself i]; exact hsm i i) b.W ((hs1.next b.below).sub hlt) ((hs2.next b.below).sub hlt))
        go_wp2
        refine wp_region_beyond (by kernel_rfl) (by kernel_rfl) ?_
        repeat (go_big_quiet_step (exact e1 _))
        refine wpQuiet_nil ?_
        rintro w6 ⟨⟨_, hb6⟩, rfl⟩
        have hb' := hb.trans (hb6.mono hb.size)
        have HB' := Lib.hid hb'
        have hl1' := Nat.lt_of_lt_of_le hl1 hb6.size
        have hl2' := Nat.lt_of_lt_of_le hl2 hb6.size
        have hc1' := (hb6.cell (p := ⟨b1, o1 + i, none⟩) hl1).trans hc1
        have hc2' := (hb6.cell (p := ⟨b2, o2 + i, none⟩) hl2).trans hc2
        have hs1' := hs1.next hb6
        have hs2' := hs2.next hb6
        clear X0 X1 X2 X3 X4 X5 X7 X8 Y1 Y2 e1 x0 x1 x2 x3 x4 x5 x6 x7 x8 hltx hb6 hc1 hc2 hs1 hs2 hl1 hl2
        obtain ⟨x0, x1, x2, x3, x4, x5, x6, x7, x8, hltx⟩ := id (hX5.out.next hb')
        have X0 := fun b : Beyond w6 => (b.below.cell (p := ⟨w.heap.size, 0, none⟩) hltx).trans x0
        have X1 := fun b : Beyond w6 => (b.below.cell (p := ⟨w.heap.size, 1, none⟩) hltx).trans x1
        have X2 := fun b : Beyond w6 => (b.below.cell (p := ⟨w.heap.size, 2, none⟩) hltx).trans x2
        have X3 := fun b : Beyond w6 => (b.below.cell (p := ⟨w.heap.size, 3, none⟩) hltx).trans x3
        have X4 := fun b : Beyond w6 => (b.below.cell (p := ⟨w.heap.size, 4, none⟩) hltx).trans x4
        have X5 := fun b : Beyond w6 => (b.below.cell (p := ⟨w.heap.size, 5, none⟩) hltx).trans x5
        have X7 := fun b : Beyond w6 => (b.below.cell (p := ⟨w.heap.size, 7, none⟩) hltx).trans x7
        have X8 := fun b : Beyond w6 => (b.below.cell (p := ⟨w.heap.size, 8, none⟩) hltx).trans x8
        have Y1 := fun b : Beyond w6 => (b.below.cell (p := ⟨b1, o1 + i, none⟩) hl1').trans hc1'
        have Y2 := fun b : Beyond w6 => (b.below.cell (p := ⟨b2, o2 + i, none⟩) hl2').trans hc2'
        have c9 : ∀ b : Beyond w6, Calls Try.prog 18 #[.agg #[.int .u64 P, .int .i64 N, .int .i64 T, .slice Ac co.length cc, .slice Ad ds.length cd, .slice At ts.length ct], .int .i64 ((i : Int) + 1)] b.W fun e w'' => e = .returned (.bool (decide (((i : Int) + 1) ∈ co))) ∧ ∃ b' : Beyond w6, w'' = b'.W := fun b => b.of (g5 ((i : Int) + 1) b.W (hc5.next (hb'.trans (b.below.mono hb'.size))))
        by_cases hin : ((i : Int) + 1) ∈ co
        · rw [decide_eq_true hin] at c9
          clear hin
          go_wp2
          refine wp_region_beyond (by kernel_rfl) (by kernel_rfl) ?_
          repeat (go_big_quiet_step (exact c9 _))
          refine wpQuiet_nil ?_
          rintro _ ⟨⟨w7, hb7⟩, rfl⟩
          clear X0 X1 X2 X3 X4 X5 X7 X8 Y1 Y2 c9
          go_wp2
          go_roundw
          case rel => exact ⟨i + 1, by omega, by simp, HB'.out.trans (hb7.mono HB'.out.size)⟩
          case measure => simp [intOf]; omega
        · rw [decide_eq_false hin] at c9
          have e2 : ∀ b : Beyond w6, Calls Try.prog 15 #[.slice (some ⟨b3, o3, none⟩) N l1, .slice (some ⟨b4, o4, none⟩) N l2] b.W fun e w'' => e = .returned (.bool true) ∧ ∃ b' : Beyond w6, w'' = b'.W := fun b => b.of (same_yes _ _ _ _ N _ _ hN13 (fun j _ => hhm i j hin) (fun j _ => by rw [hhm i j hin]; exact hsm i j) b.W (hs1'.next b.below) (hs2'.next b.below))
          have e3 : ∀ b : Beyond w6, Calls Try.prog 15 #[.slice (some ⟨b5, o5 + i, none⟩) 1 (k5 - i), .slice (some ⟨b6, o6 + i, none⟩) 1 (ca - i)] b.W fun e w'' => e = .returned (.bool true) ∧ ∃ b' : Beyond w6, w'' = b'.W := fun b => b.of (same_yes _ _ _ _ 1 _ _ (by decide) (fun j _ => hhb i hin) (fun j _ => by rw [hhb i hin]; exact hsb i) b.W ((S5.out.next (hb'.trans (b.below.mono hb'.size))).sub hlt) ((HA5.out.next (hb'.trans (b.below.mono hb'.size))).sub hlt))
          clear hin
          go_wp2
          refine wp_region_beyond (by kernel_rfl) (by kernel_rfl) ?_
          repeat (go_big_quiet_step (first | (with_reducible exact c9 _) | (with_reducible exact e2 _) | (with_reducible exact e3 _)))
          refine wpQuiet_nil ?_
          rintro _ ⟨⟨w7, hb7⟩, rfl⟩
          clear X0 X1 X2 X3 X4 X5 X7 X8 Y1 Y2 c9 e2 e3
          go_wp2
          go_roundw
          case rel => exact ⟨i + 1, by omega, by simp, HB'.out.trans (hb7.mono HB'.out.size)⟩
          case measure => simp [intOf]; omega
      · obtain rfl : i = N := by omega
        go_wp2_with fail
        refine (awake_any _).mono ?_; rintro e w8 ⟨rfl, hb8⟩
        go_wp2_with fail
        go_ret
        exact ⟨rfl, hB5.out.trans ((hb.trans (hb8.mono hb.size)).mono hB5.out.size)⟩

theorem lifted (os : Os) (started : os.Started) (H : Type) (enc : TypeId × Value → H) :
    ReturnsInHanded {} Try.checked os 5 .any (Rows.adversaryHonestUnchangedSpec.pre6 enc Try.prog Try.f5 Rows.adversaryHonestUnchangedRow.domain false) (Rows.adversaryHonestUnchangedSpec.post enc Try.prog Try.f5 false true false false) := by
  refine returnsInHanded_of_change (C := Try.checked) own started (by kernel_rfl) Try.func5
    (ChangeSpec.witness6 (enc := enc) (C := Try.checked) false ⟨#[], #[.agg #[.int .u64 0, .int .i64 0, .int .i64 0, .slice none 0 0, .slice none 0 0, .slice none 0 0, .int .i64 0, .slice none 0 0, .slice none 0 0]], []⟩ 8 (by kernel_rfl) (by kernel_rfl) (by kernel_rfl) (by kernel_rfl)) ?_
  intro W base args ds gs before hval0 hW hcnd _
  have hval : ∀ (j : Nat) t v, Try.f5.params[j]? = some t → args[j]? = some v → Value.okWide Try.prog W .any base t v := hval0
  have hW' := hW
  obtain ⟨p, q, hA0, hV, rfl, hfz, hnd⟩ := hW
  have hA : DataW.TrodAll enc Try.prog W 0 (fun _ => true) true Try.f5.params.toList args.toList ds p := hA0
  rw [Try.params5] at hA hval
  obtain ⟨v0, d0, rfl, rfl, t0⟩ := trodAll_one hA
  obtain ⟨rfl, rfl⟩ := trodVars_none hV
  clear hA0 hval0
  simp only [List.append_nil] at hW'
  have l0 : ∀ x ∈ p, x.block < W.heap.size := fun x hx => hW'.lt x (by simp [hx])
  obtain ⟨P0, N0, T0, Ac0, Ad0, At0, cc0, cd0, ct0, co0, ds0, ts0, rd0, Am0, cm0, M0, Aa0, ca0, all0, rfl, b0, e0, f0, g0, h0, r0⟩ := arg_ask13 (hval 0 32 v0 rfl rfl) t0 l0
  refine (walk P0 N0 T0 Ac0 Ad0 At0 cc0 cd0 ct0 co0 ds0 ts0 rd0 Am0 cm0 M0 Aa0 ca0 all0 b0 e0 f0 g0 h0 W r0).mono fun e W' ⟨he, hb⟩ => ?_
  subst he
  exact ⟨_, rfl, post_of_below (pa := p) (pv := []) hW' (fun _ _ _ => (trodAll_cons_mk (shut_bool Try.underlying4 _) trodAll_mk0)) (fun sp hsp => trodAll_mk1 (stay_ask13 t0 hb l0 sp (fun x hx => hsp x (by simp [hx])))) (fun _ _ => rfl) (by simp)
    hb (ok_one (by kernel_rfl) rfl (okWide_bool_mk Try.underlying4 _))⟩

theorem over : Rows.adversaryHonestUnchangedRow.holds Try.pinned (OpenSpec.ofChange Rows.adversaryHonestUnchangedSpec) :=
  OpenClaim.holds_of_wide 5 Try.f5 rfl rfl rfl rfl rfl rfl rfl ⟨rfl, rfl, rfl, rfl, rfl⟩ rfl rfl rfl rfl rfl (by kernel_rfl) Try.func5 (by kernel_rfl)
    (of_decide_eq_true (by kernel_rfl)) (by unfold Func.isWrapper; first | (rw [if_pos (by decide +kernel)]; kernel_rfl) | (rw [if_neg (by decide +kernel)]; exact ⟨rfl, rfl⟩))
    (fun os started H enc _ => lifted os started H enc)

theorem proved : Rows.AdversaryHonestUnchangedSaid := over
end Go.Proofs.Ytbhphamfkhccpaa.adversaryHonestUnchanged
