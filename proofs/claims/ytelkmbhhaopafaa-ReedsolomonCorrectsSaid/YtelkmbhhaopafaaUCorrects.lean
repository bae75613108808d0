/- However the points of a polynomial are altered, as long as the parameters are valid for the number of alterations, Decode finds the polynomial and reports exactly the altered points. No conditions. -/
import Derived.Test.YtelkmbhhaopafaaVAlt
import Derived.Test.YtelkmbhhaopafaaVOpen
import Derived.Test.YtelkmbhhaopafaaMB
namespace Go.Proofs.Ytelkmbhhaopafaa.reedsolomonCorrects
set_option maxRecDepth 100000
open Go.ChangeShapes Go.WideShapes Go.ChangeAt Go.RowKit PolyMath FieldMath MatMath

set_option maxHeartbeats 4000000 in
theorem walk (P : Int) (AF : Option Addr) (cF : Nat) (F : List Int) (N : Nat) (BC : Option Addr) (cC : Nat) (C : List (Int × Int)) (more : Nat) (hP : Wd P) (wF : Words F) (bN : N ≤ 255) (wC : PWords C) (_bmore : more ≤ 255) (w : World) (sF : Sl w AF cF F) (sC : Pt w BC cC C) : Calls Try.prog 5 #[.agg #[.int .u64 P, .slice AF F.length cF, .int .u8 N, .slice BC C.length cC], .int .u8 more] w fun e w' => e = .returned (.bool true) ∧ Below w.heap.size w w' := by
  have hp := fitP_ok P
  have hB0 : Below w.heap.size w (w.alloc (.cells #[.int .u64 P, .slice AF F.length cF, .int .u8 N, .slice BC C.length cC] 42)) := (Below.refl _ w).alloc (Nat.le_refl _) _
  have hmd := made8_row P hP.1 hP.2 AF cF F wF N bN BC cC C wC _ (sF.next hB0) (sC.next hB0)
  generalize fitP P = p at *
  have hbd := hp.bd
  have hwd := wdN_el (p := p) (by omega) F 4
  have hwl := wdN_len p F 4
  generalize wdN p F 4 = G at *
  obtain ⟨n, hn⟩ : ∃ n, n = 1 + N % 13 := ⟨_, rfl⟩
  rw [← hn] at hmd
  have hn13 : 1 ≤ n ∧ n ≤ 13 := by omega
  clear hn
  obtain ⟨r, hr⟩ : ∃ r, r = more % 3 := ⟨_, rfl⟩
  have hr3 : r < 3 := by omega
  have tr : (more : Int).tmod 3 = (r : Int) := by rw [Int.tmod_eq_emod_of_nonneg (by omega)]; omega
  have wr8 : IntKind.u8.wrap (r : Int) = (r : Int) := by
    have e1 : IntKind.u8.wrap (r : Int) = (r : Int) % 256 := rfl
    omega
  have wri : IntKind.i64.wrap (r : Int) = (r : Int) := IntWalk.i64_in _ (by omega)
  clear hr
  go_enter Try.func5, Try.ntmps5
  go_wp2_with fail
  refine hmd.mono ?_
  rintro e w1 ⟨ps, bs, A1, c1, B1, g1, D1, h1, hAl, rfl, s1, p1, f1, b1⟩
  have hB1 := hB0.trans (b1.mono hB0.size)
  have hmy := fun W (h : Sb W D1 h1 bs) => many_any D1 h1 bs (by rw [hAl.bl]; omega) W h
  simp only [hAl.bl] at hmy
  have hKn := cnt_le bs n
  have hlE := Lib.hid hAl.len
  have hok := fun (wn : Nat) (hc : cnt bs n ≤ wn) (hw : 4 + 2 * wn ≤ n) W (h : Pt W B1 g1 ps) => alt_ok hp hAl hwd hwl (by omega) hc hw B1 g1 W h
  have hAT : Hid (∀ (i : Nat) (a : Int), (errI p G ps)[i]? = some a → ∃ q : Nat, a = q ∧ q < n ∧ bs[q]? = some true) := Lib.hid fun i a => hAl.err_at
  have hLT : Hid (∀ (i : Nat) (a b : Int), 1 ≤ i → (errI p G ps)[i - 1]? = some a → (errI p G ps)[i]? = some b → a < b) := Lib.hid fun i a b => hAl.err_lt
  have hbl := Lib.hid hAl.bl
  have HAL := Lib.hid hAl
  have htl : (trim G).length ≤ 4 := by rw [trim_length]; have := tn_le G; omega
  have hsa := fun A B c c' W h h' => same8_any A B G (trim G) c c' W h h' (by omega) (by omega)
  simp only [trim_trim, decide_true] at hsa
  have hno := fun (wn M : Nat) (hc : cnt bs n ≤ M) (hM : 4 + 2 * M ≤ n) (hw : wn < cnt bs n) W (h : Pt W B1 g1 ps) => alt_no hp HAL.out hwd hwl (by omega) hc hM hw B1 g1 W h
  obtain ⟨K, hK⟩ : ∃ K, K = cnt bs n := ⟨_, rfl⟩
  simp only [← hK] at hmy hKn hok hno
  rw [← hK] at hlE
  clear hmd b1 hB0 hAl hK
  obtain ⟨wn, hwn⟩ : ∃ wn, wn = K + r := ⟨_, rfl⟩
  have hwI : (K : Int) + (r : Int) = (wn : Int) := by omega
  have w1_ : IntKind.i64.wrap ((K : Int) + (r : Int)) = (wn : Int) := by rw [hwI]; exact IntWalk.i64_in _ (by omega)
  have w2_ : IntKind.i64.wrap (2 * (wn : Int)) = 2 * (wn : Int) := IntWalk.i64_in _ (by omega)
  have w3_ : IntKind.i64.wrap (4 + 2 * (wn : Int)) = 4 + 2 * (wn : Int) := IntWalk.i64_in _ (by omega)
  have hwb : wn ≤ 16 ∧ K ≤ wn := by omega
  clear hwn hwI
  go_wp2_with fail
  refine (hmy w1 f1).mono ?_
  rintro e w' ⟨rfl, rfl⟩
  by_cases hlt : (n : Int) < 4 + 2 * (wn : Int)
  · go_wp2_with fail
    refine (awake8_any _).mono ?_
    rintro e w2 ⟨rfl, bA⟩
    have hBZ := hB1.trans (bA.mono hB1.size)
    clear bA
    go_wp2
    go_ret
    exact ⟨rfl, hBZ⟩
  · have hge : 4 + 2 * wn ≤ n := by omega
    have hltd : decide ((n : Int) < 4 + 2 * (wn : Int)) = false := decide_eq_false hlt
    go_wp2_with fail
    refine (hok wn hwb.2 hge w' p1).mono ?_
    rintro e w2 ⟨A2, c2, A3, c3, rfl, s2, i2, b2⟩
    have hB2 := hB1.trans (b2.mono hB1.size)
    have s3 := s1.next b2
    have f3 := f1.next b2
    clear hok hno hlt b2 s1 f1 p1
    generalize errI p G ps = l at *
    generalize trim G = Q at *
    go_wp2_with fail
    refine (hsa A1 A2 c1 c2 w2 s3 s2).mono ?_
    rintro e w3 ⟨rfl, b3⟩
    have hB3 := hB2.trans (b3.mono hB2.size)
    have f4 := f3.next b3
    have i4 := i2.next b3
    clear b3 s3 s2 hsa f3 i2
    go_wp2_with fail
    refine (hmy w3 f4).mono ?_
    rintro e w' ⟨rfl, rfl⟩
    go_wp2_with fail
    go_loopw [14] (fun v W => ∃ (i m : Nat), i ≤ K ∧ v = .int .i64 i ∧ W = w'.drewN m) (fun v _ => K - (intOf v).toNat)
    case atStart => exact ⟨0, 0, Nat.zero_le _, rfl, rfl⟩
    case round =>
      obtain ⟨i, m, hi, rfl, rfl⟩ := hrel
      by_cases hil : i < K
      · obtain ⟨b7, o7, a, hA7, hb7, ha, hca⟩ := i4.at_ (k := i) (by rw [hlE.out]; exact hil)
        subst hA7
        obtain ⟨q, rfl, hqn, hbq⟩ := hAT.out i a ha
        obtain ⟨b8, o8, fl, hA8, hb8, hfl, hcf⟩ := f4.at_ (k := q) (by rw [hbl.out]; exact hqn)
        subst hA8
        obtain rfl : fl = true := by rw [hbq] at hfl; injection hfl with h9; exact h9.symm
        have cA : ∀ t, (w'.drewN (m + t)).cell? ⟨b7, o7 + i, none⟩ = some (.int .i64 (q : Int)) := fun t => ((below_drewN (Below.refl _ w') (m + t)).cell (p := ⟨b7, o7 + i, none⟩) hb7).trans hca
        have cF_ : ∀ t, (w'.drewN (m + t)).cell? ⟨b8, o8 + q, none⟩ = some (.bool true) := fun t => ((below_drewN (Below.refl _ w') (m + t)).cell (p := ⟨b8, o8 + q, none⟩) hb8).trans hcf
        have hiI : (i : Int) < K := by omega
        have hqI : (q : Int) < n := by omega
        have hq0 : decide ((q : Int) < 0) = false := decide_eq_false (by omega)
        have hq1 : decide ((n : Int) ≤ q) = false := decide_eq_false (by omega)
        have hq2 : decide (n ≤ q) = false := decide_eq_false (by omega)
        by_cases h0 : i = 0
        · have hi0 : decide (0 < i) = false := decide_eq_false (by omega)
          have hi1 : ¬ (0 : Int) < i := by omega
          clear hfl hbq h0
          go_wp2
          go_quiet (fail)
          go_wp2
          go_roundw
          case rel => exact ⟨i + 1, _, by omega, by simp, by first | rfl | (simp; rfl)⟩
          case measure => simp [intOf]; omega
        · obtain ⟨b9, o9, a', hA9, hb9, ha', hca'⟩ := i4.at_ (k := i - 1) (by rw [hlE.out]; omega)
          injection hA9 with hA9
          injection hA9 with e1 e2
          subst e1 e2
          have hlt' := hLT.out i a' q (by omega) ha' ha
          have cB : ∀ t, (w'.drewN (m + t)).cell? ⟨b7, o7 + (i - 1), none⟩ = some (.int .i64 a') := fun t => ((below_drewN (Below.refl _ w') (m + t)).cell (p := ⟨b7, o7 + (i - 1), none⟩) hb7).trans hca'
          have hi0 : decide (0 < i) = true := decide_eq_true (by omega)
          have hip : (0 : Int) < i := by omega
          have hi1 : (0 : Int) ≤ (i : Int) - 1 := by omega
          have hi2 : (i : Int) - 1 < K := by omega
          have hi3 : ((i : Int) - 1).toNat = i - 1 := by omega
          have wi : IntKind.i64.wrap ((i : Int) - 1) = (i : Int) - 1 := IntWalk.i64_in _ (by omega)
          have hab : decide ((q : Int) ≤ a') = false := decide_eq_false (by omega)
          clear hfl hbq ha ha'
          go_wp2
          go_quiet (fail)
          go_wp2
          go_roundw
          case rel => exact ⟨i + 1, _, by omega, by simp, by first | rfl | (simp; rfl)⟩
          case measure => simp [intOf]; omega
      · obtain rfl : i = K := by omega
        have hB7 := below_drewN hB3 m
        go_wp2_with fail
        refine (awake8_any _).mono ?_
        rintro e w6 ⟨rfl, bA⟩
        have hBZ := hB7.trans (bA.mono hB7.size)
        clear bA
        go_wp2
        go_ret
        exact ⟨rfl, hBZ⟩

theorem lifted (os : Os) (started : os.Started) (H : Type) (enc : TypeId × Value → H) :
    ReturnsInHanded {} Try.checked os 5 .any (Rows.reedsolomonCorrectsSpec.pre6 enc Try.prog Try.f5 Rows.reedsolomonCorrectsRow.domain false) (Rows.reedsolomonCorrectsSpec.post enc Try.prog Try.f5 false true false false) := by
  refine returnsInHanded_of_change (C := Try.checked) own started (by kernel_rfl) Try.func5
    (ChangeSpec.witness6 (enc := enc) (C := Try.checked) false ⟨#[], #[.agg #[.int .u64 0, .slice none 0 0, .int .u8 0, .slice none 0 0], .int .u8 0], []⟩ 8 (by kernel_rfl) (by kernel_rfl) (by kernel_rfl) (by kernel_rfl)) ?_
  intro W base args ds gs before hval0 hW hcnd _
  have hval : ∀ (j : Nat) t v, Try.f5.params[j]? = some t → args[j]? = some v → Value.okWide Try.prog W .any base t v := hval0
  have hW' := hW
  obtain ⟨p, q, hA0, hV, rfl, hfz, hnd⟩ := hW
  have hA : DataW.TrodAll enc Try.prog W 0 (fun _ => true) true Try.f5.params.toList args.toList ds p := hA0
  rw [Try.params5] at hA hval
  obtain ⟨v0, v1, d0, d1, p0, p1, rfl, rfl, rfl, t0, t1⟩ := trodAll_two hA
  obtain ⟨rfl, rfl⟩ := trodVars_none hV
  clear hA0 hval0
  simp only [List.append_nil] at hW'
  have l0 : ∀ x ∈ p0, x.block < W.heap.size := fun x hx => hW'.lt x (by simp [hx])
  obtain ⟨x0, A0, m0, c0, n0, B0, q0, e0, rfl, h0, s0, w0, u0, s9, w9⟩ := arg_made8 (hval 0 42 v0 rfl rfl) t0 l0
  have l1 : ∀ x ∈ p1, x.block < W.heap.size := fun x hx => hW'.lt x (by simp [hx])
  obtain ⟨x1, rfl, b1⟩ := arg_u8 (hval 1 5 v1 rfl rfl) t1
  refine (walk x0 A0 c0 m0 n0 B0 e0 q0 x1 h0 w0 u0 w9 b1 W s0 s9).mono fun e W' ⟨he, hb⟩ => ?_
  subst he
  exact ⟨_, rfl, post_of_below (pa := p0 ++ p1) (pv := []) hW' (fun _ _ _ => (trodAll_cons_mk (shut_bool Try.underlying4 _) trodAll_mk0)) (fun sp hsp => trodAll_mk2 (stay_made8 t0 hb l0 sp (fun x hx => hsp x (by simp [hx]))) (stay_u8 t1 hb l1 sp (fun x hx => hsp x (by simp [hx])))) (fun _ _ => rfl) (by simp)
    hb (ok_one (by kernel_rfl) rfl (okWide_bool_mk Try.underlying4 _))⟩

theorem over : Rows.reedsolomonCorrectsRow.holds Try.pinned (OpenSpec.ofChange Rows.reedsolomonCorrectsSpec) :=
  OpenClaim.holds_of_wide 5 Try.f5 rfl rfl rfl rfl rfl rfl rfl ⟨rfl, rfl, rfl, rfl, rfl⟩ rfl rfl rfl rfl rfl (by kernel_rfl) Try.func5 (by kernel_rfl)
    (of_decide_eq_true (by kernel_rfl)) (by unfold Func.isWrapper; first | (rw [if_pos (by decide +kernel)]; kernel_rfl) | (rw [if_neg (by decide +kernel)]; exact ⟨rfl, rfl⟩))
    (fun os started H enc _ => lifted os started H enc)

theorem proved : Rows.ReedsolomonCorrectsSaid := over
end Go.Proofs.Ytelkmbhhaopafaa.reedsolomonCorrects
