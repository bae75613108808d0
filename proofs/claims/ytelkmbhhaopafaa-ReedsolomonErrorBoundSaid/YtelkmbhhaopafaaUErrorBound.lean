/- Decode with an error bound equal to the number of errors returns the same result, and with a bound that is smaller by one the error. No conditions. -/
import Derived.Test.YtelkmbhhaopafaaVAlt
import Derived.Test.YtelkmbhhaopafaaVOpen
import Derived.Test.YtelkmbhhaopafaaMB
namespace Go.Proofs.Ytelkmbhhaopafaa.reedsolomonErrorBound
set_option maxRecDepth 100000
open Go.ChangeShapes Go.WideShapes Go.ChangeAt Go.RowKit PolyMath FieldMath MatMath

set_option maxHeartbeats 4000000 in
theorem walk (P : Int) (AF : Option Addr) (cF : Nat) (F : List Int) (N : Nat) (BC : Option Addr) (cC : Nat) (C : List (Int × Int)) (hP : Wd P) (wF : Words F) (bN : N ≤ 255) (wC : PWords C) (w : World) (sF : Sl w AF cF F) (sC : Pt w BC cC C) : Calls Try.prog 8 #[.agg #[.int .u64 P, .slice AF F.length cF, .int .u8 N, .slice BC C.length cC]] w fun e w' => e = .returned (.bool true) ∧ Below w.heap.size w w' := by
  have hp := fitP_ok P
  have hB0 : Below w.heap.size w (w.alloc (.cells #[.int .u64 P, .slice AF F.length cF, .int .u8 N, .slice BC C.length cC] 42)) := (Below.refl _ w).alloc (Nat.le_refl _) _
  have hmd := made8_row P hP.1 hP.2 AF cF F wF N bN BC cC C wC _ (sF.next hB0) (sC.next hB0)
  generalize fitP P = p at *
  have hbd := hp.bd
  have hwd := wdN_el (p := p) (by omega) F 4
  have hwl := wdN_len p F 4
  generalize wdN p F 4 = G at *
  obtain ⟨n, hn⟩ : ∃ n, n = 1 + N % 13 := ⟨_, rfl⟩
  rw [← hn] at hmd
  have hn13 : 1 ≤ n ∧ n ≤ 13 := by omega
  clear hn
  go_enter Try.func8, Try.ntmps8
  go_wp2_with fail
  refine hmd.mono ?_
  rintro e w1 ⟨ps, bs, A1, c1, B1, g1, D1, h1, hAl, rfl, s1, p1, f1, b1⟩
  have hB1 := hB0.trans (b1.mono hB0.size)
  have hmy := fun W (h : Sb W D1 h1 bs) => many_any D1 h1 bs (by rw [hAl.bl]; omega) W h
  simp only [hAl.bl] at hmy
  have hKn := cnt_le bs n
  have hlE := Lib.hid hAl.len
  have hok := fun (wn : Nat) (hc : cnt bs n ≤ wn) (hw : 4 + 2 * wn ≤ n) W (h : Pt W B1 g1 ps) => alt_ok hp hAl hwd hwl (by omega) hc hw B1 g1 W h
  have hAT : Hid (∀ (i : Nat) (a : Int), (errI p G ps)[i]? = some a → ∃ q : Nat, a = q ∧ q < n ∧ bs[q]? = some true) := Lib.hid fun i a => hAl.err_at
  have hLT : Hid (∀ (i : Nat) (a b : Int), 1 ≤ i → (errI p G ps)[i - 1]? = some a → (errI p G ps)[i]? = some b → a < b) := Lib.hid fun i a b => hAl.err_lt
  have hbl := Lib.hid hAl.bl
  have HAL := Lib.hid hAl
  have htl : (trim G).length ≤ 4 := by rw [trim_length]; have := tn_le G; omega
  have hsa := fun A B c c' W h h' => same8_any A B G (trim G) c c' W h h' (by omega) (by omega)
  simp only [trim_trim, decide_true] at hsa
  have hno := fun (wn M : Nat) (hc : cnt bs n ≤ M) (hM : 4 + 2 * M ≤ n) (hw : wn < cnt bs n) W (h : Pt W B1 g1 ps) => alt_no hp HAL.out hwd hwl (by omega) hc hM hw B1 g1 W h
  obtain ⟨K, hK⟩ : ∃ K, K = cnt bs n := ⟨_, rfl⟩
  simp only [← hK] at hmy hKn hok hno
  rw [← hK] at hlE
  clear hmd b1 hB0 hAl hK
  obtain ⟨v, hv⟩ : ∃ v : Int, v = ((n : Int) - 4).tdiv 2 := ⟨_, rfl⟩
  have hvb : -4 ≤ v ∧ v ≤ 5 ∧ (4 ≤ n → v = ((n - 4) / 2 : Nat)) := by
    by_cases h4 : 4 ≤ n
    · rw [hv, Int.tdiv_eq_ediv_of_nonneg (by omega)]; omega
    · rcases (show n = 1 ∨ n = 2 ∨ n = 3 by omega) with h | h | h <;> (subst h; subst hv; decide)
  have w1_ : IntKind.i64.wrap ((n : Int) - 4) = (n : Int) - 4 := IntWalk.i64_in _ (by omega)
  have w2_ : ((n : Int) - 4).tdiv 2 = v := hv.symm
  have w3_ : IntKind.i64.wrap v = v := IntWalk.i64_in _ (by omega)
  clear hv
  by_cases h4 : n < 4
  · have h4I : (n : Int) < 4 := by omega
    go_wp2_with fail
    refine (awake8_any _).mono ?_
    rintro e w2 ⟨rfl, bA⟩
    have hBZ := hB1.trans (bA.mono hB1.size)
    clear bA
    go_wp2
    go_ret
    exact ⟨rfl, hBZ⟩
  · have h4I : ¬ (n : Int) < 4 := by omega
    obtain ⟨M, hM⟩ : ∃ M : Nat, M = (n - 4) / 2 := ⟨_, rfl⟩
    have hvM : v = (M : Int) := by rw [hM]; exact hvb.2.2 (by omega)
    have hM2 : 4 + 2 * M ≤ n := by omega
    subst hvM
    clear hM hvb h4
    go_wp2_with fail
    refine (hmy w1 f1).mono ?_
    rintro e w' ⟨rfl, rfl⟩
    by_cases hgt : (M : Int) < K
    · go_wp2_with fail
      refine (awake8_any _).mono ?_
      rintro e w2 ⟨rfl, bA⟩
      have hBZ := hB1.trans (bA.mono hB1.size)
      clear bA
      go_wp2
      go_ret
      exact ⟨rfl, hBZ⟩
    · have hKM : K ≤ M := by omega
      go_wp2_with fail
      refine (hok M hKM hM2 w' p1).mono ?_
      rintro e w2 ⟨A2, c2, A3, c3, rfl, s2, i2, b2⟩
      have hB2 := hB1.trans (b2.mono hB1.size)
      have p2 := p1.next b2
      have hKM2 : ¬ (M : Int) < K := by omega
      clear b2
      go_wp2_with fail
      refine (hok K (Nat.le_refl _) (by omega) w2 p2).mono ?_
      rintro e w3 ⟨A4, c4, A5, c5, rfl, s4, i4, b4⟩
      have hB4 := hB2.trans (b4.mono hB2.size)
      have p4 := p2.next b4
      have s3 := s2.next b4
      have i3 := i2.next b4
      clear b4 s2 i2 p2 p1 s1 f1 hok hsa hmy
      have hqe := fun A B c c' W h h' => equal_is A B (trim G) (trim G) c c' W h h' (by omega) rfl
      have hpl := fun A B c c' W h h' => places_is A B (errI p G ps) c c' W h h' (by rw [hlE.out]; omega)
      rw [hlE.out] at hpl
      go_wp2_with fail
      refine (hqe A2 A4 c2 c4 w3 s3 s4).mono ?_
      rintro e w5 ⟨rfl, b5⟩
      have hB5 := hB4.trans (b5.mono hB4.size)
      have p5 := p4.next b5
      have i5 := i3.next b5
      have i6 := i4.next b5
      clear b5 s3 s4 i3 i4 p4
      go_wp2_with fail
      refine (hpl A3 A5 c3 c5 w5 i5 i6).mono ?_
      rintro e w6 ⟨rfl, b6⟩
      have hB6 := hB5.trans (b6.mono hB5.size)
      have p6 := p5.next b6
      clear b6 i5 i6 p5
      by_cases hK0 : K = 0
      · have hKI : (K : Int) = 0 := by omega
        go_wp2_with fail
        refine (awake8_any _).mono ?_
        rintro e w7 ⟨rfl, bA⟩
        have hBZ := hB6.trans (bA.mono hB6.size)
        clear bA
        go_wp2
        go_ret
        exact ⟨rfl, hBZ⟩
      · have hKI : ¬ (K : Int) = 0 := by omega
        have hKb : ((K : Int) == 0) = false := beq_eq_false_iff_ne.2 hKI
        have hdn := hno (K - 1) M hKM hM2 (by omega) w6 p6
        have hk1 : ((K - 1 : Nat) : Int) = (K : Int) - 1 := by omega
        rw [hk1] at hdn
        have wk : IntKind.i64.wrap ((K : Int) - 1) = (K : Int) - 1 := IntWalk.i64_in _ (by omega)
        clear hk1
        go_wp2_with fail
        refine hdn.mono ?_
        rintro e w7 ⟨rfl, b7⟩
        have hB7 := hB6.trans (b7.mono hB6.size)
        go_wp2_with fail
        refine (awake8_any _).mono ?_
        rintro e w8 ⟨rfl, bA⟩
        have hBZ := hB7.trans (bA.mono hB7.size)
        clear bA
        go_wp2
        go_ret
        exact ⟨rfl, hBZ⟩

theorem lifted (os : Os) (started : os.Started) (H : Type) (enc : TypeId × Value → H) :
    ReturnsInHanded {} Try.checked os 8 .any (Rows.reedsolomonErrorBoundSpec.pre6 enc Try.prog Try.f8 Rows.reedsolomonErrorBoundRow.domain false) (Rows.reedsolomonErrorBoundSpec.post enc Try.prog Try.f8 false true false false) := by
  refine returnsInHanded_of_change (C := Try.checked) own started (by kernel_rfl) Try.func8
    (ChangeSpec.witness6 (enc := enc) (C := Try.checked) false ⟨#[], #[.agg #[.int .u64 0, .slice none 0 0, .int .u8 0, .slice none 0 0]], []⟩ 8 (by kernel_rfl) (by kernel_rfl) (by kernel_rfl) (by kernel_rfl)) ?_
  intro W base args ds gs before hval0 hW hcnd _
  have hval : ∀ (j : Nat) t v, Try.f8.params[j]? = some t → args[j]? = some v → Value.okWide Try.prog W .any base t v := hval0
  have hW' := hW
  obtain ⟨p, q, hA0, hV, rfl, hfz, hnd⟩ := hW
  have hA : DataW.TrodAll enc Try.prog W 0 (fun _ => true) true Try.f8.params.toList args.toList ds p := hA0
  rw [Try.params8] at hA hval
  obtain ⟨v0, d0, rfl, rfl, t0⟩ := trodAll_one hA
  obtain ⟨rfl, rfl⟩ := trodVars_none hV
  clear hA0 hval0
  simp only [List.append_nil] at hW'
  have l0 : ∀ x ∈ p, x.block < W.heap.size := fun x hx => hW'.lt x (by simp [hx])
  obtain ⟨x0, A0, m0, c0, n0, B0, q0, e0, rfl, h0, s0, w0, u0, s9, w9⟩ := arg_made8 (hval 0 42 v0 rfl rfl) t0 l0
  refine (walk x0 A0 c0 m0 n0 B0 e0 q0 h0 w0 u0 w9 W s0 s9).mono fun e W' ⟨he, hb⟩ => ?_
  subst he
  exact ⟨_, rfl, post_of_below (pa := p) (pv := []) hW' (fun _ _ _ => (trodAll_cons_mk (shut_bool Try.underlying4 _) trodAll_mk0)) (fun sp hsp => trodAll_mk1 (stay_made8 t0 hb l0 sp (fun x hx => hsp x (by simp [hx])))) (fun _ _ => rfl) (by simp)
    hb (ok_one (by kernel_rfl) rfl (okWide_bool_mk Try.underlying4 _))⟩

theorem over : Rows.reedsolomonErrorBoundRow.holds Try.pinned (OpenSpec.ofChange Rows.reedsolomonErrorBoundSpec) :=
  OpenClaim.holds_of_wide 8 Try.f8 rfl rfl rfl rfl rfl rfl rfl ⟨rfl, rfl, rfl, rfl, rfl⟩ rfl rfl rfl rfl rfl (by kernel_rfl) Try.func8 (by kernel_rfl)
    (of_decide_eq_true (by kernel_rfl)) (by unfold Func.isWrapper; first | (rw [if_pos (by decide +kernel)]; kernel_rfl) | (rw [if_neg (by decide +kernel)]; exact ⟨rfl, rfl⟩))
    (fun os started H enc _ => lifted os started H enc)

theorem proved : Rows.ReedsolomonErrorBoundSaid := over
end Go.Proofs.Ytelkmbhhaopafaa.reedsolomonErrorBound
