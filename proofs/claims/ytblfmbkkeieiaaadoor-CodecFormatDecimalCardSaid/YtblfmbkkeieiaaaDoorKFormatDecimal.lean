/- CodecFormatDecimal: for every two words the decimal form is the reference's, it parses to the number, and different numbers have different forms. Conditions: the variables that the row lists hold what it lists. -/
import Derived.Test.YtblfmbkkeieiaaaDoorCRow
import Derived.Test.YtblfmbkkeieiaaaDoorCRefEnc
import Derived.Test.YtblfmbkkeieiaaaDoorCRefDec
import Derived.Test.YtblfmbkkeieiaaaDoorCRefNum
namespace Go.Proofs.YtblfmbkkeieiaaaDoor.codecFormatDecimal
open Go.ChangeShapes Go.WideShapes Go.ChangeAt Go.RowKit CodMath

set_option maxRecDepth 100000 in
set_option maxHeartbeats 2000000 in
theorem walk (n m : Int) (h0 : 0 ≤ n) (h1 : n ≤ 18446744073709551615) (k0 : 0 ≤ m) (k1 : m ≤ 18446744073709551615) (w : World) (hE : Env w) :
    Calls Tryd.prog 8 #[.int .u64 n, .int .u64 m] w fun e w' => e = .returned (.bool true) ∧ Below w.heap.size w w' := by
  have hN := fun w h => format_any n h0 h1 w h
  have hM := fun w h => format_any m k0 k1 w h
  have hR := fun w => rFormat_any n h0 h1 w
  obtain ⟨s, hs⟩ : ∃ s : ByteArray, s = ⟨(Lib.decDigits n.toNat).toArray⟩ := ⟨_, rfl⟩
  obtain ⟨t, ht⟩ : ∃ t : ByteArray, t = ⟨(Lib.decDigits m.toNat).toArray⟩ := ⟨_, rfl⟩
  have hsz : s.size ≤ 20 := by
    have h2 := dec_short_len (u := n.toNat) (by omega)
    have h3 : s.size = (Lib.decDigits n.toNat).length := by rw [hs]; rfl
    omega
  have hP := fun w h => parse_any s (by omega) w h
  have hpd : pdec s.data.toList = (n.toNat, 0) := by rw [hs]; exact pdec_dec (by omega)
  rw [hpd] at hP
  simp only [pAns, Int.toNat_of_nonneg h0] at hP
  simp only [← hs] at hN hR
  simp only [← ht] at hM
  by_cases hnm : n = m
  · subst hnm
    obtain rfl : s = t := by rw [hs, ht]
    clear hs ht hpd hsz
    go_enter Tryd.func8, Tryd.ntmps8
    go_wp2_with fail
    refine (hN _ hE.1).mono ?_; clear hN; rintro e w1 ⟨rfl, hB⟩
    go_wp2_with fail
    refine (hP _ (hE.next hB).2).mono ?_; clear hP; rintro e w2 ⟨rfl, hb⟩
    replace hB := hB.trans (hb.mono hB.size)
    clear hb
    go_wp2_with fail
    refine (awake_any _ (hE.next hB)).mono ?_; rintro e wa ⟨rfl, hb⟩
    replace hB := hB.trans (hb.mono hB.size)
    clear hb
    go_wp2_with fail
    refine (hR _).mono ?_; clear hR; rintro e w4 ⟨rfl, hb⟩
    replace hB := hB.trans (hb.mono hB.size)
    clear hb
    go_wp2_with fail
    refine (hM _ (hE.next hB).1).mono ?_; clear hM; rintro e w5 ⟨rfl, hb⟩
    replace hB := hB.trans (hb.mono hB.size)
    clear hb
    go_wp2_with fail
    go_ret
    exact ⟨rfl, hB⟩
  · have hst : t ≠ s := fun e => hnm (by
      rw [hs, ht] at e
      have h5 : (Lib.decDigits m.toNat).toArray = (Lib.decDigits n.toNat).toArray := congrArg ByteArray.data e
      have := dec_inj (congrArg Array.toList h5)
      omega)
    have hmn : (m == n) = false := beq_false_of_ne fun e => hnm e.symm
    have hts := str_ne hst
    clear hs ht hpd hsz hst
    go_enter Tryd.func8, Tryd.ntmps8
    go_wp2_with fail
    refine (hN _ hE.1).mono ?_; clear hN; rintro e w1 ⟨rfl, hB⟩
    go_wp2_with fail
    refine (hP _ (hE.next hB).2).mono ?_; clear hP; rintro e w2 ⟨rfl, hb⟩
    replace hB := hB.trans (hb.mono hB.size)
    clear hb
    go_wp2_with fail
    refine (awake_any _ (hE.next hB)).mono ?_; rintro e wa ⟨rfl, hb⟩
    replace hB := hB.trans (hb.mono hB.size)
    clear hb
    go_wp2_with fail
    refine (hR _).mono ?_; clear hR; rintro e w4 ⟨rfl, hb⟩
    replace hB := hB.trans (hb.mono hB.size)
    clear hb
    go_wp2_with fail
    refine (hM _ (hE.next hB).1).mono ?_; clear hM; rintro e w5 ⟨rfl, hb⟩
    replace hB := hB.trans (hb.mono hB.size)
    clear hb
    go_wp2_with fail
    go_ret
    exact ⟨rfl, hB⟩

set_option maxRecDepth 100000 in
/-- What the walk gives, for every argument and every world in which the listed variables lie as listed. -/
theorem contract (H : Type) (enc : TypeId × Value → H) (W : World) (base : Nat) (args : Array Value) (ds gs : List (DataW H)) (before : List MemPlace)
    (hval0 : ∀ (j : Nat) t v, Tryd.f8.params[j]? = some t → args[j]? = some v → Value.okWide Tryd.prog W .any base t v)
    (hW : DataW.Whole enc Tryd.prog Tryd.f8.params.toList Rows.codecFormatDecimalSpec.vars false W args.toList ds gs before)
    (hsz0 : (DataW.weightsEach Tryd.prog (Tryd.f8.params.toList ++ (OpenSpec.ofChange Rows.codecFormatDecimalSpec).bare.plain.varTypes Tryd.prog) (ds ++ gs)).all (· ≤ reachBytes) = true)
    (hL : laidMetH Tryd.prog Rows.codecFormatDecimalRow.laid W) :
    Calls Tryd.prog 8 args W fun e W' => ∃ v, e = .returned v ∧ Rows.codecFormatDecimalSpec.post enc Tryd.prog Tryd.f8 false true false false W args v W' := by
  have hval : ∀ (j : Nat) t v, Tryd.f8.params[j]? = some t → args[j]? = some v → Value.okWide Tryd.prog W .any base t v := hval0
  have hW' := hW
  obtain ⟨p, q, hA0, hV, rfl, hfz, hnd⟩ := hW
  have hA : DataW.TrodAll enc Tryd.prog W 0 (fun _ => true) true Tryd.f8.params.toList args.toList ds p := hA0
  have hsz := hsz0
  rw [Tryd.params8] at hA hval hsz
  obtain ⟨v0, v1, d0, d1, p0, p1, rfl, rfl, rfl, h0, h1⟩ := trodAll_two hA
  obtain ⟨rfl, rfl⟩ := trodVars_none hV
  clear hA0 hval0 hsz0
  simp only [List.append_nil] at hW' hsz
  obtain ⟨n0, rfl, rfl, rfl, wf0⟩ := open_int Tryd.underlying40 (hval 0 40 v0 rfl rfl) h0
  have hb0 : 0 ≤ n0 ∧ n0 ≤ 18446744073709551615 := by
    have e1 : IntKind.u64.min = 0 := rfl
    have e2 : IntKind.u64.max = 18446744073709551615 := rfl
    have h := wf0
    simp only [Lit.wf, Bool.and_eq_true, decide_eq_true_eq] at h
    omega
  obtain ⟨n1, rfl, rfl, rfl, wf1⟩ := open_int Tryd.underlying40 (hval 1 40 v1 rfl rfl) h1
  have hb1 : 0 ≤ n1 ∧ n1 ≤ 18446744073709551615 := by
    have e1 : IntKind.u64.min = 0 := rfl
    have e2 : IntKind.u64.max = 18446744073709551615 := rfl
    have h := wf1
    simp only [Lit.wf, Bool.and_eq_true, decide_eq_true_eq] at h
    omega
  refine (walk n0 n1 hb0.1 hb0.2 hb1.1 hb1.2 W  (env_of hL)).mono fun e W' ⟨he, hb⟩ => ?_
  subst he
  exact ⟨_, rfl, post_of_below (pa := [] ++ []) (pv := []) hW' (fun _ _ _ => (trodAll_cons_mk (shut_bool Tryd.underlying4 _) trodAll_mk0)) (fun sp hsp => trodAll_mk2 (shut_int Tryd.underlying40 wf0) (shut_int Tryd.underlying40 wf1)) (fun _ _ => rfl) (by simp)
    hb (ok_one (by kernel_rfl) rfl (okWide_bool_mk Tryd.underlying4 _))⟩

theorem reads (os : Os) {H : Type} (enc : TypeId × Value → H) : ∃ places, DataW.whole enc Tryd.prog ((laidWorld os).forCall (fun _ _ => 0) ⟨#[], #[.int .u64 0, .int .u64 0], []⟩).memory Tryd.f8.params.toList Rows.codecFormatDecimalSpec.vars false (#[.int .u64 0, .int .u64 0] : Array Value).toList 8 = some ([.lit (.int .u64 0), .lit (.int .u64 0)], [], places) :=
  ⟨[], by kernel_rfl⟩

set_option maxRecDepth 100000 in
theorem lifted (os : Os) (started : os.Started) (H : Type) (enc : TypeId × Value → H) (F : Stop.Interp) :
    ReturnsInHanded {} Tryd.checked os 8 .any ((OpenSpec.ofChange Rows.codecFormatDecimalSpec).preRow enc Tryd.prog Tryd.f8 Rows.codecFormatDecimalRow.domain false Rows.codecFormatDecimalRow.laid) (((OpenSpec.ofChange Rows.codecFormatDecimalSpec).at F).post enc Tryd.prog Tryd.f8 false true false false) := by
  obtain ⟨places, hx⟩ := reads os enc
  refine returnsInHanded_of_row (C := Tryd.checked) (s := OpenSpec.ofChange Rows.codecFormatDecimalSpec) own started (by kernel_rfl) Tryd.func8
    (witness_row_atRef (enc := enc) (C := Tryd.checked) false (laidWorld os) #[.int .u64 0, .int .u64 0] rfl (by kernel_rfl) (by kernel_rfl) (by kernel_rfl)
      (OpenSpec.preRow_of_cond 8 hx (by kernel_rfl) (fun k hk => by cases hk) (by kernel_rfl) (laid_met os _))) ?_
  intro W base args ds gs before hval hW _ _ hsz hL _ _
  exact contract H enc W base args ds gs before hval hW hsz hL

theorem said : Rows.CodecFormatDecimalSaid :=
  OpenClaim.holds_of_cond 8 Tryd.f8 rfl rfl rfl rfl rfl rfl rfl ⟨rfl, rfl, rfl, rfl, rfl⟩ rfl rfl rfl rfl rfl (by kernel_rfl) Tryd.func8 (by kernel_rfl)
    (of_decide_eq_true (by kernel_rfl)) (by unfold Func.isWrapper; first | (rw [if_pos (by decide +kernel)]; kernel_rfl) | (rw [if_neg (by decide +kernel)]; exact ⟨rfl, rfl⟩))
    (fun os started H enc _ F => by rw [OpenClaim.pre_eq_preRow]; exact lifted os started H enc F)

/-- No parameter wants a stand-in; the program's own looks are off. -/
theorem plain (f : FuncId) (fn : Func) (hf : Tryd.pinned.checked.prog.funcNamed "privity/privitylaw03.CodecFormatDecimal" = some f) (hfn : Tryd.pinned.checked.prog.funcs[f]? = some fn) :
    true = Tryd.pinned.checked.prog.looks [] ∧ ∀ (j : Nat) t, fn.params[j]? = some t → Tryd.pinned.checked.prog.wantsStandIn t = false := by
  obtain rfl : f = 8 := Option.some.inj ((show Tryd.prog.funcNamed "privity/privitylaw03.CodecFormatDecimal" = some 8 by kernel_rfl).symm.trans hf) |>.symm
  obtain rfl : fn = Tryd.f8 := (Option.some.inj (Tryd.func8.symm.trans hfn)).symm
  refine ⟨by kernel_rfl, fun j t ht => ?_⟩
  rw [Tryd.params8] at ht
  have ht' := Array.mem_of_getElem? ht
  simp only [List.mem_toArray, List.mem_cons, List.not_mem_nil, or_false] at ht'
  rcases ht' with rfl | rfl
  · exact (show Tryd.prog.wantsStandIn 40 = false by kernel_rfl)
  · exact (show Tryd.prog.wantsStandIn 40 = false by kernel_rfl)

/-- The card. -/
theorem proved : Rows.CodecFormatDecimalCardSaid :=
  Claim7.holds_tied_plain_at .later [] _ _ _ _ said (fun _ h => by cases h) (by kernel_rfl) (fun _ h => by cases h) codecFormatDecimal_row_tie rfl ⟨rfl, rfl⟩ (by kernel_rfl) rfl plain (by kernel_rfl)
end Go.Proofs.YtblfmbkkeieiaaaDoor.codecFormatDecimal
