/- CodecInjective: two slices of slices with at most 200 lists and words each have the same encoding if and only if they are equal. Conditions: the variables that the row lists hold what it lists. -/
import Derived.Test.YtblfmbkkeieiaaaDoorCRow
import Derived.Test.YtblfmbkkeieiaaaDoorCRefEnc
import Derived.Test.YtblfmbkkeieiaaaDoorCRefDec
import Derived.Test.YtblfmbkkeieiaaaDoorCRefNum
namespace Go.Proofs.YtblfmbkkeieiaaaDoor.codecInjective
open Go.ChangeShapes Go.WideShapes Go.ChangeAt Go.RowKit CodMath

set_option maxRecDepth 100000 in
set_option maxHeartbeats 2000000 in
theorem walk (A : Option Addr) (c : Nat) (a : List (List Int)) (A' : Option Addr) (c' : Nat) (b : List (List Int)) (hwa : ∀ l ∈ a, Words l) (ya : a.length ≤ 1000000000000000000) (za : ∀ l ∈ a, l.length ≤ 1000000000000000000)
    (hwb : ∀ l ∈ b, Words l) (yb : b.length ≤ 1000000000000000000) (zb : ∀ l ∈ b, l.length ≤ 1000000000000000000) (w : World) (h : RdL w.heap.size w A a) (h' : RdL w.heap.size w A' b) (hE : Env w) :
    Calls Tryd.prog 10 #[.slice A a.length c, .slice A' b.length c'] w fun e w' => e = .returned (.bool true) ∧ Below w.heap.size w w' := by
  have hF := few_any A a c w.heap.size 200 w h (by decide) ya za
  have hF' := few_any A' b c' w.heap.size 200 w h' (by decide) yb zb
  by_cases hr : (rows a).length ≤ 200
  · rw [decide_eq_true hr] at hF
    by_cases hr' : (rows b).length ≤ 200
    · rw [decide_eq_true hr'] at hF'
      obtain ⟨hwl, hl, hll⟩ := wordsL_of hwa hr (by decide)
      obtain ⟨hwl', hl', hll'⟩ := wordsL_of hwb hr' (by decide)
      obtain ⟨s, hs⟩ : ∃ s : ByteArray, s = ⟨(encL a).toArray⟩ := ⟨_, rfl⟩
      obtain ⟨t, ht⟩ : ∃ t : ByteArray, t = ⟨(encL b).toArray⟩ := ⟨_, rfl⟩
      have hS := fun w h => encodeLists_any A c a w h hwl (by omega)
      have hT := fun w h => encodeLists_any A' c' b w h hwl' (by omega)
      have hSame := fun w h h' => sameLists_any A A' a b c c' w h h' (by omega) (fun l hl => by have := hll l hl; omega)
      simp only [← hs] at hS
      simp only [← ht] at hT
      obtain ⟨r, f1, f2⟩ : ∃ r : Bool, (s.toList == t.toList) = r ∧ decide (a = b) = r := by
        by_cases hab : a = b
        · exact ⟨true, by rw [hs, ht, hab]; exact beq_self_eq_true _, decide_eq_true hab⟩
        · refine ⟨false, str_ne fun e => hab (encL_inj hwl hwl' ?_), decide_eq_false hab⟩
          rw [hs, ht] at e
          have h5 : (encL a).toArray = (encL b).toArray := congrArg ByteArray.data e
          exact congrArg Array.toList h5
      rw [f2] at hSame
      clear hs ht f2 hwa hwb ya yb za zb hr hr' hll hll' hl hl'
      go_enter Tryd.func10, Tryd.ntmps10
      go_wp2_with fail
      refine hF.mono ?_; clear hF; rintro e w1 ⟨rfl, rfl⟩
      go_wp2_with fail
      refine hF'.mono ?_; clear hF'; rintro e w1 ⟨rfl, rfl⟩
      go_wp2_with fail
      refine (awake_any _ hE).mono ?_; rintro e wa ⟨rfl, hB⟩
      go_wp2_with fail
      refine (hS _ (h.next hB)).mono ?_; clear hS; rintro e w2 ⟨rfl, hb⟩
      replace hB := hB.trans (hb.mono hB.size)
      clear hb
      go_wp2_with fail
      refine (hT _ (h'.next hB)).mono ?_; clear hT; rintro e w3 ⟨rfl, hb⟩
      replace hB := hB.trans (hb.mono hB.size)
      clear hb
      go_wp2_with fail
      refine (hSame _ (h.next hB) (h'.next hB)).mono ?_; clear hSame; rintro e w4 ⟨rfl, hb⟩
      replace hB := hB.trans (hb.mono hB.size)
      clear hb
      go_wp2_with fail
      go_ret
      exact ⟨by cases r <;> rfl, hB⟩
    · rw [decide_eq_false hr'] at hF'
      go_enter Tryd.func10, Tryd.ntmps10
      go_wp2_with fail
      refine hF.mono ?_; clear hF; rintro e w1 ⟨rfl, rfl⟩
      go_wp2_with fail
      refine hF'.mono ?_; clear hF'; rintro e w1 ⟨rfl, rfl⟩
      go_wp2_with fail
      refine (awake_any _ hE).mono ?_; rintro e wa ⟨rfl, hb⟩
      go_wp2_with fail
      go_ret
      exact ⟨rfl, hb⟩
  · rw [decide_eq_false hr] at hF
    clear hF'
    go_enter Tryd.func10, Tryd.ntmps10
    go_wp2_with fail
    refine hF.mono ?_; clear hF; rintro e w1 ⟨rfl, rfl⟩
    go_wp2_with fail
    refine (awake_any _ hE).mono ?_; rintro e wa ⟨rfl, hb⟩
    go_wp2_with fail
    go_ret
    exact ⟨rfl, hb⟩

set_option maxRecDepth 100000 in
/-- What the walk gives, for every argument and every world in which the listed variables lie as listed. -/
theorem contract (H : Type) (enc : TypeId × Value → H) (W : World) (base : Nat) (args : Array Value) (ds gs : List (DataW H)) (before : List MemPlace)
    (hval0 : ∀ (j : Nat) t v, Tryd.f10.params[j]? = some t → args[j]? = some v → Value.okWide Tryd.prog W .any base t v)
    (hW : DataW.Whole enc Tryd.prog Tryd.f10.params.toList Rows.codecInjectiveSpec.vars false W args.toList ds gs before)
    (hsz0 : (DataW.weightsEach Tryd.prog (Tryd.f10.params.toList ++ (OpenSpec.ofChange Rows.codecInjectiveSpec).bare.plain.varTypes Tryd.prog) (ds ++ gs)).all (· ≤ reachBytes) = true)
    (hL : laidMetH Tryd.prog Rows.codecInjectiveRow.laid W) :
    Calls Tryd.prog 10 args W fun e W' => ∃ v, e = .returned v ∧ Rows.codecInjectiveSpec.post enc Tryd.prog Tryd.f10 false true false false W args v W' := by
  have hval : ∀ (j : Nat) t v, Tryd.f10.params[j]? = some t → args[j]? = some v → Value.okWide Tryd.prog W .any base t v := hval0
  have hW' := hW
  obtain ⟨p, q, hA0, hV, rfl, hfz, hnd⟩ := hW
  have hA : DataW.TrodAll enc Tryd.prog W 0 (fun _ => true) true Tryd.f10.params.toList args.toList ds p := hA0
  have hsz := hsz0
  rw [Tryd.params10] at hA hval hsz
  obtain ⟨v0, v1, d0, d1, p0, p1, rfl, rfl, rfl, h0, h1⟩ := trodAll_two hA
  obtain ⟨rfl, rfl⟩ := trodVars_none hV
  clear hA0 hval0 hsz0
  simp only [List.append_nil] at hW' hsz
  have l0 : ∀ x ∈ p0, x.block < W.heap.size := fun x hx => hW'.lt x (by simp [hx])
  have s0 : ∀ n ∈ d0.weights Tryd.prog 31, n ≤ reachBytes := fun n hn => by simpa using List.all_eq_true.1 hsz n (DataW.weights_mem_each (j := 0) (t := 31) rfl rfl n hn)
  obtain ⟨A0, x0, c0, rfl, r0, b0, y0, z0⟩ := open_lists (hval 0 31 v0 rfl rfl) h0 l0 s0
  have l1 : ∀ x ∈ p1, x.block < W.heap.size := fun x hx => hW'.lt x (by simp [hx])
  have s1 : ∀ n ∈ d1.weights Tryd.prog 31, n ≤ reachBytes := fun n hn => by simpa using List.all_eq_true.1 hsz n (DataW.weights_mem_each (j := 1) (t := 31) rfl rfl n hn)
  obtain ⟨A1, x1, c1, rfl, r1, b1, y1, z1⟩ := open_lists (hval 1 31 v1 rfl rfl) h1 l1 s1
  refine (walk A0 c0 x0 A1 c1 x1 b0 y0 z0 b1 y1 z1 W r0 r1 (env_of hL)).mono fun e W' ⟨he, hb⟩ => ?_
  subst he
  exact ⟨_, rfl, post_of_below (pa := p0 ++ p1) (pv := []) hW' (fun _ _ _ => (trodAll_cons_mk (shut_bool Tryd.underlying4 _) trodAll_mk0)) (fun sp hsp => trodAll_mk2 (staysL h0 hb l0 sp (fun x hx => hsp x (by simp [hx]))) (staysL h1 hb l1 sp (fun x hx => hsp x (by simp [hx])))) (fun _ _ => rfl) (by simp)
    hb (ok_one (by kernel_rfl) rfl (okWide_bool_mk Tryd.underlying4 _))⟩

theorem reads (os : Os) {H : Type} (enc : TypeId × Value → H) : ∃ places, DataW.whole enc Tryd.prog ((laidWorld os).forCall (fun _ _ => 0) ⟨#[], #[.slice none 0 0, .slice none 0 0], []⟩).memory Tryd.f10.params.toList Rows.codecInjectiveSpec.vars false (#[.slice none 0 0, .slice none 0 0] : Array Value).toList 8 = some ([.nil, .nil], [], places) :=
  ⟨[], by kernel_rfl⟩

set_option maxRecDepth 100000 in
theorem lifted (os : Os) (started : os.Started) (H : Type) (enc : TypeId × Value → H) (F : Stop.Interp) :
    ReturnsInHanded {} Tryd.checked os 10 .any ((OpenSpec.ofChange Rows.codecInjectiveSpec).preRow enc Tryd.prog Tryd.f10 Rows.codecInjectiveRow.domain false Rows.codecInjectiveRow.laid) (((OpenSpec.ofChange Rows.codecInjectiveSpec).at F).post enc Tryd.prog Tryd.f10 false true false false) := by
  obtain ⟨places, hx⟩ := reads os enc
  refine returnsInHanded_of_row (C := Tryd.checked) (s := OpenSpec.ofChange Rows.codecInjectiveSpec) own started (by kernel_rfl) Tryd.func10
    (witness_row_atRef (enc := enc) (C := Tryd.checked) false (laidWorld os) #[.slice none 0 0, .slice none 0 0] rfl (by kernel_rfl) (by kernel_rfl) (by kernel_rfl)
      (OpenSpec.preRow_of_cond 8 hx (by kernel_rfl) (fun k hk => by cases hk) (by kernel_rfl) (laid_met os _))) ?_
  intro W base args ds gs before hval hW _ _ hsz hL _ _
  exact contract H enc W base args ds gs before hval hW hsz hL

theorem said : Rows.CodecInjectiveSaid :=
  OpenClaim.holds_of_cond 10 Tryd.f10 rfl rfl rfl rfl rfl rfl rfl ⟨rfl, rfl, rfl, rfl, rfl⟩ rfl rfl rfl rfl rfl (by kernel_rfl) Tryd.func10 (by kernel_rfl)
    (of_decide_eq_true (by kernel_rfl)) (by unfold Func.isWrapper; first | (rw [if_pos (by decide +kernel)]; kernel_rfl) | (rw [if_neg (by decide +kernel)]; exact ⟨rfl, rfl⟩))
    (fun os started H enc _ F => by rw [OpenClaim.pre_eq_preRow]; exact lifted os started H enc F)

/-- No parameter wants a stand-in; the program's own looks are off. -/
theorem plain (f : FuncId) (fn : Func) (hf : Tryd.pinned.checked.prog.funcNamed "privity/privitylaw03.CodecInjective" = some f) (hfn : Tryd.pinned.checked.prog.funcs[f]? = some fn) :
    true = Tryd.pinned.checked.prog.looks [] ∧ ∀ (j : Nat) t, fn.params[j]? = some t → Tryd.pinned.checked.prog.wantsStandIn t = false := by
  obtain rfl : f = 10 := Option.some.inj ((show Tryd.prog.funcNamed "privity/privitylaw03.CodecInjective" = some 10 by kernel_rfl).symm.trans hf) |>.symm
  obtain rfl : fn = Tryd.f10 := (Option.some.inj (Tryd.func10.symm.trans hfn)).symm
  refine ⟨by kernel_rfl, fun j t ht => ?_⟩
  rw [Tryd.params10] at ht
  have ht' := Array.mem_of_getElem? ht
  simp only [List.mem_toArray, List.mem_cons, List.not_mem_nil, or_false] at ht'
  rcases ht' with rfl | rfl
  · exact (show Tryd.prog.wantsStandIn 31 = false by kernel_rfl)
  · exact (show Tryd.prog.wantsStandIn 31 = false by kernel_rfl)

/-- The card. -/
theorem proved : Rows.CodecInjectiveCardSaid :=
  Claim7.holds_tied_plain_at .later [] _ _ _ _ said (fun _ h => by cases h) (by kernel_rfl) (fun _ h => by cases h) codecInjective_row_tie rfl ⟨rfl, rfl⟩ (by kernel_rfl) rfl plain (by kernel_rfl)
end Go.Proofs.YtblfmbkkeieiaaaDoor.codecInjective
