/- CodecPrefixFree: of a slice of slices with at most 200 lists and words, a truncated encoding and one followed by up to 50 further words are rejected, the whole one alone is accepted. Conditions: the variables that the row lists hold what it lists. -/
import Derived.Test.YtblfmbkkeieiaaaDoorCRow
import Derived.Test.YtblfmbkkeieiaaaDoorCRefEnc
import Derived.Test.YtblfmbkkeieiaaaDoorCRefDec
import Derived.Test.YtblfmbkkeieiaaaDoorCRefNum
namespace Go.Proofs.YtblfmbkkeieiaaaDoor.codecPrefixFree
open Go.ChangeShapes Go.WideShapes Go.ChangeAt Go.RowKit CodMath

theorem errs (s : ByteArray) (hs : s.size ≤ 1000000) (r : Option (List (List Int))) (hr : decL s.data.toList = r) (w : World) :
    Calls Tryd.prog 20 #[.string s] w fun e w' => ∃ v, e = .returned (.tuple #[v, .int .i64 (if r.isSome then 0 else 7)]) ∧ Below w.heap.size w w' := by
  refine (decodeLists_any s hs w).mono ?_
  intro e w' h
  rw [hr] at h
  cases r with
  | some ls =>
    obtain ⟨A, c, rfl, _, hb⟩ := h
    exact ⟨_, rfl, hb⟩
  | none =>
    obtain ⟨rfl, hb⟩ := h
    exact ⟨_, rfl, hb⟩

set_option maxRecDepth 100000 in
set_option maxHeartbeats 2000000 in
theorem walk (A : Option Addr) (c : Nat) (ls : List (List Int)) (A' : Option Addr) (c' : Nat) (more : List Int) (cut : Int) (hw : ∀ l ∈ ls, Words l) (y : ls.length ≤ 1000000000000000000) (z : ∀ l ∈ ls, l.length ≤ 1000000000000000000)
    (hm : Words more) (_ : A' = none → c' = 0) (k0 : 0 ≤ cut) (k1 : cut ≤ 65535) (w : World) (h : RdL w.heap.size w A ls) (h' : Rd w.heap.size w A' more) (hE : Env w) :
    Calls Tryd.prog 7 #[.slice A ls.length c, .slice A' more.length c', .int .u16 cut] w fun e w' => e = .returned (.bool true) ∧ Below w.heap.size w w' := by
  have hF := few_any A ls c w.heap.size 200 w h (by decide) y z
  by_cases hr : (rows ls).length ≤ 200
  · rw [decide_eq_true hr] at hF
    by_cases hml : more.length ≤ 50
    · have hml' : (more.length : Int) ≤ 50 := by omega
      obtain ⟨hwl, hl, hll⟩ := wordsL_of hw hr (by decide)
      obtain ⟨s, hs⟩ : ∃ s : ByteArray, s = ⟨(encL ls).toArray⟩ := ⟨_, rfl⟩
      obtain ⟨t, ht⟩ : ∃ t : ByteArray, t = ⟨(enc more).toArray⟩ := ⟨_, rfl⟩
      have hsl : s.data.toList = encL ls := by rw [hs]
      have htl : t.data.toList = enc more := by rw [ht]
      have hsz : s.size = 8 * ((rows ls).length + 1) := by
        have : s.data.toList.length = s.size := rfl
        rw [← this, hsl, encL, enc_length, flat, List.length_cons]
      have htz : t.size = 8 * more.length := by rw [← enc_length, ← htl]; rfl
      have hS := fun w h => encodeLists_any A c ls w h hwl (by omega)
      have hT := fun w h => encodeWords_any A' c' more w h hm (by omega)
      simp only [← hs] at hS
      simp only [← ht] at hT
      have hcat : (s ++ t).data.toList = encL ls ++ enc more := by rw [ByteArray.data_append, Array.toList_append, hsl, htl]
      have hD := fun w => errs (s ++ t) (by rw [ByteArray.size_append]; omega) (if more = [] then some ls else none) (by rw [hcat]; exact decL_more hwl hm) w
      obtain ⟨q1, b1, hq1, f1, f2⟩ : ∃ (q1 : Int) (b1 : Bool), (if (if more = [] then some ls else none).isSome then (0 : Int) else 7) = q1 ∧ (q1 == 0) = b1 ∧ ((more.length : Int) == 0) = b1 := by
        by_cases he : more = []
        · exact ⟨0, true, by rw [if_pos he]; rfl, rfl, by rw [he]; rfl⟩
        · exact ⟨7, false, by rw [if_neg he]; rfl, rfl, beq_false_of_ne (by have := List.length_pos_iff.2 he; omega)⟩
      rw [hq1] at hD
      obtain ⟨k, hk⟩ : ∃ k : Nat, cut % ((s.size : Int) + 1) = k := ⟨(cut % ((s.size : Int) + 1)).toNat, by have := Int.emod_nonneg cut (b := (s.size : Int) + 1) (by omega); omega⟩
      have hks : k ≤ s.size := by have := Int.emod_lt_of_pos cut (b := (s.size : Int) + 1) (by omega); omega
      obtain ⟨u, hu⟩ : ∃ u, u = s.extract 0 k := ⟨_, rfl⟩
      have hul : u.data.toList = (encL ls).take k := by
        rw [hu, ByteArray.data_extract, Array.toList_extract, List.extract_eq_take_drop, hsl, List.drop_zero, Nat.sub_zero]
      have huz : u.size ≤ s.size := by rw [hu, ByteArray.size_extract]; omega
      have hsl2 : ∀ W, (Instr.slice 9 (.string s) none (some (.int .i64 (k : Int))) none).run Tryd.prog W = .ok (.string u) W := fun W => by
        rw [run_slice_string_h W 9 s Tryd.underlying9 .i64 (k : Int) (by omega) (by omega), hu, Int.toNat_natCast]
      have hD2 : ∃ (q2 : Int) (b2 : Bool), (q2 == 0) = b2 ∧ ((k : Int) == (s.size : Int)) = b2 ∧ ∀ w, Calls Tryd.prog 20 #[.string u] w fun e w' => ∃ v, e = .returned (.tuple #[v, .int .i64 q2]) ∧ Below w.heap.size w w' := by
        have hlen : (encL ls).length = s.size := by rw [← hsl]; rfl
        by_cases hke : k = s.size
        · exact ⟨0, true, rfl, by rw [hke]; exact beq_self_eq_true _, fun w => errs u (by omega) (some ls) (by rw [hul, List.take_of_length_le (by omega)]; exact decL_encL hwl) w⟩
        · exact ⟨7, false, rfl, beq_false_of_ne (by omega), fun w => errs u (by omega) none (by rw [hul]; exact decL_cut hwl (by omega)) w⟩
      obtain ⟨q2, b2, f3, f4, hD2⟩ := hD2
      have hsz' : s.size ≤ 1608 := by omega
      have htz' : t.size ≤ 400 := by omega
      have hkk : (k : Int) ≤ s.size := by omega
      clear hs ht hsl htl hsz htz hcat hq1 hu hul huz hw y z hll hl hr hml
      go_enter Tryd.func7, Tryd.ntmps7
      go_wp2_with fail
      refine hF.mono ?_; clear hF; rintro e w1 ⟨rfl, rfl⟩
      go_wp2_with fail
      refine (hS _ h).mono ?_; clear hS; rintro e w2 ⟨rfl, hB⟩
      go_wp2_with fail
      refine (hT _ (h'.next hB)).mono ?_; clear hT; rintro e w3 ⟨rfl, hb⟩
      replace hB := hB.trans (hb.mono hB.size)
      clear hb
      go_wp2_with fail
      refine (hD _).mono ?_; clear hD; rintro e w4 ⟨v4, rfl, hb⟩
      replace hB := hB.trans (hb.mono hB.size)
      clear hb
      go_wp2_with fail
      refine (hD2 _).mono ?_; clear hD2; rintro e w5 ⟨v5, rfl, hb⟩
      replace hB := hB.trans (hb.mono hB.size)
      clear hb
      go_wp2_with fail
      refine (awake_any _ (hE.next hB)).mono ?_; rintro e wa ⟨rfl, hb⟩
      replace hB := hB.trans (hb.mono hB.size)
      clear hb
      go_wp2_with fail
      go_ret
      exact ⟨by cases b1 <;> cases b2 <;> rfl, hB⟩
    · have hml' : (50 : Int) < more.length := by omega
      go_enter Tryd.func7, Tryd.ntmps7
      go_wp2_with fail
      refine hF.mono ?_; clear hF; rintro e w1 ⟨rfl, rfl⟩
      go_wp2_with fail
      refine (awake_any _ hE).mono ?_; rintro e wa ⟨rfl, hb⟩
      go_wp2_with fail
      go_ret
      exact ⟨rfl, hb⟩
  · rw [decide_eq_false hr] at hF
    go_enter Tryd.func7, Tryd.ntmps7
    go_wp2_with fail
    refine hF.mono ?_; clear hF; rintro e w1 ⟨rfl, rfl⟩
    go_wp2_with fail
    refine (awake_any _ hE).mono ?_; rintro e wa ⟨rfl, hb⟩
    go_wp2_with fail
    go_ret
    exact ⟨rfl, hb⟩

set_option maxRecDepth 100000 in
/-- What the walk gives, for every argument and every world in which the listed variables lie as listed. -/
theorem contract (H : Type) (enc : TypeId × Value → H) (W : World) (base : Nat) (args : Array Value) (ds gs : List (DataW H)) (before : List MemPlace)
    (hval0 : ∀ (j : Nat) t v, Tryd.f7.params[j]? = some t → args[j]? = some v → Value.okWide Tryd.prog W .any base t v)
    (hW : DataW.Whole enc Tryd.prog Tryd.f7.params.toList Rows.codecPrefixFreeSpec.vars false W args.toList ds gs before)
    (hsz0 : (DataW.weightsEach Tryd.prog (Tryd.f7.params.toList ++ (OpenSpec.ofChange Rows.codecPrefixFreeSpec).bare.plain.varTypes Tryd.prog) (ds ++ gs)).all (· ≤ reachBytes) = true)
    (hL : laidMetH Tryd.prog Rows.codecPrefixFreeRow.laid W) :
    Calls Tryd.prog 7 args W fun e W' => ∃ v, e = .returned v ∧ Rows.codecPrefixFreeSpec.post enc Tryd.prog Tryd.f7 false true false false W args v W' := by
  have hval : ∀ (j : Nat) t v, Tryd.f7.params[j]? = some t → args[j]? = some v → Value.okWide Tryd.prog W .any base t v := hval0
  have hW' := hW
  obtain ⟨p, q, hA0, hV, rfl, hfz, hnd⟩ := hW
  have hA : DataW.TrodAll enc Tryd.prog W 0 (fun _ => true) true Tryd.f7.params.toList args.toList ds p := hA0
  have hsz := hsz0
  rw [Tryd.params7] at hA hval hsz
  obtain ⟨v0, v1, v2, d0, d1, d2, p0, p1, p2, rfl, rfl, rfl, h0, h1, h2⟩ := trodAll_three hA
  obtain ⟨rfl, rfl⟩ := trodVars_none hV
  clear hA0 hval0 hsz0
  simp only [List.append_nil] at hW' hsz
  have l0 : ∀ x ∈ p0, x.block < W.heap.size := fun x hx => hW'.lt x (by simp [hx])
  have s0 : ∀ n ∈ d0.weights Tryd.prog 31, n ≤ reachBytes := fun n hn => by simpa using List.all_eq_true.1 hsz n (DataW.weights_mem_each (j := 0) (t := 31) rfl rfl n hn)
  obtain ⟨A0, x0, c0, rfl, r0, b0, y0, z0⟩ := open_lists (hval 0 31 v0 rfl rfl) h0 l0 s0
  have l1 : ∀ x ∈ p1, x.block < W.heap.size := fun x hx => hW'.lt x (by simp [hx])
  obtain ⟨A1, x1, c1, rfl, r1, b1, z1⟩ := open_words (hval 1 22 v1 rfl rfl) h1 l1
  obtain ⟨n2, rfl, rfl, rfl, wf2⟩ := open_int Tryd.underlying38 (hval 2 38 v2 rfl rfl) h2
  have hb2 : 0 ≤ n2 ∧ n2 ≤ 65535 := by
    have e1 : IntKind.u16.min = 0 := rfl
    have e2 : IntKind.u16.max = 65535 := rfl
    have h := wf2
    simp only [Lit.wf, Bool.and_eq_true, decide_eq_true_eq] at h
    omega
  refine (walk A0 c0 x0 A1 c1 x1 n2 b0 y0 z0 b1 z1 hb2.1 hb2.2 W r0 r1 (env_of hL)).mono fun e W' ⟨he, hb⟩ => ?_
  subst he
  exact ⟨_, rfl, post_of_below (pa := p0 ++ (p1 ++ [])) (pv := []) hW' (fun _ _ _ => (trodAll_cons_mk (shut_bool Tryd.underlying4 _) trodAll_mk0)) (fun sp hsp => trodAll_mk3 (staysL h0 hb l0 sp (fun x hx => hsp x (by simp [hx]))) (stays h1 hb l1 sp (fun x hx => hsp x (by simp [hx]))) (shut_int Tryd.underlying38 wf2)) (fun _ _ => rfl) (by simp)
    hb (ok_one (by kernel_rfl) rfl (okWide_bool_mk Tryd.underlying4 _))⟩

theorem reads (os : Os) {H : Type} (enc : TypeId × Value → H) : ∃ places, DataW.whole enc Tryd.prog ((laidWorld os).forCall (fun _ _ => 0) ⟨#[], #[.slice none 0 0, .slice none 0 0, .int .u16 0], []⟩).memory Tryd.f7.params.toList Rows.codecPrefixFreeSpec.vars false (#[.slice none 0 0, .slice none 0 0, .int .u16 0] : Array Value).toList 8 = some ([.nil, .nil, .lit (.int .u16 0)], [], places) :=
  ⟨[], by kernel_rfl⟩

set_option maxRecDepth 100000 in
theorem lifted (os : Os) (started : os.Started) (H : Type) (enc : TypeId × Value → H) (F : Stop.Interp) :
    ReturnsInHanded {} Tryd.checked os 7 .any ((OpenSpec.ofChange Rows.codecPrefixFreeSpec).preRow enc Tryd.prog Tryd.f7 Rows.codecPrefixFreeRow.domain false Rows.codecPrefixFreeRow.laid) (((OpenSpec.ofChange Rows.codecPrefixFreeSpec).at F).post enc Tryd.prog Tryd.f7 false true false false) := by
  obtain ⟨places, hx⟩ := reads os enc
  refine returnsInHanded_of_row (C := Tryd.checked) (s := OpenSpec.ofChange Rows.codecPrefixFreeSpec) own started (by kernel_rfl) Tryd.func7
    (witness_row_atRef (enc := enc) (C := Tryd.checked) false (laidWorld os) #[.slice none 0 0, .slice none 0 0, .int .u16 0] rfl (by kernel_rfl) (by kernel_rfl) (by kernel_rfl)
      (OpenSpec.preRow_of_cond 8 hx (by kernel_rfl) (fun k hk => by cases hk) (by kernel_rfl) (laid_met os _))) ?_
  intro W base args ds gs before hval hW _ _ hsz hL _ _
  exact contract H enc W base args ds gs before hval hW hsz hL

theorem said : Rows.CodecPrefixFreeSaid :=
  OpenClaim.holds_of_cond 7 Tryd.f7 rfl rfl rfl rfl rfl rfl rfl ⟨rfl, rfl, rfl, rfl, rfl⟩ rfl rfl rfl rfl rfl (by kernel_rfl) Tryd.func7 (by kernel_rfl)
    (of_decide_eq_true (by kernel_rfl)) (by unfold Func.isWrapper; first | (rw [if_pos (by decide +kernel)]; kernel_rfl) | (rw [if_neg (by decide +kernel)]; exact ⟨rfl, rfl⟩))
    (fun os started H enc _ F => by rw [OpenClaim.pre_eq_preRow]; exact lifted os started H enc F)

/-- No parameter wants a stand-in; the program's own looks are off. -/
theorem plain (f : FuncId) (fn : Func) (hf : Tryd.pinned.checked.prog.funcNamed "privity/privitylaw03.CodecPrefixFree" = some f) (hfn : Tryd.pinned.checked.prog.funcs[f]? = some fn) :
    true = Tryd.pinned.checked.prog.looks [] ∧ ∀ (j : Nat) t, fn.params[j]? = some t → Tryd.pinned.checked.prog.wantsStandIn t = false := by
  obtain rfl : f = 7 := Option.some.inj ((show Tryd.prog.funcNamed "privity/privitylaw03.CodecPrefixFree" = some 7 by kernel_rfl).symm.trans hf) |>.symm
  obtain rfl : fn = Tryd.f7 := (Option.some.inj (Tryd.func7.symm.trans hfn)).symm
  refine ⟨by kernel_rfl, fun j t ht => ?_⟩
  rw [Tryd.params7] at ht
  have ht' := Array.mem_of_getElem? ht
  simp only [List.mem_toArray, List.mem_cons, List.not_mem_nil, or_false] at ht'
  rcases ht' with rfl | rfl | rfl
  · exact (show Tryd.prog.wantsStandIn 31 = false by kernel_rfl)
  · exact (show Tryd.prog.wantsStandIn 22 = false by kernel_rfl)
  · exact (show Tryd.prog.wantsStandIn 38 = false by kernel_rfl)

/-- The card. -/
theorem proved : Rows.CodecPrefixFreeCardSaid :=
  Claim7.holds_tied_plain_at .later [] _ _ _ _ said (fun _ h => by cases h) (by kernel_rfl) (fun _ h => by cases h) codecPrefixFree_row_tie rfl ⟨rfl, rfl⟩ (by kernel_rfl) rfl plain (by kernel_rfl)
end Go.Proofs.YtblfmbkkeieiaaaDoor.codecPrefixFree
