/- CodecConcatenation: for two slices of at most 200 words each the encoding of the concatenation is the concatenation of the encodings, and it decodes to the concatenation. Conditions: the variables that the row lists hold what it lists. -/
import Derived.Test.YtblfmbkkeieiaaaDoorCRow
import Derived.Test.YtblfmbkkeieiaaaDoorCRefEnc
import Derived.Test.YtblfmbkkeieiaaaDoorCRefDec
import Derived.Test.YtblfmbkkeieiaaaDoorCRefNum
namespace Go.Proofs.YtblfmbkkeieiaaaDoor.codecConcatenation
open Go.ChangeShapes Go.WideShapes Go.ChangeAt Go.RowKit CodMath

/-- append(row, xs...) onto a row that the call itself has made, xs nil or not. -/
theorem append_rd {w : World} {ops : Array Oper} {rest : List Oper} {o : Oper} {a : Act} {Q : Exit → Act → World → Prop} (hgd : o.guard = none) (s x : Operand)
    (ho : o.op = .call { callee := .builtin .append, args := #[s, x], argTypes := #[22, 22] }) (base : Nat) (v : Value) (n : Nat) (vs : List Value) (hs : a.eval s = v) (hown : w.ownsRow base 40 1 v n vs)
    (A : Option Addr) (c B : Nat) (l : List Int) (hx : a.eval x = .slice A l.length c) (hrd : Rd B w A l) (h0 : A = none → c = 0) (hn : n + l.length ≤ 1000000) (hbase : base ≤ w.heap.size)
    (h : ∀ v' w', w'.ownsRow base 40 1 v' (n + l.length) (vs ++ l.map (Value.int .u64)) → w.grownBy w' v.ownBlock → wpList Tryd.prog ops Q rest (a.put o.dst v') w') : wpList Tryd.prog ops Q (o :: rest) a w := by
  obtain ⟨i0, hi, hz0, hz1, hz2⟩ := info_parts info_u64
  cases A with
  | none =>
    have hl0 : l = [] := Classical.byContradiction fun hn => by obtain ⟨_, _, e, _⟩ := hrd hn; cases e
    subst hl0
    obtain rfl := h0 rfl
    exact wpList_append_own_none hgd s x 22 ho base 40 i0 1 Tryd.underlying22 hi v n vs hs hown hx (h v w (by simpa using hown) ⟨rfl, rfl, rfl, Nat.le_refl _, fun _ _ _ => rfl⟩)
  | some ad =>
    exact wpList_append_own w hgd s x 22 ho base 40 i0 (.int .u64 0) 1 8 Tryd.underlying22 hi hz0 hz1 hz2 rfl (by decide) v n vs hs hown ad l.length c (l.map (Value.int .u64)) hx (by rw [List.length_map, Nat.mul_one]) (cells_many hrd) (fun u hu => by obtain ⟨q, _, rfl⟩ := List.mem_map.1 hu; rfl) (by unfold maxLen; omega) (by omega) hbase (fun v' w' h1 h2 _ => h v' w' h1 h2)

set_option maxRecDepth 100000 in
set_option maxHeartbeats 2000000 in
theorem walk (A : Option Addr) (c : Nat) (a : List Int) (A' : Option Addr) (c' : Nat) (b : List Int) (hwa : Words a) (z : A = none → c = 0) (hwb : Words b) (z' : A' = none → c' = 0) (w : World) (h : Rd w.heap.size w A a) (h' : Rd w.heap.size w A' b) (hE : Env w) :
    Calls Tryd.prog 11 #[.slice A a.length c, .slice A' b.length c'] w fun e w' => e = .returned (.bool true) ∧ Below w.heap.size w w' := by
  by_cases hl : a.length ≤ 200
  · have hl' : (a.length : Int) ≤ 200 := by omega
    by_cases hm : b.length ≤ 200
    · have hm' : (b.length : Int) ≤ 200 := by omega
      obtain ⟨s, hs⟩ : ∃ s : ByteArray, s = ⟨(enc a).toArray⟩ := ⟨_, rfl⟩
      obtain ⟨t, ht⟩ : ∃ t : ByteArray, t = ⟨(enc b).toArray⟩ := ⟨_, rfl⟩
      have hsl : s.data.toList = enc a := by rw [hs]
      have htl : t.data.toList = enc b := by rw [ht]
      have hsz : s.size = 8 * a.length := by rw [← enc_length, ← hsl]; rfl
      have htz : t.size = 8 * b.length := by rw [← enc_length, ← htl]; rfl
      have hS := fun w h => encodeWords_any A c a w h hwa (by omega)
      have hT := fun w h => encodeWords_any A' c' b w h hwb (by omega)
      simp only [← hs] at hS
      simp only [← ht] at hT
      obtain ⟨ab, hcc⟩ : ∃ ab, ab = a ++ b := ⟨_, rfl⟩
      have hcat : (s ++ t).data.toList = enc ab := by rw [ByteArray.data_append, Array.toList_append, hsl, htl, hcc, enc_append]
      have hab : Words ab := by rw [hcc]; exact words_append.2 ⟨hwa, hwb⟩
      have hD := fun w => decodeWords_good (s ++ t) (by rw [ByteArray.size_append]; omega) (by rw [ByteArray.size_append]; omega) w
      rw [hcat, dec_enc hab] at hD
      have hll : ab.length ≤ 400 := by rw [hcc, List.length_append]; omega
      have hEn := fun A c w h => encodeWords_any A c ab w h hab (by omega)
      have hCC := Lib.hid hcc
      rw [← hcat, str_of (s ++ t)] at hEn
      have hown0 : (w.alloc (.cells #[] 40)).ownsRow w.heap.size 40 1 (.slice (some ⟨w.heap.size, 0, none⟩) 0 0) 0 [] := World.ownsRow_lit w #[] 0 (Nat.le_refl _) (by unfold maxLen; omega) rfl
      have hB0 : Below w.heap.size w (w.alloc (.cells #[] 40)) := (Below.refl _ w).alloc (Nat.le_refl _) _
      have hsz' : s.size ≤ 1600 := by omega
      have htz' : t.size ≤ 1600 := by omega
      clear hs ht hsl htl hsz htz hcat hab hcc
      go_enter Tryd.func11, Tryd.ntmps11
      go_wp2_with (at_builtin; refine append_rd rfl _ _ rfl w.heap.size _ 0 [] rfl hown0 A c w.heap.size a rfl (h.below hB0) z (by omega) (by simp) ?_; intro v1 w1 hown1 hg1; refine Hid.out ?_)
      refine Lib.hid ?_
      have hB1 : Below w.heap.size w w1 := hB0.grown hg1 (by simp) (fun k e => (hown0.lt k e).1)
      have hs1 := hB1.size
      go_wp2_with (at_builtin; refine append_rd rfl _ _ rfl w.heap.size _ _ _ rfl hown1 A' c' w.heap.size b rfl (h'.below hB1) z' (by omega) (by omega) ?_; intro v2 w2 hown2 hg2; refine Hid.out ?_)
      refine Lib.hid ?_
      have hB : Below w.heap.size w w2 := hB1.grown hg2 (by omega) (fun k e => (hown1.lt k e).1)
      rw [List.nil_append, ← List.map_append, ← hCC.out] at hown2
      obtain ⟨A2, c2, rfl, _, hR2⟩ := own_form hown2
      clear hown0 hown1 hown2 hg1 hg2 hB0 hB1 hs1
      go_wp2_with fail
      refine (hS _ (h.next hB)).mono ?_; rintro e w3 ⟨rfl, hb⟩
      replace hR2 := hR2.next hb
      replace hB := hB.trans (hb.mono hB.size)
      clear hb
      go_wp2_with fail
      refine (hT _ (h'.next hB)).mono ?_; rintro e w4 ⟨rfl, hb⟩
      replace hR2 := hR2.next hb
      replace hB := hB.trans (hb.mono hB.size)
      clear hb
      go_wp2_with fail
      refine (hD _).mono ?_; clear hD; rintro e w5 ⟨A5, c5, rfl, hR5, _, hb⟩
      replace hR2 := hR2.next hb
      replace hB := hB.trans (hb.mono hB.size)
      clear hb
      go_wp2_with fail
      refine (awake_any _ (hE.next hB)).mono ?_; rintro e wa ⟨rfl, hb⟩
      replace hR2 := hR2.next hb
      replace hR5 := hR5.next hb
      replace hB := hB.trans (hb.mono hB.size)
      clear hb
      go_wp2_with fail
      refine (hEn _ _ _ hR2.rd).mono ?_; clear hEn; rintro e w6 ⟨rfl, hb⟩
      replace hR2 := hR2.next hb
      replace hR5 := hR5.next hb
      replace hB := hB.trans (hb.mono hB.size)
      clear hb
      go_wp2_with fail
      refine (hS _ (h.next hB)).mono ?_; clear hS; rintro e w7 ⟨rfl, hb⟩
      replace hR2 := hR2.next hb
      replace hR5 := hR5.next hb
      replace hB := hB.trans (hb.mono hB.size)
      clear hb
      go_wp2_with fail
      refine (hT _ (h'.next hB)).mono ?_; clear hT; rintro e w8 ⟨rfl, hb⟩
      replace hR2 := hR2.next hb
      replace hR5 := hR5.next hb
      replace hB := hB.trans (hb.mono hB.size)
      clear hb
      go_wp2_with fail
      refine (same_is _ _ ab _ _ _ hR5.rd hR2.rd (by omega)).mono ?_; rintro e w9 ⟨rfl, hb⟩
      replace hB := hB.trans (hb.mono hB.size)
      clear hb
      go_wp2_with fail
      go_ret
      exact ⟨rfl, hB⟩
    · have hm' : (200 : Int) < b.length := by omega
      go_enter Tryd.func11, Tryd.ntmps11
      go_wp2_with fail
      refine (awake_any _ hE).mono ?_; rintro e wa ⟨rfl, hb⟩
      go_wp2_with fail
      go_ret
      exact ⟨rfl, hb⟩
  · have hl' : (200 : Int) < a.length := by omega
    go_enter Tryd.func11, Tryd.ntmps11
    go_wp2_with fail
    refine (awake_any _ hE).mono ?_; rintro e wa ⟨rfl, hb⟩
    go_wp2_with fail
    go_ret
    exact ⟨rfl, hb⟩

set_option maxRecDepth 100000 in
/-- What the walk gives, for every argument and every world in which the listed variables lie as listed. -/
theorem contract (H : Type) (enc : TypeId × Value → H) (W : World) (base : Nat) (args : Array Value) (ds gs : List (DataW H)) (before : List MemPlace)
    (hval0 : ∀ (j : Nat) t v, Tryd.f11.params[j]? = some t → args[j]? = some v → Value.okWide Tryd.prog W .any base t v)
    (hW : DataW.Whole enc Tryd.prog Tryd.f11.params.toList Rows.codecConcatenationSpec.vars false W args.toList ds gs before)
    (hsz0 : (DataW.weightsEach Tryd.prog (Tryd.f11.params.toList ++ (OpenSpec.ofChange Rows.codecConcatenationSpec).bare.plain.varTypes Tryd.prog) (ds ++ gs)).all (· ≤ reachBytes) = true)
    (hL : laidMetH Tryd.prog Rows.codecConcatenationRow.laid W) :
    Calls Tryd.prog 11 args W fun e W' => ∃ v, e = .returned v ∧ Rows.codecConcatenationSpec.post enc Tryd.prog Tryd.f11 false true false false W args v W' := by
  have hval : ∀ (j : Nat) t v, Tryd.f11.params[j]? = some t → args[j]? = some v → Value.okWide Tryd.prog W .any base t v := hval0
  have hW' := hW
  obtain ⟨p, q, hA0, hV, rfl, hfz, hnd⟩ := hW
  have hA : DataW.TrodAll enc Tryd.prog W 0 (fun _ => true) true Tryd.f11.params.toList args.toList ds p := hA0
  have hsz := hsz0
  rw [Tryd.params11] at hA hval hsz
  obtain ⟨v0, v1, d0, d1, p0, p1, rfl, rfl, rfl, h0, h1⟩ := trodAll_two hA
  obtain ⟨rfl, rfl⟩ := trodVars_none hV
  clear hA0 hval0 hsz0
  simp only [List.append_nil] at hW' hsz
  have l0 : ∀ x ∈ p0, x.block < W.heap.size := fun x hx => hW'.lt x (by simp [hx])
  obtain ⟨A0, x0, c0, rfl, r0, b0, z0⟩ := open_words (hval 0 22 v0 rfl rfl) h0 l0
  have l1 : ∀ x ∈ p1, x.block < W.heap.size := fun x hx => hW'.lt x (by simp [hx])
  obtain ⟨A1, x1, c1, rfl, r1, b1, z1⟩ := open_words (hval 1 22 v1 rfl rfl) h1 l1
  refine (walk A0 c0 x0 A1 c1 x1 b0 z0 b1 z1 W r0 r1 (env_of hL)).mono fun e W' ⟨he, hb⟩ => ?_
  subst he
  exact ⟨_, rfl, post_of_below (pa := p0 ++ p1) (pv := []) hW' (fun _ _ _ => (trodAll_cons_mk (shut_bool Tryd.underlying4 _) trodAll_mk0)) (fun sp hsp => trodAll_mk2 (stays h0 hb l0 sp (fun x hx => hsp x (by simp [hx]))) (stays h1 hb l1 sp (fun x hx => hsp x (by simp [hx])))) (fun _ _ => rfl) (by simp)
    hb (ok_one (by kernel_rfl) rfl (okWide_bool_mk Tryd.underlying4 _))⟩

theorem reads (os : Os) {H : Type} (enc : TypeId × Value → H) : ∃ places, DataW.whole enc Tryd.prog ((laidWorld os).forCall (fun _ _ => 0) ⟨#[], #[.slice none 0 0, .slice none 0 0], []⟩).memory Tryd.f11.params.toList Rows.codecConcatenationSpec.vars false (#[.slice none 0 0, .slice none 0 0] : Array Value).toList 8 = some ([.nil, .nil], [], places) :=
  ⟨[], by kernel_rfl⟩

set_option maxRecDepth 100000 in
theorem lifted (os : Os) (started : os.Started) (H : Type) (enc : TypeId × Value → H) (F : Stop.Interp) :
    ReturnsInHanded {} Tryd.checked os 11 .any ((OpenSpec.ofChange Rows.codecConcatenationSpec).preRow enc Tryd.prog Tryd.f11 Rows.codecConcatenationRow.domain false Rows.codecConcatenationRow.laid) (((OpenSpec.ofChange Rows.codecConcatenationSpec).at F).post enc Tryd.prog Tryd.f11 false true false false) := by
  obtain ⟨places, hx⟩ := reads os enc
  refine returnsInHanded_of_row (C := Tryd.checked) (s := OpenSpec.ofChange Rows.codecConcatenationSpec) own started (by kernel_rfl) Tryd.func11
    (witness_row_atRef (enc := enc) (C := Tryd.checked) false (laidWorld os) #[.slice none 0 0, .slice none 0 0] rfl (by kernel_rfl) (by kernel_rfl) (by kernel_rfl)
      (OpenSpec.preRow_of_cond 8 hx (by kernel_rfl) (fun k hk => by cases hk) (by kernel_rfl) (laid_met os _))) ?_
  intro W base args ds gs before hval hW _ _ hsz hL _ _
  exact contract H enc W base args ds gs before hval hW hsz hL

theorem said : Rows.CodecConcatenationSaid :=
  OpenClaim.holds_of_cond 11 Tryd.f11 rfl rfl rfl rfl rfl rfl rfl ⟨rfl, rfl, rfl, rfl, rfl⟩ rfl rfl rfl rfl rfl (by kernel_rfl) Tryd.func11 (by kernel_rfl)
    (of_decide_eq_true (by kernel_rfl)) (by unfold Func.isWrapper; first | (rw [if_pos (by decide +kernel)]; kernel_rfl) | (rw [if_neg (by decide +kernel)]; exact ⟨rfl, rfl⟩))
    (fun os started H enc _ F => by rw [OpenClaim.pre_eq_preRow]; exact lifted os started H enc F)

/-- No parameter wants a stand-in; the program's own looks are off. -/
theorem plain (f : FuncId) (fn : Func) (hf : Tryd.pinned.checked.prog.funcNamed "privity/privitylaw03.CodecConcatenation" = some f) (hfn : Tryd.pinned.checked.prog.funcs[f]? = some fn) :
    true = Tryd.pinned.checked.prog.looks [] ∧ ∀ (j : Nat) t, fn.params[j]? = some t → Tryd.pinned.checked.prog.wantsStandIn t = false := by
  obtain rfl : f = 11 := Option.some.inj ((show Tryd.prog.funcNamed "privity/privitylaw03.CodecConcatenation" = some 11 by kernel_rfl).symm.trans hf) |>.symm
  obtain rfl : fn = Tryd.f11 := (Option.some.inj (Tryd.func11.symm.trans hfn)).symm
  refine ⟨by kernel_rfl, fun j t ht => ?_⟩
  rw [Tryd.params11] at ht
  have ht' := Array.mem_of_getElem? ht
  simp only [List.mem_toArray, List.mem_cons, List.not_mem_nil, or_false] at ht'
  rcases ht' with rfl | rfl
  · exact (show Tryd.prog.wantsStandIn 22 = false by kernel_rfl)
  · exact (show Tryd.prog.wantsStandIn 22 = false by kernel_rfl)

/-- The card. -/
theorem proved : Rows.CodecConcatenationCardSaid :=
  Claim7.holds_tied_plain_at .later [] _ _ _ _ said (fun _ h => by cases h) (by kernel_rfl) (fun _ h => by cases h) codecConcatenation_row_tie rfl ⟨rfl, rfl⟩ (by kernel_rfl) rfl plain (by kernel_rfl)
end Go.Proofs.YtblfmbkkeieiaaaDoor.codecConcatenation
