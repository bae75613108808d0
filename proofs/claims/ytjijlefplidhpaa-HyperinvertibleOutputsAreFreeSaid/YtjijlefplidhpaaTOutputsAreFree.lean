/- For any fixed inputs and any values of as many outputs as there are remaining inputs, the completed input vector produces these outputs. No conditions. -/
import Derived.Test.YtjijlefplidhpaaHFree
import Derived.Test.YtjijlefplidhpaaMC
namespace Go.Proofs.Ytjijlefplidhpaa.hyperinvertibleOutputsAreFree
set_option maxRecDepth 100000
open Go.ChangeShapes Go.WideShapes Go.ChangeAt Go.RowKit PolyMath FieldMath MatMath

set_option maxHeartbeats 4000000 in
theorem walk_unsup (p : Int) (Ains : Option Addr) (cins : Nat) (ins : List Int) (Aouts : Option Addr) (couts : Nat) (outs : List (Int × Int)) (_wins : Words ins) (_lins : ins.length ≤ 9223372036854775807) (_wouts : PWords outs) (hs : (qOf p != 0) = false) (w : World) (sins : Sl w Ains cins ins) (souts : Pt w Aouts couts outs) :
    Calls Try.prog 8 #[.int .u64 p, .slice Ains ins.length cins, .slice Aouts outs.length couts] w fun e w' => e = .returned (.bool true) ∧ Below w.heap.size w w' := by
  have gs := fun W => rSupported_any p W
  rw [hs] at gs
  go_enter Try.func8, Try.ntmps8
  have hB := Below.refl w.heap.size w
  go_wp2_with fail
  refine (awake7_any _).mono ?_
  rintro e w1 ⟨rfl, hb⟩
  replace sins := sins.next hb
  replace souts := souts.next hb
  replace hB := hB.trans (hb.mono hB.size)
  clear hb
  go_wp2_with fail
  refine (gs _).mono ?_
  rintro e w2 ⟨rfl, hb⟩
  replace sins := sins.next hb
  replace souts := souts.next hb
  replace hB := hB.trans (hb.mono hB.size)
  clear hb
  go_wp2_with fail
  go_ret
  exact ⟨rfl, hB⟩

set_option maxHeartbeats 4000000 in
theorem walk_o6 (p : Int) (Ains : Option Addr) (cins : Nat) (ins : List Int) (Aouts : Option Addr) (couts : Nat) (outs : List (Int × Int)) (_wins : Words ins) (_lins : ins.length ≤ 9223372036854775807) (_wouts : PWords outs) (hs : (qOf p != 0) = true) (h1 : 6 < outs.length) (w : World) (sins : Sl w Ains cins ins) (souts : Pt w Aouts couts outs) :
    Calls Try.prog 8 #[.int .u64 p, .slice Ains ins.length cins, .slice Aouts outs.length couts] w fun e w' => e = .returned (.bool true) ∧ Below w.heap.size w w' := by
  have gs := fun W => rSupported_any p W
  rw [hs] at gs
  have h1' : (6 : Int) < outs.length := by omega
  go_enter Try.func8, Try.ntmps8
  have hB := Below.refl w.heap.size w
  go_wp2_with fail
  refine (awake7_any _).mono ?_
  rintro e w1 ⟨rfl, hb⟩
  replace sins := sins.next hb
  replace souts := souts.next hb
  replace hB := hB.trans (hb.mono hB.size)
  clear hb
  go_wp2_with fail
  refine (gs _).mono ?_
  rintro e w2 ⟨rfl, hb⟩
  replace sins := sins.next hb
  replace souts := souts.next hb
  replace hB := hB.trans (hb.mono hB.size)
  clear hb
  go_wp2_with fail
  go_ret
  exact ⟨rfl, hB⟩

set_option maxHeartbeats 4000000 in
theorem walk_7 (p : Int) (Ains : Option Addr) (cins : Nat) (ins : List Int) (Aouts : Option Addr) (couts : Nat) (outs : List (Int × Int)) (_wins : Words ins) (_lins : ins.length ≤ 9223372036854775807) (_wouts : PWords outs) (hs : (qOf p != 0) = true) (h1 : outs.length ≤ 6) (h2 : 7 < ins.length + outs.length) (_hbig : ins.length + outs.length ≤ 9223372036854775807) (w : World) (sins : Sl w Ains cins ins) (souts : Pt w Aouts couts outs) :
    Calls Try.prog 8 #[.int .u64 p, .slice Ains ins.length cins, .slice Aouts outs.length couts] w fun e w' => e = .returned (.bool true) ∧ Below w.heap.size w w' := by
  have gs := fun W => rSupported_any p W
  rw [hs] at gs
  have h1' : ¬ (6 : Int) < outs.length := by omega
  have h2' : (7 : Int) < (ins.length : Int) + outs.length := by omega
  have hw : IntKind.i64.wrap ((ins.length : Int) + outs.length) = (ins.length : Int) + outs.length := IntWalk.i64_in _ (by omega)
  go_enter Try.func8, Try.ntmps8
  have hB := Below.refl w.heap.size w
  go_wp2_with fail
  refine (awake7_any _).mono ?_
  rintro e w1 ⟨rfl, hb⟩
  replace sins := sins.next hb
  replace souts := souts.next hb
  replace hB := hB.trans (hb.mono hB.size)
  clear hb
  go_wp2_with fail
  refine (gs _).mono ?_
  rintro e w2 ⟨rfl, hb⟩
  replace sins := sins.next hb
  replace souts := souts.next hb
  replace hB := hB.trans (hb.mono hB.size)
  clear hb
  go_wp2_with fail
  go_ret
  exact ⟨rfl, hB⟩

set_option maxHeartbeats 4000000 in
theorem walk_over (p : Int) (Ains : Option Addr) (cins : Nat) (ins : List Int) (Aouts : Option Addr) (couts : Nat) (outs : List (Int × Int)) (_wins : Words ins) (_lins : ins.length ≤ 9223372036854775807) (_wouts : PWords outs) (hs : (qOf p != 0) = true) (h1 : outs.length ≤ 6) (_hbig : 9223372036854775807 < ins.length + outs.length) (w : World) (sins : Sl w Ains cins ins) (souts : Pt w Aouts couts outs) :
    Calls Try.prog 8 #[.int .u64 p, .slice Ains ins.length cins, .slice Aouts outs.length couts] w fun e w' => e = .returned (.bool true) ∧ Below w.heap.size w w' := by
  have gs := fun W => rSupported_any p W
  rw [hs] at gs
  have h1' : ¬ (6 : Int) < outs.length := by omega
  have hw : IntKind.i64.wrap ((ins.length : Int) + outs.length) = (ins.length : Int) + outs.length - 18446744073709551616 := wrap_over _ (by omega) (by omega)
  have h2' : ¬ (7 : Int) < (ins.length : Int) + outs.length - 18446744073709551616 := by omega
  have h3' : (ins.length : Int) + outs.length - 18446744073709551616 < 1 := by omega
  go_enter Try.func8, Try.ntmps8
  have hB := Below.refl w.heap.size w
  go_wp2_with fail
  refine (awake7_any _).mono ?_
  rintro e w1 ⟨rfl, hb⟩
  replace sins := sins.next hb
  replace souts := souts.next hb
  replace hB := hB.trans (hb.mono hB.size)
  clear hb
  go_wp2_with fail
  refine (gs _).mono ?_
  rintro e w2 ⟨rfl, hb⟩
  replace sins := sins.next hb
  replace souts := souts.next hb
  replace hB := hB.trans (hb.mono hB.size)
  clear hb
  go_wp2_with fail
  go_ret
  exact ⟨rfl, hB⟩

set_option maxHeartbeats 4000000 in
theorem walk_1 (p : Int) (Ains : Option Addr) (cins : Nat) (ins : List Int) (Aouts : Option Addr) (couts : Nat) (outs : List (Int × Int)) (_wins : Words ins) (_lins : ins.length ≤ 9223372036854775807) (_wouts : PWords outs) (hs : (qOf p != 0) = true) (h1 : outs.length ≤ 6) (h3 : ins.length + outs.length < 1) (w : World) (sins : Sl w Ains cins ins) (souts : Pt w Aouts couts outs) :
    Calls Try.prog 8 #[.int .u64 p, .slice Ains ins.length cins, .slice Aouts outs.length couts] w fun e w' => e = .returned (.bool true) ∧ Below w.heap.size w w' := by
  have gs := fun W => rSupported_any p W
  rw [hs] at gs
  have h1' : ¬ (6 : Int) < outs.length := by omega
  have h2' : ¬ (7 : Int) < (ins.length : Int) + outs.length := by omega
  have h3' : (ins.length : Int) + outs.length < 1 := by omega
  go_enter Try.func8, Try.ntmps8
  have hB := Below.refl w.heap.size w
  go_wp2_with fail
  refine (awake7_any _).mono ?_
  rintro e w1 ⟨rfl, hb⟩
  replace sins := sins.next hb
  replace souts := souts.next hb
  replace hB := hB.trans (hb.mono hB.size)
  clear hb
  go_wp2_with fail
  refine (gs _).mono ?_
  rintro e w2 ⟨rfl, hb⟩
  replace sins := sins.next hb
  replace souts := souts.next hb
  replace hB := hB.trans (hb.mono hB.size)
  clear hb
  go_wp2_with fail
  go_ret
  exact ⟨rfl, hB⟩

set_option maxHeartbeats 4000000 in
theorem walk_bi (p : Int) (Ains : Option Addr) (cins : Nat) (ins : List Int) (Aouts : Option Addr) (couts : Nat) (outs : List (Int × Int)) (_wins : Words ins) (_lins : ins.length ≤ 9223372036854775807) (_wouts : PWords outs) (hs : (qOf p != 0) = true) (h1 : outs.length ≤ 6) (h2 : ins.length + outs.length ≤ 7) (h3 : 1 ≤ ins.length + outs.length) (h4 : ¬ ∀ x ∈ ins, x < p) (w : World) (sins : Sl w Ains cins ins) (souts : Pt w Aouts couts outs) :
    Calls Try.prog 8 #[.int .u64 p, .slice Ains ins.length cins, .slice Aouts outs.length couts] w fun e w' => e = .returned (.bool true) ∧ Below w.heap.size w w' := by
  have gs := fun W => rSupported_any p W
  rw [hs] at gs
  have h1' : ¬ (6 : Int) < outs.length := by omega
  have h2' : ¬ (7 : Int) < (ins.length : Int) + outs.length := by omega
  have h3' : ¬ (ins.length : Int) + outs.length < 1 := by omega
  have ga := fun W (q : Sl W Ains cins ins) => below_any p Ains cins ins W q (by omega)
  have gb := fun W (q : Pt W Aouts couts outs) => belP_any p Aouts couts outs (by omega) W q
  rw [decide_eq_false h4] at ga
  go_enter Try.func8, Try.ntmps8
  have hB := Below.refl w.heap.size w
  go_wp2_with fail
  refine (awake7_any _).mono ?_
  rintro e w1 ⟨rfl, hb⟩
  replace sins := sins.next hb
  replace souts := souts.next hb
  replace hB := hB.trans (hb.mono hB.size)
  clear hb
  go_wp2_with fail
  refine (gs _).mono ?_
  rintro e w2 ⟨rfl, hb⟩
  replace sins := sins.next hb
  replace souts := souts.next hb
  replace hB := hB.trans (hb.mono hB.size)
  clear hb
  go_wp2_with fail
  refine (ga _ sins).mono ?_
  rintro e w' ⟨rfl, rfl⟩
  go_wp2_with fail
  go_ret
  exact ⟨rfl, hB⟩

set_option maxHeartbeats 4000000 in
theorem walk_bo (p : Int) (Ains : Option Addr) (cins : Nat) (ins : List Int) (Aouts : Option Addr) (couts : Nat) (outs : List (Int × Int)) (_wins : Words ins) (_lins : ins.length ≤ 9223372036854775807) (_wouts : PWords outs) (hs : (qOf p != 0) = true) (h1 : outs.length ≤ 6) (h2 : ins.length + outs.length ≤ 7) (h3 : 1 ≤ ins.length + outs.length) (h4 : ∀ x ∈ ins, x < p) (h5 : belP p outs = false) (w : World) (sins : Sl w Ains cins ins) (souts : Pt w Aouts couts outs) :
    Calls Try.prog 8 #[.int .u64 p, .slice Ains ins.length cins, .slice Aouts outs.length couts] w fun e w' => e = .returned (.bool true) ∧ Below w.heap.size w w' := by
  have gs := fun W => rSupported_any p W
  rw [hs] at gs
  have h1' : ¬ (6 : Int) < outs.length := by omega
  have h2' : ¬ (7 : Int) < (ins.length : Int) + outs.length := by omega
  have h3' : ¬ (ins.length : Int) + outs.length < 1 := by omega
  have ga := fun W (q : Sl W Ains cins ins) => below_any p Ains cins ins W q (by omega)
  have gb := fun W (q : Pt W Aouts couts outs) => belP_any p Aouts couts outs (by omega) W q
  rw [decide_eq_true h4] at ga
  rw [h5] at gb
  go_enter Try.func8, Try.ntmps8
  have hB := Below.refl w.heap.size w
  go_wp2_with fail
  refine (awake7_any _).mono ?_
  rintro e w1 ⟨rfl, hb⟩
  replace sins := sins.next hb
  replace souts := souts.next hb
  replace hB := hB.trans (hb.mono hB.size)
  clear hb
  go_wp2_with fail
  refine (gs _).mono ?_
  rintro e w2 ⟨rfl, hb⟩
  replace sins := sins.next hb
  replace souts := souts.next hb
  replace hB := hB.trans (hb.mono hB.size)
  clear hb
  go_wp2_with fail
  refine (ga _ sins).mono ?_
  rintro e w' ⟨rfl, rfl⟩
  go_wp2_with fail
  refine (gb _ souts).mono ?_
  rintro e w' ⟨rfl, rfl⟩
  go_wp2_with fail
  go_ret
  exact ⟨rfl, hB⟩

set_option maxHeartbeats 4000000 in
theorem walk_ok (p : Int) (Ains : Option Addr) (cins : Nat) (ins : List Int) (Aouts : Option Addr) (couts : Nat) (outs : List (Int × Int)) (wins : Words ins) (_lins : ins.length ≤ 9223372036854775807) (wouts : PWords outs) (hs : (qOf p != 0) = true) (h1 : outs.length ≤ 6) (h2 : ins.length + outs.length ≤ 7) (h3 : 1 ≤ ins.length + outs.length) (hp : OkP p) (h4 : ∀ x ∈ ins, x < p) (h5 : belP p outs = true) (w : World) (sins : Sl w Ains cins ins) (souts : Pt w Aouts couts outs) :
    Calls Try.prog 8 #[.int .u64 p, .slice Ains ins.length cins, .slice Aouts outs.length couts] w fun e w' => e = .returned (.bool true) ∧ Below w.heap.size w w' := by
  have gs := fun W => rSupported_any p W
  rw [hs] at gs
  have h1' : ¬ (6 : Int) < outs.length := by omega
  have h2' : ¬ (7 : Int) < (ins.length : Int) + outs.length := by omega
  have h3' : ¬ (ins.length : Int) + outs.length < 1 := by omega
  have ga := fun W (q : Sl W Ains cins ins) => below_any p Ains cins ins W q (by omega)
  have gb := fun W (q : Pt W Aouts couts outs) => belP_any p Aouts couts outs (by omega) W q
  rw [decide_eq_true h4] at ga
  rw [h5] at gb
  have hbd := hp.bd
  have hei : El p ins := el_of wins h4
  have hbo : ∀ q ∈ outs, q.2 < p := of_decide_eq_true h5
  obtain ⟨i0, hi, hz0, hz1, hz2⟩ := info_parts info_pt
  obtain ⟨j0, hj, hy0, hy1, hy2⟩ := info_parts info_int
  have hd1 : decide ((6 : Int) < outs.length) = false := decide_eq_false (by omega)
  have hd2 : decide ((7 : Int) < (ins.length : Int) + outs.length) = false := decide_eq_false (by omega)
  have hd3 : decide ((ins.length : Int) + outs.length < 1) = false := decide_eq_false (by omega)
  clear h4 h5
  go_enter Try.func8, Try.ntmps8
  have hB := Below.refl w.heap.size w
  go_wp2_with fail
  refine (awake7_any _).mono ?_
  rintro e w1 ⟨rfl, hb⟩
  replace sins := sins.next hb
  replace souts := souts.next hb
  replace hB := hB.trans (hb.mono hB.size)
  clear hb
  go_wp2_with fail
  refine (gs _).mono ?_
  rintro e w2 ⟨rfl, hb⟩
  replace sins := sins.next hb
  replace souts := souts.next hb
  replace hB := hB.trans (hb.mono hB.size)
  clear hb
  go_wp2_with fail
  refine (ga _ sins).mono ?_
  rintro e w' ⟨rfl, rfl⟩
  go_wp2_with fail
  refine (gb _ souts).mono ?_
  rintro e w' ⟨rfl, rfl⟩
  rename World => W0
  go_wp2_with fail
  go_loopw [7, 9] (fun v i wr => ∃ k : Nat, k ≤ ins.length ∧ i = .int .i64 k ∧ wr.ownsRow W0.heap.size 56 2 v k (pcells (fxd ins k)) ∧ Below W0.heap.size W0 wr) (fun _ i _ => ins.length - (intOf i).toNat)
  case atStart => exact ⟨0, Nat.zero_le _, rfl, World.ownsRow_nil _ _ _ _, Below.refl _ _⟩
  case round =>
    obtain ⟨k, hk, rfl, hrow, hb1⟩ := hrel
    have hsz1 := hb1.size
    by_cases hlt : k < ins.length
    · obtain ⟨b, off, x, hA, _, hx, hcx⟩ := (sins.next hb1).at_ hlt
      subst hA
      have hk' : (k : Int) < ins.length := by omega
      have hNX : Hid (pcells (fxd ins (k + 1)) = pcells (fxd ins k) ++ [.int .u64 (k : Int), .int .u64 x]) := Lib.hid (by rw [fxd_next, pcells_snoc, co_at hx])
      have hku : IntKind.u64.wrap (k : Int) = k := IntWalk.u64_in _ (by omega)
      obtain ⟨Av, cv', hv⟩ := row_form2 hrow
      subst hv
      clear hx
      go_wp2_with (at_builtin; refine wpList_append_own _ rfl _ _ 46 rfl W0.heap.size 56 i0 (.agg #[.int .u64 0, .int .u64 0]) 2 16 Try.underlying46 hi hz0 hz1 hz2 rfl (by decide) _ _ _ rfl (hrow.alloc _) ⟨wr.heap.size, 0, none⟩ 1 1 [.int .u64 (k : Int), .int .u64 x] rfl rfl (pcells_new _ _ _ _) (by simp [Value.oneCell']) (by simp only [maxLen]; omega) (by omega) (by simp; omega) ?_; intro v' w2 hown' hgrow _)
      have hb2 : Below W0.heap.size W0 w2 := (hb1.alloc hsz1 _).grown hgrow (by simp; omega) (fun k e => (hrow.lt k e).1)
      go_roundw
      case rel => exact ⟨k + 1, by omega, by simp, by rw [hNX.out]; exact hown', hb2⟩
      case measure => simp [intOf]; omega
    · obtain rfl : k = ins.length := by omega
      obtain ⟨Af, cf, hvf, sf⟩ := pown_form hrow
      rw [fxd_len] at hvf
      subst hvf
      replace sins := sins.next hb1
      replace souts := souts.next hb1
      replace hB := hB.trans (hb1.mono hB.size)
      clear hrow
      rename World => W1
      go_wp2_with fail
      go_loopw [8, 10] (fun v i wr => ∃ k : Nat, k ≤ outs.length ∧ i = .int .i64 k ∧ wr.ownsRow W1.heap.size 3 1 v k (((List.range k).map (co (px outs))).map (Value.int .i64)) ∧ Hid (∀ q ∈ outs.take k, q.1 ≤ 5) ∧ Below W1.heap.size W1 wr) (fun _ i _ => outs.length - (intOf i).toNat)
      case atStart => exact ⟨0, Nat.zero_le _, rfl, World.ownsRow_nil _ _ _ _, Lib.hid (fun q hq => by simp at hq), Below.refl _ _⟩
      case round =>
        obtain ⟨k, hk, rfl, hrow, hSm, hb2⟩ := hrel
        have hsz2 := hb2.size
        by_cases hlt : k < outs.length
        · obtain ⟨b, off, x, y, hA, _, hx, hcx, hcy⟩ := (souts.next hb2).at_ hlt
          subst hA
          have hk' : (k : Int) < outs.length := by omega
          obtain ⟨Av, cv', hv⟩ := row_form hrow
          subst hv
          by_cases hx5 : (5 : Int) < x
          · clear hx hSm
            go_wp2_with fail
            go_ret
            exact ⟨rfl, hB.trans (hb2.mono hB.size)⟩
          · have hx0 : 0 ≤ x := (wouts _ (List.mem_of_getElem? hx)).1.1
            have hci : IntKind.i64.wrap x = x := IntWalk.i64_in _ (by omega)
            have hSm2 : Hid (∀ q ∈ outs.take (k + 1), q.1 ≤ 5) := Lib.hid fun q hq => by
              rw [List.take_add_one, hx, List.mem_append] at hq
              rcases hq with hq | hq
              · exact hSm.out q hq
              · simp at hq; subst hq; show x ≤ 5; omega
            have hX := Lib.hid (px_at hx)
            clear hx hSm
            go_wp2_with (at_builtin; refine wpList_append_own _ rfl _ _ 36 rfl W1.heap.size 3 j0 (.int .i64 0) 1 8 Try.underlying36 hj hy0 hy1 hy2 rfl (by decide) _ _ _ rfl (hrow.alloc _) ⟨wr.heap.size, 0, none⟩ 1 1 [.int .i64 x] rfl rfl (cell_one_new _ _ _) (by simp [Value.oneCell']) (by simp only [maxLen]; omega) (by omega) (by simp; omega) ?_; intro v' w2 hown' hgrow _)
            have hb3 : Below W1.heap.size W1 w2 := (hb2.alloc hsz2 _).grown hgrow (by simp; omega) (fun k e => (hrow.lt k e).1)
            go_roundw
            case rel => exact ⟨k + 1, by omega, by simp, iown_next (f := co (px outs)) (by rw [hX.out]; exact hown'), hSm2, hb3⟩
            case measure => simp [intOf]; omega
        · obtain rfl : k = outs.length := by omega
          rw [List.take_length] at hSm
          have hDD : (List.range outs.length).map (co (px outs)) = px outs := by rw [← px_len]; exact range_co _
          rw [hDD] at hrow
          obtain ⟨Aat, cat, hva, sat⟩ := iown_form hrow
          have gu := unl_any Aat cat (px outs) 6 (by rw [px_len]; omega) wr sat
          rw [px_len] at hva gu
          subst hva
          replace sins := sins.next hb2
          replace souts := souts.next hb2
          replace sf := sf.next hb2
          replace hB := hB.trans (hb2.mono hB.size)
          clear hrow hDD
          cases hu : unlB (px outs) 6 with
        | false =>
          rw [hu] at gu
          go_wp2_with fail
          refine gu.mono ?_
          rintro e w3 ⟨rfl, hb⟩
          go_wp2_with fail
          go_ret
          exact ⟨rfl, hB.trans (hb.mono hB.size)⟩
        | true =>
          rw [hu] at gu
          obtain ⟨x, hF⟩ := free_math hp h1 h2 h3 hei wouts hbo hu
          have hM := nw_mat (p := p) (by omega) 6 (ins.length + outs.length)
          have gn := fun W => new_ok p hp 6 (ins.length + outs.length) (by omega) (by omega) (by omega) W
          unfold MatE at gn
          rw [nw_len, Int.natCast_add] at gn
          have gc2 : ∀ W A c, Sll W A c (nw p 6 (ins.length + outs.length)) → Pt W Af cf (fxd ins ins.length) → Pt W Aouts couts outs → Calls Try.prog 26 #[.int .u64 p, .slice A 6 c, .slice Af ins.length cf, .slice Aouts outs.length couts] W fun e w' => Two3 x (app p (nw p 6 (ins.length + outs.length)) x) W e w' := fun W A c q1 q2 q3 => by
            have h9 := cmpl_any p hp A Af Aouts c cf couts _ _ outs hF.arg W q1 q2 q3
            rw [nw_len, fxd_len] at h9
            refine h9.mono fun e w' hx => ?_
            unfold CmpE at hx
            rw [hF.ok, if_pos rfl, hF.cmp] at hx
            exact hx
          unfold Two3 at gc2
          have hyl : (app p (nw p 6 (ins.length + outs.length)) x).length = 6 := by rw [app_len, nw_len]
          obtain ⟨N, hN⟩ : ∃ N, N = ins.length + outs.length := ⟨_, rfl⟩
          have hNI : (ins.length : Int) + outs.length = N := by omega
          rw [hF.len, hyl] at gc2
          have gy := fun W A c Ax cx (q1 : Sll W A c (nw p 6 (ins.length + outs.length))) (q2 : Sl W Ax cx x) => apply_ok p hp A Ax c cx _ x (hM.sized (by omega) (by omega)) hM.els hF.el hM.isRect (by rw [hM.cols (by omega), hF.len]) W q1 q2
          unfold RowE at gy
          rw [nw_len, hyl, hF.len] at gy
          have hini := Lib.hid hF.ini
          have hout := Lib.hid hF.out
          have hxl := Lib.hid hF.len
          clear hF hM
          generalize app p (nw p 6 (ins.length + outs.length)) x = y at *
          generalize nw p 6 (ins.length + outs.length) = MM at *
          have HYL := Lib.hid hyl
          rw [← hN] at gc2 gy hxl
          rw [hNI] at gn
          have HN := Lib.hid hN
          clear hyl hN
          have hN7 : N ≤ 7 := by omega
          go_wp2_with fail
          refine gu.mono ?_
          rintro e w3 ⟨rfl, hb⟩
          replace sins := sins.next hb
          replace souts := souts.next hb
          replace sf := sf.next hb
          replace sat := sat.next hb
          replace hB := hB.trans (hb.mono hB.size)
          clear hb gu
          go_wp2_with fail
          refine (gn _).mono ?_
          rintro e w4 ⟨Am, cm, rfl, sm, hb⟩
          replace sins := sins.next hb
          replace souts := souts.next hb
          replace sf := sf.next hb
          replace sat := sat.next hb
          replace hB := hB.trans (hb.mono hB.size)
          clear hb gn
          go_wp2_with fail
          refine (gc2 _ _ _ sm sf souts).mono ?_
          rintro e w5 ⟨Ax, cx, Ay, cy, rfl, sx, sy, hb⟩
          replace sins := sins.next hb
          replace souts := souts.next hb
          replace sat := sat.next hb
          replace sm := sm.next hb
          replace hB := hB.trans (hb.mono hB.size)
          clear hb gc2 sf
          go_wp2_with fail
          go_loopw [16] (fun i wr => ∃ k r : Nat, k ≤ ins.length ∧ i = .int .i64 k ∧ wr = w5.drewN r) (fun i _ => ins.length - (intOf i).toNat)
          case atStart => exact ⟨0, 0, Nat.zero_le _, rfl, rfl⟩
          case round =>
            obtain ⟨k, r, hk, rfl, rfl⟩ := hrel
            by_cases hlt : k < ins.length
            · obtain ⟨b1, o1, u, hA1, _, hu1, hc1⟩ := sx.at_ (k := k) (by rw [hxl.out, HN.out]; omega)
              obtain ⟨b2, o2, v, hA2, _, hv2, hc2⟩ := sins.at_ hlt
              have huv : u = v := by have := hini.out k hlt; rw [co_at hu1, co_at hv2] at this; exact this
              subst hA1 hA2 huv
              have hk1 : (k : Int) < ins.length := by omega
              have hk2 : (k : Int) < N := by rw [HN.out]; omega
              clear hu1 hv2
              go_wp2
              go_quiet (fail)
              go_wp2
              go_roundw
              case rel => exact ⟨k + 1, _, by omega, by simp, by first | rfl | (simp; rfl)⟩
              case measure => simp [intOf]; omega
            · obtain rfl : k = ins.length := by omega
              go_wp2
              go_loopw [17] (fun i wr => ∃ q r : Nat, q ≤ outs.length ∧ i = .int .i64 q ∧ wr = w5.drewN r) (fun i _ => outs.length - (intOf i).toNat)
              case atStart => exact ⟨0, r, Nat.zero_le _, rfl, rfl⟩
              case round =>
                obtain ⟨q, r, hq, rfl, rfl⟩ := hrel
                by_cases hlt : q < outs.length
                · obtain ⟨b1, o1, xo, yo, hA1, _, hx1, hcx1, hcy1⟩ := souts.at_ hlt
                  obtain ⟨b2, o2, t, hA2, _, ht, hct⟩ := sat.at_ (k := q) (by rw [px_len]; exact hlt)
                  have htx : t = xo := by rw [px_get hx1] at ht; injection ht with ht; exact ht.symm
                  have hxb : 0 ≤ xo ∧ xo ≤ 5 := ⟨(wouts _ (List.mem_of_getElem? hx1)).1.1, hSm.out _ (List.mem_of_getElem? hx1)⟩
                  obtain ⟨z, rfl⟩ : ∃ z : Nat, xo = (z : Int) := ⟨xo.toNat, by omega⟩
                  obtain ⟨b3, o3, v, hA3, _, hv3, hc3⟩ := sy.at_ (k := z) (by rw [HYL.out]; omega)
                  have hvy : v = yo := by have := hout.out _ (List.mem_of_getElem? hx1); rw [Int.toNat_natCast, co_at hv3] at this; exact this
                  subst hA1 hA2 hA3 hvy htx
                  have hq1 : (q : Int) < outs.length := by omega
                  have hz6 : (z : Int) < 6 := by omega
                  clear hx1 ht hv3
                  go_wp2
                  go_quiet (fail)
                  go_wp2
                  go_roundw
                  case rel => exact ⟨q + 1, _, by omega, by simp, by first | rfl | (simp; rfl)⟩
                  case measure => simp [intOf]; omega
                · obtain rfl : q = outs.length := by omega
                  have hbD := below_drewN (Below.refl w5.heap.size w5) r
                  replace sx := sx.next hbD
                  replace sy := sy.next hbD
                  replace sm := sm.next hbD
                  replace hB := hB.trans (hbD.mono hB.size)
                  go_wp2_with fail
                  refine (gy _ _ _ _ _ sm sx).mono ?_
                  rintro e w7 ⟨Ag, cg, rfl, sg7, hb⟩
                  replace sy := sy.next hb
                  replace hB := hB.trans (hb.mono hB.size)
                  clear hb gy
                  have gsm := same_b Ag Ay y cg cy w7 sg7 sy (by rw [HYL.out]; omega)
                  rw [HYL.out] at gsm
                  go_wp2_with fail
                  refine gsm.mono ?_
                  rintro e w8 ⟨rfl, hb⟩
                  replace hB := hB.trans (hb.mono hB.size)
                  go_wp2_with fail
                  go_ret
                  exact ⟨rfl, hB⟩

set_option maxHeartbeats 4000000 in
theorem walk (p : Int) (Ains : Option Addr) (cins : Nat) (ins : List Int) (Aouts : Option Addr) (couts : Nat) (outs : List (Int × Int)) (wins : Words ins) (lins : ins.length ≤ 9223372036854775807) (wouts : PWords outs)  (w : World) (sins : Sl w Ains cins ins) (souts : Pt w Aouts couts outs) :
    Calls Try.prog 8 #[.int .u64 p, .slice Ains ins.length cins, .slice Aouts outs.length couts] w fun e w' => e = .returned (.bool true) ∧ Below w.heap.size w w' := by
  rcases sup_cases p with hs | ⟨hs, hp⟩
  · exact walk_unsup p Ains cins ins Aouts couts outs wins lins wouts hs w sins souts
  · by_cases h1 : 6 < outs.length
    · exact walk_o6 p Ains cins ins Aouts couts outs wins lins wouts hs h1 w sins souts
    · by_cases h2 : 7 < ins.length + outs.length
      · by_cases hbig : ins.length + outs.length ≤ 9223372036854775807
        · exact walk_7 p Ains cins ins Aouts couts outs wins lins wouts hs (by omega) h2 hbig w sins souts
        · exact walk_over p Ains cins ins Aouts couts outs wins lins wouts hs (by omega) (by omega) w sins souts
      · by_cases h3 : ins.length + outs.length < 1
        · exact walk_1 p Ains cins ins Aouts couts outs wins lins wouts hs (by omega) h3 w sins souts
        · by_cases h4 : ∀ x ∈ ins, x < p
          · cases h5 : belP p outs with
            | false => exact walk_bo p Ains cins ins Aouts couts outs wins lins wouts hs (by omega) (by omega) (by omega) h4 h5 w sins souts
            | true => exact walk_ok p Ains cins ins Aouts couts outs wins lins wouts hs (by omega) (by omega) (by omega) hp h4 h5 w sins souts
          · exact walk_bi p Ains cins ins Aouts couts outs wins lins wouts hs (by omega) (by omega) (by omega) h4 w sins souts

theorem lifted (os : Os) (started : os.Started) (H : Type) (enc : TypeId × Value → H) :
    ReturnsInHanded {} Try.checked os 8 .any (Rows.hyperinvertibleOutputsAreFreeSpec.pre6 enc Try.prog Try.f8 Rows.hyperinvertibleOutputsAreFreeRow.domain false) (Rows.hyperinvertibleOutputsAreFreeSpec.post enc Try.prog Try.f8 false true false false) := by
  refine returnsInHanded_of_change (C := Try.checked) own started (by kernel_rfl) Try.func8
    (ChangeSpec.witness6 (enc := enc) (C := Try.checked) false ⟨#[], #[.int .u64 0, .slice none 0 0, .slice none 0 0], []⟩ 8 (by kernel_rfl) (by kernel_rfl) (by kernel_rfl) (by kernel_rfl)) ?_
  intro W base args ds gs before hval0 hW hcnd _
  have hval : ∀ (j : Nat) t v, Try.f8.params[j]? = some t → args[j]? = some v → Value.okWide Try.prog W .any base t v := hval0
  have hW' := hW
  obtain ⟨p, q, hA0, hV, rfl, hfz, hnd⟩ := hW
  have hA : DataW.TrodAll enc Try.prog W 0 (fun _ => true) true Try.f8.params.toList args.toList ds p := hA0
  rw [Try.params8] at hA hval
  obtain ⟨v0, v1, v2, d0, d1, d2, p0, p1, p2, rfl, rfl, rfl, t0, t1, t2⟩ := trodAll_three hA
  obtain ⟨rfl, rfl⟩ := trodVars_none hV
  clear hA0 hval0
  simp only [List.append_nil] at hW'
  have l0 : ∀ x ∈ p0, x.block < W.heap.size := fun x hx => hW'.lt x (by simp [hx])
  obtain ⟨x0, rfl, _⟩ := arg_word (hval 0 22 v0 rfl rfl) t0
  have l1 : ∀ x ∈ p1, x.block < W.heap.size := fun x hx => hW'.lt x (by simp [hx])
  obtain ⟨A1, x1, c1, rfl, r1, b1, n1⟩ := arg_slb (hval 1 31 v1 rfl rfl) t1 l1
  have l2 : ∀ x ∈ p2, x.block < W.heap.size := fun x hx => hW'.lt x (by simp [hx])
  obtain ⟨A2, x2, c2, rfl, r2, b2⟩ := arg_pt (hval 2 46 v2 rfl rfl) t2 l2
  refine (walk x0 A1 c1 x1 A2 c2 x2 b1 n1 b2 W r1 r2).mono fun e W' ⟨he, hb⟩ => ?_
  subst he
  exact ⟨_, rfl, post_of_below (pa := p0 ++ (p1 ++ p2)) (pv := []) hW' (fun _ _ _ => (trodAll_cons_mk (shut_bool Try.underlying4 _) trodAll_mk0)) (fun sp hsp => trodAll_mk3 (stay_word t0 hb l0 sp (fun x hx => hsp x (by simp [hx]))) (stays t1 hb l1 sp (fun x hx => hsp x (by simp [hx]))) (stay_pt t2 hb l2 sp (fun x hx => hsp x (by simp [hx])))) (fun _ _ => rfl) (by simp)
    hb (ok_one (by kernel_rfl) rfl (okWide_bool_mk Try.underlying4 _))⟩

theorem over : Rows.hyperinvertibleOutputsAreFreeRow.holds Try.pinned (OpenSpec.ofChange Rows.hyperinvertibleOutputsAreFreeSpec) :=
  OpenClaim.holds_of_wide 8 Try.f8 rfl rfl rfl rfl rfl rfl rfl ⟨rfl, rfl, rfl, rfl, rfl⟩ rfl rfl rfl rfl rfl (by kernel_rfl) Try.func8 (by kernel_rfl)
    (of_decide_eq_true (by kernel_rfl)) (by unfold Func.isWrapper; first | (rw [if_pos (by decide +kernel)]; kernel_rfl) | (rw [if_neg (by decide +kernel)]; exact ⟨rfl, rfl⟩))
    (fun os started H enc _ => lifted os started H enc)

theorem proved : Rows.HyperinvertibleOutputsAreFreeSaid := over
end Go.Proofs.Ytjijlefplidhpaa.hyperinvertibleOutputsAreFree
