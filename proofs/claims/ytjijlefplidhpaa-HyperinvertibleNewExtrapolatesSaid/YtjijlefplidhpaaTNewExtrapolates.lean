/- The matrix of New maps the values of a polynomial at the first points to its values at the following points. No conditions. -/
import Derived.Test.YtjijlefplidhpaaMG
import Derived.Test.YtjijlefplidhpaaMB
namespace Go.Proofs.Ytjijlefplidhpaa.hyperinvertibleNewExtrapolates
set_option maxRecDepth 100000
open Go.ChangeShapes Go.WideShapes Go.ChangeAt Go.RowKit PolyMath FieldMath MatMath

set_option maxHeartbeats 4000000 in
theorem walk_unsup (p : Int) (Af : Option Addr) (cf : Nat) (f : List Int) (rows : Nat) (_wf : Words f) (_brows : rows ≤ 255) (hs : (qOf p != 0) = false) (w : World) (sf : Sl w Af cf f) :
    Calls Try.prog 4 #[.int .u64 p, .slice Af f.length cf, .int .u8 rows] w fun e w' => e = .returned (.bool true) ∧ Below w.heap.size w w' := by
  have gs := fun W => rSupported_any p W
  rw [hs] at gs
  go_enter Try.func4, Try.ntmps4
  have hB := Below.refl w.heap.size w
  go_wp2_with fail
  refine (awake7_any _).mono ?_
  rintro e w1 ⟨rfl, hb⟩
  replace sf := sf.next hb
  replace hB := hB.trans (hb.mono hB.size)
  clear hb
  go_wp2_with fail
  refine (gs _).mono ?_
  rintro e w2 ⟨rfl, hb⟩
  replace sf := sf.next hb
  replace hB := hB.trans (hb.mono hB.size)
  clear hb
  go_wp2_with fail
  go_ret
  exact ⟨rfl, hB⟩

set_option maxHeartbeats 4000000 in
theorem walk_lt (p : Int) (Af : Option Addr) (cf : Nat) (f : List Int) (rows : Nat) (_wf : Words f) (_brows : rows ≤ 255) (hs : (qOf p != 0) = true) (h1 : f.length < 1) (w : World) (sf : Sl w Af cf f) :
    Calls Try.prog 4 #[.int .u64 p, .slice Af f.length cf, .int .u8 rows] w fun e w' => e = .returned (.bool true) ∧ Below w.heap.size w w' := by
  have gs := fun W => rSupported_any p W
  rw [hs] at gs
  have h1' : (f.length : Int) < 1 := by omega
  go_enter Try.func4, Try.ntmps4
  have hB := Below.refl w.heap.size w
  go_wp2_with fail
  refine (awake7_any _).mono ?_
  rintro e w1 ⟨rfl, hb⟩
  replace sf := sf.next hb
  replace hB := hB.trans (hb.mono hB.size)
  clear hb
  go_wp2_with fail
  refine (gs _).mono ?_
  rintro e w2 ⟨rfl, hb⟩
  replace sf := sf.next hb
  replace hB := hB.trans (hb.mono hB.size)
  clear hb
  go_wp2_with fail
  go_ret
  exact ⟨rfl, hB⟩

set_option maxHeartbeats 4000000 in
theorem walk_gt (p : Int) (Af : Option Addr) (cf : Nat) (f : List Int) (rows : Nat) (_wf : Words f) (_brows : rows ≤ 255) (hs : (qOf p != 0) = true) (h1 : 12 < f.length) (w : World) (sf : Sl w Af cf f) :
    Calls Try.prog 4 #[.int .u64 p, .slice Af f.length cf, .int .u8 rows] w fun e w' => e = .returned (.bool true) ∧ Below w.heap.size w w' := by
  have gs := fun W => rSupported_any p W
  rw [hs] at gs
  have h1' : ¬ (f.length : Int) < 1 := by omega
  have h2' : (12 : Int) < f.length := by omega
  go_enter Try.func4, Try.ntmps4
  have hB := Below.refl w.heap.size w
  go_wp2_with fail
  refine (awake7_any _).mono ?_
  rintro e w1 ⟨rfl, hb⟩
  replace sf := sf.next hb
  replace hB := hB.trans (hb.mono hB.size)
  clear hb
  go_wp2_with fail
  refine (gs _).mono ?_
  rintro e w2 ⟨rfl, hb⟩
  replace sf := sf.next hb
  replace hB := hB.trans (hb.mono hB.size)
  clear hb
  go_wp2_with fail
  go_ret
  exact ⟨rfl, hB⟩

set_option maxHeartbeats 4000000 in
theorem walk_r0 (p : Int) (Af : Option Addr) (cf : Nat) (f : List Int) (rows : Nat) (_wf : Words f) (_brows : rows ≤ 255) (hs : (qOf p != 0) = true) (h1 : 1 ≤ f.length) (h2 : f.length ≤ 12) (h3 : rows < 1) (w : World) (sf : Sl w Af cf f) :
    Calls Try.prog 4 #[.int .u64 p, .slice Af f.length cf, .int .u8 rows] w fun e w' => e = .returned (.bool true) ∧ Below w.heap.size w w' := by
  have gs := fun W => rSupported_any p W
  rw [hs] at gs
  have h1' : ¬ (f.length : Int) < 1 := by omega
  have h2' : ¬ (12 : Int) < f.length := by omega
  have h3' : (rows : Int) < 1 := by omega
  go_enter Try.func4, Try.ntmps4
  have hB := Below.refl w.heap.size w
  go_wp2_with fail
  refine (awake7_any _).mono ?_
  rintro e w1 ⟨rfl, hb⟩
  replace sf := sf.next hb
  replace hB := hB.trans (hb.mono hB.size)
  clear hb
  go_wp2_with fail
  refine (gs _).mono ?_
  rintro e w2 ⟨rfl, hb⟩
  replace sf := sf.next hb
  replace hB := hB.trans (hb.mono hB.size)
  clear hb
  go_wp2_with fail
  go_ret
  exact ⟨rfl, hB⟩

set_option maxHeartbeats 4000000 in
theorem walk_r13 (p : Int) (Af : Option Addr) (cf : Nat) (f : List Int) (rows : Nat) (_wf : Words f) (_brows : rows ≤ 255) (hs : (qOf p != 0) = true) (h1 : 1 ≤ f.length) (h2 : f.length ≤ 12) (h3 : 12 < rows) (w : World) (sf : Sl w Af cf f) :
    Calls Try.prog 4 #[.int .u64 p, .slice Af f.length cf, .int .u8 rows] w fun e w' => e = .returned (.bool true) ∧ Below w.heap.size w w' := by
  have gs := fun W => rSupported_any p W
  rw [hs] at gs
  have h1' : ¬ (f.length : Int) < 1 := by omega
  have h2' : ¬ (12 : Int) < f.length := by omega
  have h3' : ¬ (rows : Int) < 1 := by omega
  have h4' : (12 : Int) < rows := by omega
  go_enter Try.func4, Try.ntmps4
  have hB := Below.refl w.heap.size w
  go_wp2_with fail
  refine (awake7_any _).mono ?_
  rintro e w1 ⟨rfl, hb⟩
  replace sf := sf.next hb
  replace hB := hB.trans (hb.mono hB.size)
  clear hb
  go_wp2_with fail
  refine (gs _).mono ?_
  rintro e w2 ⟨rfl, hb⟩
  replace sf := sf.next hb
  replace hB := hB.trans (hb.mono hB.size)
  clear hb
  go_wp2_with fail
  go_ret
  exact ⟨rfl, hB⟩

set_option maxHeartbeats 4000000 in
theorem walk_b (p : Int) (Af : Option Addr) (cf : Nat) (f : List Int) (rows : Nat) (_wf : Words f) (_brows : rows ≤ 255) (hs : (qOf p != 0) = true) (h1 : 1 ≤ f.length) (h2 : f.length ≤ 12) (h3 : 1 ≤ rows) (h4 : rows ≤ 12) (h5 : ¬ ∀ x ∈ f, x < p) (w : World) (sf : Sl w Af cf f) :
    Calls Try.prog 4 #[.int .u64 p, .slice Af f.length cf, .int .u8 rows] w fun e w' => e = .returned (.bool true) ∧ Below w.heap.size w w' := by
  have gs := fun W => rSupported_any p W
  rw [hs] at gs
  have h1' : ¬ (f.length : Int) < 1 := by omega
  have h2' : ¬ (12 : Int) < f.length := by omega
  have h3' : ¬ (rows : Int) < 1 := by omega
  have h4' : ¬ (12 : Int) < rows := by omega
  have gb := fun W (q : Sl W Af cf f) => below_any p Af cf f W q (by omega)
  rw [decide_eq_false h5] at gb
  go_enter Try.func4, Try.ntmps4
  have hB := Below.refl w.heap.size w
  go_wp2_with fail
  refine (awake7_any _).mono ?_
  rintro e w1 ⟨rfl, hb⟩
  replace sf := sf.next hb
  replace hB := hB.trans (hb.mono hB.size)
  clear hb
  go_wp2_with fail
  refine (gs _).mono ?_
  rintro e w2 ⟨rfl, hb⟩
  replace sf := sf.next hb
  replace hB := hB.trans (hb.mono hB.size)
  clear hb
  go_wp2_with fail
  refine (gb _ sf).mono ?_
  rintro e w' ⟨rfl, rfl⟩
  go_wp2_with fail
  go_ret
  exact ⟨rfl, hB⟩

set_option maxHeartbeats 4000000 in
theorem walk_ok (p : Int) (Af : Option Addr) (cf : Nat) (f : List Int) (rows : Nat) (wf : Words f) (_brows : rows ≤ 255) (hs : (qOf p != 0) = true) (h1 : 1 ≤ f.length) (h2 : f.length ≤ 12) (h3 : 1 ≤ rows) (h4 : rows ≤ 12) (hp : OkP p) (h5 : ∀ x ∈ f, x < p) (w : World) (sf : Sl w Af cf f) :
    Calls Try.prog 4 #[.int .u64 p, .slice Af f.length cf, .int .u8 rows] w fun e w' => e = .returned (.bool true) ∧ Below w.heap.size w w' := by
  have gs := fun W => rSupported_any p W
  rw [hs] at gs
  have h1' : ¬ (f.length : Int) < 1 := by omega
  have h2' : ¬ (12 : Int) < f.length := by omega
  have h3' : ¬ (rows : Int) < 1 := by omega
  have h4' : ¬ (12 : Int) < rows := by omega
  have gb := fun W (q : Sl W Af cf f) => below_any p Af cf f W q (by omega)
  rw [decide_eq_true h5] at gb
  have hbd := hp.bd
  have hf : El p f := el_of wf h5
  have gn := fun W => new_ok p hp rows f.length (by omega) (by omega) (by omega) W
  unfold MatE at gn
  rw [nw_len] at gn
  have hml := Lib.hid (nw_len p rows f.length)
  have hrow := Lib.hid (fun i (hi : i < rows) => nw_ro p (rows := rows) f.length hi)
  have hwl : Hid (∀ i, (wts p (upts f.length) (pt i)).length = f.length) := Lib.hid fun i => by rw [wts_len, upts_len]
  have hwe : Hid (∀ i, El p (wts p (upts f.length) (pt i))) := Lib.hid fun i => wts_el (by omega) _ _
  have hVal := Lib.hid (fun i => nw_value hp.good (cols := f.length) (by omega) hf rfl i)
  have hrne : ((rows : Int) != rows) = false := by simp
  have hd1 : decide ((f.length : Int) < 1) = false := decide_eq_false (by omega)
  have hd2 : decide ((12 : Int) < f.length) = false := decide_eq_false (by omega)
  have hd3 : decide ((rows : Int) < 1) = false := decide_eq_false (by omega)
  have hd4 : decide ((12 : Int) < rows) = false := decide_eq_false (by omega)
  generalize nw p rows f.length = MM at *
  clear h5
  go_enter Try.func4, Try.ntmps4
  have hB := Below.refl w.heap.size w
  go_wp2_with fail
  refine (awake7_any _).mono ?_
  rintro e w1 ⟨rfl, hb⟩
  replace sf := sf.next hb
  replace hB := hB.trans (hb.mono hB.size)
  clear hb
  go_wp2_with fail
  refine (gs _).mono ?_
  rintro e w2 ⟨rfl, hb⟩
  replace sf := sf.next hb
  replace hB := hB.trans (hb.mono hB.size)
  clear hb
  go_wp2_with fail
  refine (gb _ sf).mono ?_
  rintro e w' ⟨rfl, rfl⟩
  go_wp2_with fail
  refine (gn _).mono ?_
  rintro e w4 ⟨Am, cm, rfl, sm, hb⟩
  replace sf := sf.next hb
  replace hB := hB.trans (hb.mono hB.size)
  clear hb
  rename World => W0
  go_wp2_with fail
  go_loopw [9] (fun i wr => ∃ k : Nat, k ≤ rows ∧ i = .int .i64 k ∧ Below w.heap.size w wr ∧ Below W0.heap.size W0 wr) (fun i _ => rows - (intOf i).toNat)
  case atStart => exact ⟨0, Nat.zero_le _, rfl, hB, Below.refl _ _⟩
  case round =>
    obtain ⟨k, hk, rfl, hB2, hb2⟩ := hrel
    by_cases hlt : k < rows
    · obtain ⟨br, or_, Ar, cr, hA, hbr, hcr, sr⟩ := sm.rowAt (i := k) (L := f.length) (by rw [hml.out]; exact hlt) (by rw [hrow.out k hlt]; exact hwl.out _)
      rw [hrow.out k hlt] at sr
      subst hA
      have hk' : (k : Int) < rows := by omega
      have hcr2 := (hb2.cell (p := ⟨br, or_ + k, none⟩) hbr).trans hcr
      have hval := hVal.out (f.length + k)
      have hWL := hwl.out (f.length + k)
      have hWE := hwe.out (f.length + k)
      generalize wts p (upts f.length) (pt (f.length + k)) = wt at *
      have HWL := Lib.hid hWL
      have hne : ((f.length : Int) != f.length) = false := by simp
      clear hWL
      rename World => W1
      go_wp2_with fail
      go_loopw [10, 11] (fun s i wr => ∃ (q : Nat) (S : Int), q ≤ f.length ∧ i = .int .i64 q ∧ s = .int .u64 S ∧ 0 ≤ S ∧ S < p ∧ Hid (fsum p (fun k => fmul p (co wt k) (pev p f (pt k))) q = S) ∧ Below W1.heap.size W1 wr) (fun _ i _ => f.length - (intOf i).toNat)
      case atStart => exact ⟨0, 0, Nat.zero_le _, rfl, rfl, by omega, by omega, Lib.hid rfl, Below.refl _ _⟩
      case round =>
        obtain ⟨q, S, hq, rfl, rfl, hS0, hS1, hSum, hb3⟩ := hrel
        have hb23 := hb2.trans (hb3.mono hb2.size)
        by_cases hlt2 : q < f.length
        · obtain ⟨bw, ow, y, hA7, hbw, hy, hcy⟩ := sr.at_ (k := q) (by rw [HWL.out]; exact hlt2)
          subst hA7
          have hyb := hWE y (List.mem_of_getElem? hy)
          have c1 := (hb23.cell (p := ⟨br, or_ + k, none⟩) hbr).trans hcr
          have c2 := (hb23.cell (p := ⟨bw, ow + q, none⟩) hbw).trans hcy
          have hbrw : br < wr.heap.size := Nat.lt_of_lt_of_le hbr hb23.size
          have hbww : bw < wr.heap.size := Nat.lt_of_lt_of_le hbw hb23.size
          have hpt : (pt q : Int) = (q : Int) + 1 := rfl
          have hev := fun W (h : Sl W Af cf f) => eval_any p (pt q) hp (by unfold pt; omega) Af cf f hf (by omega) W h
          have hEB := pev_bd (p := p) (by omega) f (pt q)
          have hm := fmul_bd p y (pev p f (pt q)) (by omega)
          have hnx : Hid (fsum p (fun k => fmul p (co wt k) (pev p f (pt k))) (q + 1) = fadd p S (fmul p y (pev p f (pt q)))) := Lib.hid (by
            show fadd p (fsum p _ q) (fmul p (co wt q) (pev p f (pt q))) = _
            rw [hSum.out, co_at hy])
          have hab := fadd_bd p S (fmul p y (pev p f (pt q))) (by omega)
          have hw : IntKind.u64.wrap (IntKind.i64.wrap ((q : Int) + 1)) = (q : Int) + 1 := by rw [IntWalk.i64_in _ (by omega), IntWalk.u64_in _ (by omega)]
          have hq' : (q : Int) < f.length := by omega
          have hev2 := hev wr.drew ((sf.next hb23).drew)
          rw [hpt] at hev2 hEB hm hnx hab
          generalize pev p f ((q : Int) + 1) = EV at *
          clear hev hy hSum
          go_wp2_with fail
          go_region_held3 (fun w' => w'.cell? ⟨br, or_ + k, none⟩ = some (.slice (some ⟨bw, ow, none⟩) f.length cr) ∧ w'.cell? ⟨bw, ow + q, none⟩ = some (.int .u64 y))
            (first | (refine ⟨?_, ?_⟩ <;> assumption))
            (first | (go_at_call 18; (with_reducible refine hev2.mono ?_); rintro e w6 ⟨rfl, hb6⟩; have d1 := (hb6.cell (p := ⟨br, or_ + k, none⟩) hbrw).trans c1; have d2 := (hb6.cell (p := ⟨bw, ow + q, none⟩) hbww).trans c2; have hB6 : Below W1.heap.size W1 w6 := hb3.drew.trans (hb6.mono hb3.size)) | (go_at_call 17; refine (mul_any _ _ _ hp hyb.1 hyb.2 hEB.1 hEB.2 _).mono ?_; rintro e w' ⟨rfl, rfl⟩) | (go_at_call 16; refine (add_any _ _ _ hp hS0 hS1 hm.1 hm.2 _).mono ?_; rintro e w' ⟨rfl, rfl⟩))
          all_goals
            go_wp2_with fail
            go_roundw
            case rel => exact ⟨q + 1, _, by omega, by simp, rfl, hab.1, hab.2, hnx, hB6⟩
            case measure => simp [intOf]; omega
        · obtain rfl : q = f.length := by omega
          rw [hval] at hSum
          have hpt2 : (pt (f.length + k) : Int) = (f.length : Int) + k + 1 := by unfold pt; omega
          have hev := eval_any p (pt (f.length + k)) hp (by unfold pt; omega) Af cf f hf (by omega) wr (sf.next hb23)
          rw [hSum.out, hpt2] at hev
          have hq1 : IntKind.u64.wrap ((f.length : Int) + k + 1) = (f.length : Int) + k + 1 := IntWalk.u64_in _ (by omega)
          have hBw := hB2.trans (hb3.mono hB2.size)
          clear hval hSum
          go_wp2_with (go_at_call 18; refine hev.mono ?_; clear hev; rintro e w6 ⟨rfl, hb6⟩)
          go_roundw
          case rel => exact ⟨k + 1, by omega, by simp, hBw.trans (hb6.mono hBw.size), hb23.trans (hb6.mono hb23.size)⟩
          case measure => simp [intOf]; omega
    · obtain rfl : k = rows := by omega
      go_wp2_with fail
      go_ret
      exact ⟨rfl, hB2⟩

set_option maxHeartbeats 4000000 in
theorem walk (p : Int) (Af : Option Addr) (cf : Nat) (f : List Int) (rows : Nat) (wf : Words f) (brows : rows ≤ 255)  (w : World) (sf : Sl w Af cf f) :
    Calls Try.prog 4 #[.int .u64 p, .slice Af f.length cf, .int .u8 rows] w fun e w' => e = .returned (.bool true) ∧ Below w.heap.size w w' := by
  rcases sup_cases p with hs | ⟨hs, hp⟩
  · exact walk_unsup p Af cf f rows wf brows hs w sf
  · by_cases h1 : f.length < 1
    · exact walk_lt p Af cf f rows wf brows hs h1 w sf
    · by_cases h2 : 12 < f.length
      · exact walk_gt p Af cf f rows wf brows hs h2 w sf
      · by_cases h3 : rows < 1
        · exact walk_r0 p Af cf f rows wf brows hs (by omega) (by omega) h3 w sf
        · by_cases h4 : 12 < rows
          · exact walk_r13 p Af cf f rows wf brows hs (by omega) (by omega) h4 w sf
          · by_cases h5 : ∀ x ∈ f, x < p
            · exact walk_ok p Af cf f rows wf brows hs (by omega) (by omega) (by omega) (by omega) hp h5 w sf
            · exact walk_b p Af cf f rows wf brows hs (by omega) (by omega) (by omega) (by omega) h5 w sf

theorem lifted (os : Os) (started : os.Started) (H : Type) (enc : TypeId × Value → H) :
    ReturnsInHanded {} Try.checked os 4 .any (Rows.hyperinvertibleNewExtrapolatesSpec.pre6 enc Try.prog Try.f4 Rows.hyperinvertibleNewExtrapolatesRow.domain false) (Rows.hyperinvertibleNewExtrapolatesSpec.post enc Try.prog Try.f4 false true false false) := by
  refine returnsInHanded_of_change (C := Try.checked) own started (by kernel_rfl) Try.func4
    (ChangeSpec.witness6 (enc := enc) (C := Try.checked) false ⟨#[], #[.int .u64 0, .slice none 0 0, .int .u8 0], []⟩ 8 (by kernel_rfl) (by kernel_rfl) (by kernel_rfl) (by kernel_rfl)) ?_
  intro W base args ds gs before hval0 hW hcnd _
  have hval : ∀ (j : Nat) t v, Try.f4.params[j]? = some t → args[j]? = some v → Value.okWide Try.prog W .any base t v := hval0
  have hW' := hW
  obtain ⟨p, q, hA0, hV, rfl, hfz, hnd⟩ := hW
  have hA : DataW.TrodAll enc Try.prog W 0 (fun _ => true) true Try.f4.params.toList args.toList ds p := hA0
  rw [Try.params4] at hA hval
  obtain ⟨v0, v1, v2, d0, d1, d2, p0, p1, p2, rfl, rfl, rfl, t0, t1, t2⟩ := trodAll_three hA
  obtain ⟨rfl, rfl⟩ := trodVars_none hV
  clear hA0 hval0
  simp only [List.append_nil] at hW'
  have l0 : ∀ x ∈ p0, x.block < W.heap.size := fun x hx => hW'.lt x (by simp [hx])
  obtain ⟨x0, rfl, _⟩ := arg_word (hval 0 22 v0 rfl rfl) t0
  have l1 : ∀ x ∈ p1, x.block < W.heap.size := fun x hx => hW'.lt x (by simp [hx])
  obtain ⟨A1, x1, c1, rfl, r1, b1⟩ := arg_sl (hval 1 31 v1 rfl rfl) t1 l1
  have l2 : ∀ x ∈ p2, x.block < W.heap.size := fun x hx => hW'.lt x (by simp [hx])
  obtain ⟨x2, rfl, b2⟩ := arg_u8 (hval 2 5 v2 rfl rfl) t2
  refine (walk x0 A1 c1 x1 x2 b1 b2 W r1).mono fun e W' ⟨he, hb⟩ => ?_
  subst he
  exact ⟨_, rfl, post_of_below (pa := p0 ++ (p1 ++ p2)) (pv := []) hW' (fun _ _ _ => (trodAll_cons_mk (shut_bool Try.underlying4 _) trodAll_mk0)) (fun sp hsp => trodAll_mk3 (stay_word t0 hb l0 sp (fun x hx => hsp x (by simp [hx]))) (stays t1 hb l1 sp (fun x hx => hsp x (by simp [hx]))) (stay_u8 t2 hb l2 sp (fun x hx => hsp x (by simp [hx])))) (fun _ _ => rfl) (by simp)
    hb (ok_one (by kernel_rfl) rfl (okWide_bool_mk Try.underlying4 _))⟩

theorem over : Rows.hyperinvertibleNewExtrapolatesRow.holds Try.pinned (OpenSpec.ofChange Rows.hyperinvertibleNewExtrapolatesSpec) :=
  OpenClaim.holds_of_wide 4 Try.f4 rfl rfl rfl rfl rfl rfl rfl ⟨rfl, rfl, rfl, rfl, rfl⟩ rfl rfl rfl rfl rfl (by kernel_rfl) Try.func4 (by kernel_rfl)
    (of_decide_eq_true (by kernel_rfl)) (by unfold Func.isWrapper; first | (rw [if_pos (by decide +kernel)]; kernel_rfl) | (rw [if_neg (by decide +kernel)]; exact ⟨rfl, rfl⟩))
    (fun os started H enc _ => lifted os started H enc)

theorem proved : Rows.HyperinvertibleNewExtrapolatesSaid := over
end Go.Proofs.Ytjijlefplidhpaa.hyperinvertibleNewExtrapolates
