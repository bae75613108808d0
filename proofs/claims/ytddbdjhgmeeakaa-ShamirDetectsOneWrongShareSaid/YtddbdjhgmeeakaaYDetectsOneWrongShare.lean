/- ShamirDetectsOneWrongShare: for every input the law returns true and changes nothing that lay. No conditions. -/
import Derived.Test.YtddbdjhgmeeakaaWSet
import Derived.Test.YtddbdjhgmeeakaaWOpen
import Derived.Test.YtddbdjhgmeeakaaWKey
import Derived.Test.YtddbdjhgmeeakaaMC
import Derived.Test.YtddbdjhgmeeakaaMB
namespace Go.Proofs.Ytddbdjhgmeeakaa.shamirDetectsOneWrongShare
set_option maxRecDepth 100000
open Go.ChangeShapes Go.WideShapes Go.ChangeAt Go.RowKit PolyMath FieldMath MatMath

set_option maxHeartbeats 4000000 in
theorem walk (p : Int) (Aq : Option Addr) (cq : Nat) (q : List Int) (x0 x1 x2 : Int) (_wp : Wd p) (wq : Words q) (wx0 : Wd x0) (wx1 : Wd x1) (wx2 : Wd x2) (w : World) (sq : Sl w Aq cq q) : Calls Try.prog 8 #[.int .u64 p, .slice Aq q.length cq, .agg #[.int .u64 x0, .int .u64 x1, .int .u64 x2]] w fun e w' => e = .returned (.bool true) ∧ Below w.heap.size w w' := by
  obtain ⟨i0, hi, hz0, hz1, hz2⟩ := info_parts info_pt
  have hr00 := Int.emod_nonneg x0 (show (3 : Int) ≠ 0 by decide)
  have hr01 := Int.emod_lt_of_pos x0 (show (0 : Int) < 3 by decide)
  obtain ⟨r, hr⟩ : ∃ r : Nat, (r : Int) = x0 % 3 := ⟨(x0 % 3).toNat, by omega⟩
  have hr2 : r ≤ 2 := by omega
  have t0 : x0.tmod 3 = (r : Int) := by rw [Int.tmod_eq_emod_of_nonneg wx0.1, hr]
  have wr0 : IntKind.u64.wrap (r : Int) = (r : Int) := IntWalk.u64_in _ (by omega)
  have wr1 : IntKind.i64.wrap (r : Int) = (r : Int) := IntWalk.i64_in _ (by omega)
  clear hr00 hr01
  have hB := bnew (Below.refl w.heap.size w) (.cells #[.int .u64 x0, .int .u64 x1, .int .u64 x2] 52) (by simp)
  replace sq := sq.next hB
  have k00 : (w.alloc (.cells #[.int .u64 x0, .int .u64 x1, .int .u64 x2] 52)).cell? ⟨w.heap.size, 0, none⟩ = some (.int .u64 x0) := by go_simp
  have k01 : (w.alloc (.cells #[.int .u64 x0, .int .u64 x1, .int .u64 x2] 52)).cell? ⟨w.heap.size, 1, none⟩ = some (.int .u64 x1) := by go_simp
  have k02 : (w.alloc (.cells #[.int .u64 x0, .int .u64 x1, .int .u64 x2] 52)).cell? ⟨w.heap.size, 2, none⟩ = some (.int .u64 x2) := by go_simp
  have hq0 : w.heap.size < (w.alloc (.cells #[.int .u64 x0, .int .u64 x1, .int .u64 x2] 52)).heap.size := by simp
  go_enter Try.func8, Try.ntmps8
  go_wp2_with fail
  refine (awake9 _).mono ?_
  rintro e w1 ⟨rfl, hb⟩
  replace sq := sq.next hb
  replace k00 := (hb.cell (p := ⟨w.heap.size, 0, none⟩) hq0).trans k00
  replace k01 := (hb.cell (p := ⟨w.heap.size, 1, none⟩) hq0).trans k01
  replace k02 := (hb.cell (p := ⟨w.heap.size, 2, none⟩) hq0).trans k02
  replace hq0 := Nat.lt_of_lt_of_le hq0 hb.size
  replace hB := hB.trans (hb.mono hB.size)
  clear hb
  have g := fun W => rSupported_any p W
  go_wp2_with fail
  rcases sup_cases p with h0 | ⟨h0, hp⟩
  · rw [h0] at g
    refine (g _).mono ?_
    rintro e w2 ⟨rfl, hb⟩
    replace sq := sq.next hb
    replace k00 := (hb.cell (p := ⟨w.heap.size, 0, none⟩) hq0).trans k00
    replace k01 := (hb.cell (p := ⟨w.heap.size, 1, none⟩) hq0).trans k01
    replace k02 := (hb.cell (p := ⟨w.heap.size, 2, none⟩) hq0).trans k02
    replace hq0 := Nat.lt_of_lt_of_le hq0 hb.size
    replace hB := hB.trans (hb.mono hB.size)
    clear hb
    go_wp2
    go_ret
    exact ⟨rfl, hB⟩
  rw [h0] at g
  refine (g _).mono ?_
  rintro e w2 ⟨rfl, hb⟩
  replace sq := sq.next hb
  replace k00 := (hb.cell (p := ⟨w.heap.size, 0, none⟩) hq0).trans k00
  replace k01 := (hb.cell (p := ⟨w.heap.size, 1, none⟩) hq0).trans k01
  replace k02 := (hb.cell (p := ⟨w.heap.size, 2, none⟩) hq0).trans k02
  replace hq0 := Nat.lt_of_lt_of_le hq0 hb.size
  replace hB := hB.trans (hb.mono hB.size)
  clear hb
  clear g
  have hbd := hp.bd
  by_cases h1 : 1 ≤ q.length
  rotate_left
  · have h1' : (q.length : Int) < 1 := by omega
    go_wp2
    go_ret
    exact ⟨rfl, hB⟩
  have h1' : 1 ≤ (q.length : Int) := by omega
  have h1d0 : decide ((q.length : Int) < 1) = false := decide_eq_false (by omega)
  have h1d1 : decide (q.length < 1) = false := decide_eq_false (by omega)
  by_cases h2 : q.length ≤ 9
  rotate_left
  · have h2' : 9 < (q.length : Int) := by omega
    go_wp2
    go_ret
    exact ⟨rfl, hB⟩
  have h2' : (q.length : Int) ≤ 9 := by omega
  have h2d0 : decide (9 < (q.length : Int)) = false := decide_eq_false (by omega)
  have g := fun W h => below_any p Aq cq q W h (by omega)
  go_wp2_with fail
  by_cases h5 : ∀ x ∈ q, x < p
  rotate_left
  · rw [decide_eq_false h5] at g
    refine (g _ sq).mono ?_
    rintro e w3 ⟨rfl, rfl⟩
    go_wp2
    go_ret
    exact ⟨rfl, hB⟩
  rw [decide_eq_true h5] at g
  refine (g _ sq).mono ?_
  rintro e w3 ⟨rfl, rfl⟩
  clear g
  have hq := el_of wq h5
  clear h5
  have hrI : (r : Int) ≤ 2 := by omega
  have wn1 : IntKind.u64.wrap ((q.length : Int) + 1 + r) = (q.length : Int) + 1 + r := IntWalk.u64_in _ (by omega)
  have hn0 : ¬ (q.length : Int) + 1 + r = 0 := by omega
  clear hr
  go_wp2_with fail
  go_loopw [8, 9] (fun v i wr => ∃ k : Nat, k ≤ q.length + 1 + r ∧ i = .int .i64 ((k : Int) + 1) ∧ wr.ownsRow w2.heap.size 34 2 v k (pcells (held p q (ups k))) ∧ Below w2.heap.size w2 wr) (fun _ i _ => q.length + 1 + r + 1 - (intOf i).toNat)
  case atStart => exact ⟨0, Nat.zero_le _, rfl, World.ownsRow_nil _ _ _ _, Below.refl _ _⟩
  case round =>
    obtain ⟨k, hk, rfl, hrow, hBr⟩ := hrel
    have hsz := hBr.size
    by_cases hlt : k < q.length + 1 + r
    · have hkN : (k : Int) + 1 ≤ (q.length : Int) + 1 + r := by omega
      have wk : IntKind.u64.wrap ((k : Int) + 1) = (k : Int) + 1 := IntWalk.u64_in _ (by omega)
      have wk2 : IntKind.i64.wrap ((k : Int) + 1 + 1) = (k : Int) + 1 + 1 := IntWalk.i64_in _ (by omega)
      have hsn : pcells (held p q (ups (k + 1))) = pcells (held p q (ups k)) ++ [.int .u64 ((k : Int) + 1), .int .u64 (pev p q ((k : Int) + 1))] := by rw [held_ups]; exact pcells_snoc _ ((k : Int) + 1, pev p q ((k : Int) + 1))
      have hSN := Lib.hid hsn
      have hev := eval_any p ((k : Int) + 1) hp (by omega) Aq cq q hq (by omega) wr (sq.next hBr)
      clear hsn
      generalize pev p q ((k : Int) + 1) = y at *
      go_wp2_with (first
        | (go_at_call 18; refine hev.mono ?_; rintro e w6 ⟨rfl, hb6⟩; have own6 := own_belowN hrow hb6; have hB6 := hBr.trans (hb6.mono hBr.size); have hsz6 := hB6.size; clear hb6)
        | (at_builtin; refine wpList_append_own _ rfl _ _ 31 rfl w2.heap.size 34 i0 _ 2 16 Try.underlying31 hi hz0 hz1 hz2 rfl (by decide) _ _ _ rfl (own6.alloc _) ⟨w6.heap.size, 0, none⟩ 1 1 [.int .u64 ((k : Int) + 1), .int .u64 y] rfl rfl (World.news_of_block (cs := #[.int .u64 ((k : Int) + 1), .int .u64 y]) (t := 34) (fr := (0, 0)) (World.alloc_heap_new w6 _)) (by simp [Value.oneCell']) (by simp only [maxLen]; omega) (by omega) (by simp; omega) ?_; intro v' w7 hown7 hgrow _; have hB7 : Below w2.heap.size w2 w7 := (hB6.alloc hsz6 _).grown hgrow (by simp; omega) (fun k e => (hrow.lt k e).1)))
      go_roundw
      case rel => exact ⟨k + 1, by omega, by simp, by rw [hSN.out]; exact hown7, hB7⟩
      case measure => simp [intOf]; omega
    · obtain rfl : k = q.length + 1 + r := by omega
      obtain ⟨n, hn⟩ : ∃ n : Nat, n = q.length + 1 + r := ⟨_, rfl⟩
      rw [← hn] at hrow
      rcases hrow.2 with ⟨_, h0⟩ | ⟨g, cap, cur, rfl, hbg, _⟩
      · omega
      have hkpos : (0 : Int) < n := by omega
      have hm0 := Int.emod_nonneg x1 (show (n : Int) ≠ 0 by omega)
      have hm1 := Int.emod_lt_of_pos x1 hkpos
      obtain ⟨k, hkq⟩ : ∃ k : Nat, (k : Int) = x1 % n := ⟨(x1 % n).toNat, by omega⟩
      have hkn : k < n := by omega
      have t1 : x1.tmod ((q.length : Int) + 1 + r) = (k : Int) := by rw [Int.tmod_eq_emod_of_nonneg wx1.1, hkq]; congr 1; omega
      have wk1 : IntKind.u64.wrap (k : Int) = (k : Int) := IntWalk.u64_in _ (by omega)
      have wk2 : IntKind.i64.wrap (k : Int) = (k : Int) := IntWalk.i64_in _ (by omega)
      have hr0 := Int.emod_nonneg x2 (show p - 1 ≠ 0 by omega)
      have hr1 := Int.emod_lt_of_pos x2 (show 0 < p - 1 by omega)
      obtain ⟨d, hd⟩ : ∃ d : Int, d = x2 % (p - 1) := ⟨_, rfl⟩
      rw [← hd] at hr0 hr1
      have t2 : x2.tmod (p - 1) = d := by rw [Int.tmod_eq_emod_of_nonneg wx2.1, hd]
      have wp1 : IntKind.u64.wrap (p - 1) = p - 1 := IntWalk.u64_in _ (by omega)
      have wd1 : IntKind.u64.wrap d = d := IntWalk.u64_in _ (by omega)
      have wd2 : IntKind.u64.wrap (1 + d) = 1 + d := IntWalk.u64_in _ (by omega)
      have hpne : ¬ p - 1 = 0 := by omega
      have hnI : ((n : Nat) : Int) = (q.length : Int) + 1 + r := by omega
      have hkI : (k : Int) < (q.length : Int) + 1 + r := by omega
      have hyb := pev_bd (p := p) (by omega) q ((k : Int) + 1)
      have hxq : (held p q (ups n))[k]? = some ((k : Int) + 1, pev p q ((k : Int) + 1)) := by unfold held; rw [List.getElem?_map, ups_get hkn]; rfl
      have cy := (World.ownsRow.cellAt hrow (k * 2 + 1) (by omega)).trans (pcells_at _ k _ hxq).2
      have fy := World.ownsRow.frozenAt hrow (k * 2 + 1)
      have j01 := (hBr.cell (p := ⟨w.heap.size, 1, none⟩) hq0).trans k01
      have j02 := (hBr.cell (p := ⟨w.heap.size, 2, none⟩) hq0).trans k02
      obtain ⟨z, hz⟩ : ∃ z, z = fadd p (pev p q ((k : Int) + 1)) (1 + d) := ⟨_, rfl⟩
      have hzb : 0 ≤ z ∧ z < p := by rw [hz]; exact fadd_bd p _ _ (by omega)
      have hzne : Hid (z ≠ pev p q ((k : Int) + 1)) := Lib.hid (by
        rw [hz]; unfold fadd
        intro e
        generalize pev p q ((k : Int) + 1) = y at *
        rcases Int.lt_or_le (y + (1 + d)) p with h | h
        · rw [Int.emod_eq_of_lt (by omega) h] at e; omega
        · have : (y + (1 + d)) % p = y + (1 + d) - p := by
            rw [← Int.sub_emod_right]
            exact Int.emod_eq_of_lt (by omega) (by omega)
          omega)
      have hst := World.ownsRow.stored hrow (k * 2 + 1) (.int .u64 z)
      rw [pcells_set _ k _ _ z hxq, wrg_set p q hkn z] at hst
      have hPt := Pt.of_own (own_belowN hst.1 (Below.refl _ _).drew)
      have hB9 := Lib.hid (hB.trans (((hBr.setCell (p := ⟨g, k * 2 + 1, none⟩) hbg (.int .u64 z)).drew).mono hB.size))
      rw [hz] at hB9
      obtain ⟨t, ht⟩ : ∃ t, q.length = t + 1 := ⟨q.length - 1, by omega⟩
      have htI : ((t : Nat) : Int) = (q.length : Int) - 1 := by omega
      have hrec := rec_wrg p hp (some ⟨g, 0, none⟩) cap t k n q z hq ht (by omega) (by omega) (by omega) hkn hzb hzne.out _ hPt
      rw [htI, hz, hn] at hrec
      have hRC := Lib.hid hrec
      have hkb : (k : Int) < n := by omega
      clear hrec hPt hst ht htI hxq hrow hzne hkq hd hm0 hm1
      generalize pev p q ((k : Int) + 1) = y at *
      go_wp2_with fail
      refine wp_region_still_tail 17 (by kernel_rfl) (by kernel_rfl) ?_
      simp only [List.take_succ_cons, List.take_zero, List.drop_succ_cons, List.drop_zero]
      change wpStill _ _ (World.drew _) (fun a' => wpList _ _ _ _ a' (World.drew _)) _ _
      repeat still_step
      still_call (still_of (add_any _ _ _ hp hyb.1 hyb.2 (by omega) (by omega) _))
      repeat still_step
      refine wpStill_nil ?_
      go_wp2_with fail
      with_reducible refine hRC.out.mono ?_
      rintro e w8 ⟨rfl, hb⟩
      have hBB := hB9.out.trans (hb.mono hB9.out.size)
      clear hRC hb
      go_wp2
      go_ret
      exact ⟨rfl, hBB⟩

theorem lifted (os : Os) (started : os.Started) (H : Type) (enc : TypeId × Value → H) :
    ReturnsInHanded {} Try.checked os 8 .any (Rows.shamirDetectsOneWrongShareSpec.pre6 enc Try.prog Try.f8 Rows.shamirDetectsOneWrongShareRow.domain false) (Rows.shamirDetectsOneWrongShareSpec.post enc Try.prog Try.f8 false true false false) := by
  refine returnsInHanded_of_change (C := Try.checked) own started (by kernel_rfl) Try.func8
    (ChangeSpec.witness6 (enc := enc) (C := Try.checked) false ⟨#[], #[.int .u64 0, .slice none 0 0, .agg #[.int .u64 0, .int .u64 0, .int .u64 0]], []⟩ 8 (by kernel_rfl) (by kernel_rfl) (by kernel_rfl) (by kernel_rfl)) ?_
  intro W base args ds gs before hval0 hW hcnd _
  have hval : ∀ (j : Nat) t v, Try.f8.params[j]? = some t → args[j]? = some v → Value.okWide Try.prog W .any base t v := hval0
  have hW' := hW
  obtain ⟨p, q, hA0, hV, rfl, hfz, hnd⟩ := hW
  have hA : DataW.TrodAll enc Try.prog W 0 (fun _ => true) true Try.f8.params.toList args.toList ds p := hA0
  rw [Try.params8] at hA hval
  obtain ⟨v0, v1, v2, d0, d1, d2, p0, p1, p2, rfl, rfl, rfl, t0, t1, t2⟩ := trodAll_three hA
  obtain ⟨rfl, rfl⟩ := trodVars_none hV
  clear hA0 hval0
  simp only [List.append_nil] at hW'
  have l0 : ∀ x ∈ p0, x.block < W.heap.size := fun x hx => hW'.lt x (by simp [hx])
  obtain ⟨x0, rfl, b0⟩ := arg_word (hval 0 22 v0 rfl rfl) t0
  have l1 : ∀ x ∈ p1, x.block < W.heap.size := fun x hx => hW'.lt x (by simp [hx])
  obtain ⟨A1, x1, c1, rfl, r1, b1⟩ := arg_sl (hval 1 23 v1 rfl rfl) t1 l1
  have l2 : ∀ x ∈ p2, x.block < W.heap.size := fun x hx => hW'.lt x (by simp [hx])
  obtain ⟨x2, y2, z2, rfl, b2, e2, f2⟩ := arg_w3 (hval 2 52 v2 rfl rfl) t2
  refine (walk x0 A1 c1 x1 x2 y2 z2 b0 b1 b2 e2 f2 W r1).mono fun e W' ⟨he, hb⟩ => ?_
  subst he
  exact ⟨_, rfl, post_of_below (pa := p0 ++ (p1 ++ p2)) (pv := []) hW' (fun _ _ _ => (trodAll_cons_mk (shut_bool Try.underlying4 _) trodAll_mk0)) (fun sp hsp => trodAll_mk3 (stay_word t0 hb l0 sp (fun x hx => hsp x (by simp [hx]))) (stays t1 hb l1 sp (fun x hx => hsp x (by simp [hx]))) (stay_w3 t2 hb l2 sp (fun x hx => hsp x (by simp [hx])))) (fun _ _ => rfl) (by simp)
    hb (ok_one (by kernel_rfl) rfl (okWide_bool_mk Try.underlying4 _))⟩

theorem over : Rows.shamirDetectsOneWrongShareRow.holds Try.pinned (OpenSpec.ofChange Rows.shamirDetectsOneWrongShareSpec) :=
  OpenClaim.holds_of_wide 8 Try.f8 rfl rfl rfl rfl rfl rfl rfl ⟨rfl, rfl, rfl, rfl, rfl⟩ rfl rfl rfl rfl rfl (by kernel_rfl) Try.func8 (by kernel_rfl)
    (of_decide_eq_true (by kernel_rfl)) (by unfold Func.isWrapper; first | (rw [if_pos (by decide +kernel)]; kernel_rfl) | (rw [if_neg (by decide +kernel)]; exact ⟨rfl, rfl⟩))
    (fun os started H enc _ => lifted os started H enc)

theorem proved : Rows.ShamirDetectsOneWrongShareSaid := over
end Go.Proofs.Ytddbdjhgmeeakaa.shamirDetectsOneWrongShare
