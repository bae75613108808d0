/- BivariateRowsAgree: for every input the law returns true and changes nothing that lay. No conditions. -/
import Derived.Test.YtkhiiiggmhncbaaEAwake
import Derived.Test.YtkhiiiggmhncbaaEValid
import Derived.Test.YtkhiiiggmhncbaaERef
import Derived.Test.YtkhiiiggmhncbaaEFair
import Derived.Test.YtkhiiiggmhncbaaEOpen
import Derived.Test.YtkhiiiggmhncbaaMB
namespace Go.Proofs.Ytkhiiiggmhncbaa.bivariateRowsAgree
set_option maxRecDepth 100000
open Go.ChangeShapes Go.WideShapes Go.ChangeAt Go.RowKit PolyMath FieldMath MatMath

set_option maxHeartbeats 8000000 in
theorem walk (p : Int) (As : Option Addr) (cs : Nat) (s : List (List Int)) (k0 k1 : Int) (_wp : Wd p) (ws : ∀ r ∈ s, Words r) (_ls : s.length ≤ 9223372036854775807) (wk0 : Wd k0) (wk1 : Wd k1) (w : World) (ss : Sll w As cs s) : Calls Try.prog 6 #[.int .u64 p, .slice As s.length cs, .agg #[.int .u64 k0, .int .u64 k1]] w fun e w' => e = .returned (.bool true) ∧ Below w.heap.size w w' := by
  obtain ⟨n, hn⟩ : ∃ n, s.length = n := ⟨_, rfl⟩
  rw [hn]
  obtain ⟨o, ho⟩ : ∃ o : Obj, o = .cells #[.int .u64 k0, .int .u64 k1] 32 := ⟨_, rfl⟩
  have hB0 := bnew (Below.refl w.heap.size w) o (Nat.le_refl _)
  have hf := fair10_any p As cs 6 n s hn (by decide) _ (ss.push o)
  have hc : ∀ (W : World) (_ : Below (w.alloc o).heap.size (w.alloc o) W) (k : Nat) (v : Value), #[Value.int .u64 k0, .int .u64 k1][k]? = some v → W.cell? ⟨w.heap.size, k, none⟩ = some v := fun W hW k v hv => by
    refine (hW.cell (p := ⟨w.heap.size, k, none⟩) (by show w.heap.size < _; rw [World.size_alloc]; exact Nat.lt_succ_self _)).trans ?_
    rw [cell_of_row _ w.heap.size k _ 32 (0, 0) (by rw [ho]; exact World.alloc_heap_new w _)]; exact hv
  have HC := Lib.hid hc
  clear hc
  cases he : fair10B p s 6 with
  | false =>
    rw [he] at hf
    clear he hn
    subst ho
    go_enter Try.func6, Try.ntmps6
    go_wp2_with fail
    refine hf.mono ?_
    rintro e w1 ⟨rfl, hb⟩
    have hB1 := hB0.trans (hb.mono hB0.size)
    go_wp2_with fail
    refine (awake10 _).mono ?_
    rintro e w9 ⟨rfl, hb9⟩
    go_wp2
    go_ret
    exact ⟨rfl, hB1.trans (hb9.mono hB1.size)⟩
  | true =>
  rw [he] at hf
  obtain ⟨hp, hM, hn6, hn0⟩ := fair10_is ws he hn
  have hbd := hp.bd
  obtain ⟨x, hxe⟩ : ∃ x, x = k0.tmod p := ⟨_, rfl⟩
  obtain ⟨y, hye⟩ : ∃ y, y = k1.tmod p := ⟨_, rfl⟩
  have hx : 0 ≤ x ∧ x < p := by rw [hxe, Int.tmod_eq_emod_of_nonneg wk0.1]; exact md k0 p (by omega)
  have hy : 0 ≤ y ∧ y < p := by rw [hye, Int.tmod_eq_emod_of_nonneg wk1.1]; exact md k1 p (by omega)
  have HXE := Lib.hid hxe
  have HYE := Lib.hid hye
  clear hxe hye
  have hpz : (p == 0) = false := beq_eq_false_iff_ne.2 (by omega)
  clear he hn
  have c1 := fun (z : Int) (hz : 0 ≤ z ∧ z < p) W (hW : Below w.heap.size w W) => row_any p z hp hz As cs n s hM.rows (by omega) hM.els W (ss.next hW)
  have c3 := fun W (hW : Below w.heap.size w W) => beval_any p x y hp hx hy As cs n s hM.rows (by omega) hM.els W (ss.next hW)
  have c4 := fun W (hW : Below w.heap.size w W) => beval_any p y x hp hy hx As cs n s hM.rows (by omega) hM.els W (ss.next hW)
  have c5 := fun (z u : Int) (hu : 0 ≤ u ∧ u < p) (g : Nat) (W W0 : World) (hO : OwnAt W W0.heap.size g n n (brow p s z)) => eval_any p u hp hu (some ⟨g, 0, none⟩) n (brow p s z) (brow_el (by omega) _ _) (by rw [brow_len, hM.rows]; omega) W hO.sl
  have c6 := fun W (hW : Below w.heap.size w W) => rSym_any As cs s (by rw [hM.rows]; omega) W (ss.next hW)
  simp only [brow_len, hM.rows] at c5 c6
  have hag : Hid (symB s = true → pev p (brow p s x) y = pev p (brow p s y) x) := Lib.hid fun h => (symB_iff.1 h).2.swap hM x y
  subst ho
  clear hM
  go_enter Try.func6, Try.ntmps6
  go_wp2_with fail
  refine hf.mono ?_
  rintro e w1 ⟨rfl, hb⟩
  have hB1 := hB0.trans (hb.mono hB0.size)
  have g0 := HC.out w1 hb 0 _ rfl
  have g1 := HC.out w1 hb 1 _ rfl
  clear hf hB0
  go_wp2
  go_quiet (fail)
  rw [← HXE.out, ← HYE.out]
  obtain ⟨w2, hw2⟩ : ∃ w2, w2 = w1.drewN nq := ⟨_, rfl⟩
  rw [← hw2]
  have hB2 : Below w.heap.size w w2 := by rw [hw2]; exact below_drewN hB1 nq
  clear hw2 g0 g1 HC hb hB1
  go_wp2_with fail
  refine (c1 x hx w2 hB2).mono ?_
  rintro e w3 ⟨g3, rfl, hO3, hb⟩
  have hB3 := hB2.trans (hb.mono hB2.size)
  clear hb
  go_wp2_with fail
  refine (c5 x y hy g3 w3 w2 hO3).mono ?_
  rintro e w4 ⟨rfl, hb⟩
  have hB4 := hB3.trans (hb.mono hB3.size)
  clear hb hO3
  go_wp2_with fail
  refine (c1 y hy w4 hB4).mono ?_
  rintro e w5 ⟨g5, rfl, hO5, hb⟩
  have hB5 := hB4.trans (hb.mono hB4.size)
  clear hb
  go_wp2_with fail
  refine (c5 y x hx g5 w5 w4 hO5).mono ?_
  rintro e w6 ⟨rfl, hb⟩
  have hB6 := hB5.trans (hb.mono hB5.size)
  clear hb hO5 c1 c5
  generalize pev p (brow p s x) y = V1 at *
  generalize pev p (brow p s y) x = V2 at *
  generalize symB s = q at *
  by_cases hV : V1 = V2
  · subst hV
    have hVV : (V1 == V1) = true := beq_self_eq_true V1
    clear hag c3 c4 c6
    go_wp2_with fail
    refine (awake10 _).mono ?_
    rintro e w7 ⟨rfl, hb⟩
    have hB7 := hB6.trans (hb.mono hB6.size)
    clear hb
    go_wp2
    go_ret
    exact ⟨rfl, hB7⟩
  · have hVV : (V1 == V2) = false := beq_eq_false_iff_ne.2 hV
    have hVn : (V1 != V2) = true := bne_iff_ne.2 hV
    have hqf : q = false := by
      cases q with
      | false => rfl
      | true => exact absurd (hag.out rfl) hV
    subst hqf
    clear hag hV
    go_wp2_with fail
    refine (awake10 _).mono ?_
    rintro e w7 ⟨rfl, hb⟩
    have hB7 := hB6.trans (hb.mono hB6.size)
    clear hb
    go_wp2_with fail
    refine (c6 w7 hB7).mono ?_
    rintro e w8 ⟨rfl, hb⟩
    have hB8 := hB7.trans (hb.mono hB7.size)
    clear hb
    go_wp2_with fail
    refine (c3 w8 hB8).mono ?_
    rintro e w9 ⟨rfl, hb⟩
    have hB9 := hB8.trans (hb.mono hB8.size)
    clear hb
    go_wp2_with fail
    refine (c4 w9 hB9).mono ?_
    rintro e w10 ⟨rfl, hb⟩
    have hB10 := hB9.trans (hb.mono hB9.size)
    clear hb c3 c4 c6
    go_wp2
    go_ret
    exact ⟨rfl, hB10⟩

theorem lifted (os : Os) (started : os.Started) (H : Type) (enc : TypeId × Value → H) :
    ReturnsInHanded {} Try.checked os 6 .any (Rows.bivariateRowsAgreeSpec.pre6 enc Try.prog Try.f6 Rows.bivariateRowsAgreeRow.domain false) (Rows.bivariateRowsAgreeSpec.post enc Try.prog Try.f6 false true false false) := by
  refine returnsInHanded_of_change (C := Try.checked) own started (by kernel_rfl) Try.func6
    (ChangeSpec.witness6 (enc := enc) (C := Try.checked) false ⟨#[], #[.int .u64 0, .slice none 0 0, .agg #[.int .u64 0, .int .u64 0]], []⟩ 8 (by kernel_rfl) (by kernel_rfl) (by kernel_rfl) (by kernel_rfl)) ?_
  intro W base args ds gs before hval0 hW hcnd _
  have hval : ∀ (j : Nat) t v, Try.f6.params[j]? = some t → args[j]? = some v → Value.okWide Try.prog W .any base t v := hval0
  have hW' := hW
  obtain ⟨p, q, hA0, hV, rfl, hfz, hnd⟩ := hW
  have hA : DataW.TrodAll enc Try.prog W 0 (fun _ => true) true Try.f6.params.toList args.toList ds p := hA0
  rw [Try.params6] at hA hval
  obtain ⟨v0, v1, v2, d0, d1, d2, p0, p1, p2, rfl, rfl, rfl, t0, t1, t2⟩ := trodAll_three hA
  obtain ⟨rfl, rfl⟩ := trodVars_none hV
  clear hA0 hval0
  simp only [List.append_nil] at hW'
  have l0 : ∀ x ∈ p0, x.block < W.heap.size := fun x hx => hW'.lt x (by simp [hx])
  obtain ⟨x0, rfl, b0⟩ := arg_word (hval 0 31 v0 rfl rfl) t0
  have l1 : ∀ x ∈ p1, x.block < W.heap.size := fun x hx => hW'.lt x (by simp [hx])
  obtain ⟨A1, x1, c1, rfl, r1, b1, e1⟩ := arg_ll (hval 1 24 v1 rfl rfl) t1 l1
  have l2 : ∀ x ∈ p2, x.block < W.heap.size := fun x hx => hW'.lt x (by simp [hx])
  obtain ⟨x2, y2, rfl, b2, e2⟩ := arg_w2 (hval 2 32 v2 rfl rfl) t2
  refine (walk x0 A1 c1 x1 x2 y2 b0 b1 e1 b2 e2 W r1).mono fun e W' ⟨he, hb⟩ => ?_
  subst he
  exact ⟨_, rfl, post_of_below (pa := p0 ++ (p1 ++ p2)) (pv := []) hW' (fun _ _ _ => (trodAll_cons_mk (shut_bool Try.underlying4 _) trodAll_mk0)) (fun sp hsp => trodAll_mk3 (stay_word t0 hb l0 sp (fun x hx => hsp x (by simp [hx]))) (stay_ll t1 hb l1 sp (fun x hx => hsp x (by simp [hx]))) (stay_w2 t2 hb l2 sp (fun x hx => hsp x (by simp [hx])))) (fun _ _ => rfl) (by simp)
    hb (ok_one (by kernel_rfl) rfl (okWide_bool_mk Try.underlying4 _))⟩

theorem over : Rows.bivariateRowsAgreeRow.holds Try.pinned (OpenSpec.ofChange Rows.bivariateRowsAgreeSpec) :=
  OpenClaim.holds_of_wide 6 Try.f6 rfl rfl rfl rfl rfl rfl rfl ⟨rfl, rfl, rfl, rfl, rfl⟩ rfl rfl rfl rfl rfl (by kernel_rfl) Try.func6 (by kernel_rfl)
    (of_decide_eq_true (by kernel_rfl)) (by unfold Func.isWrapper; first | (rw [if_pos (by decide +kernel)]; kernel_rfl) | (rw [if_neg (by decide +kernel)]; exact ⟨rfl, rfl⟩))
    (fun os started H enc _ => lifted os started H enc)

theorem proved : Rows.BivariateRowsAgreeSaid := over
end Go.Proofs.Ytkhiiiggmhncbaa.bivariateRowsAgree
