/- Submatrix agrees with the specification for every matrix and all indices. No conditions. -/
import Derived.Test.YtjijlefplidhpaaHRefA
import Derived.Test.YtjijlefplidhpaaHRefB
namespace Go.Proofs.Ytjijlefplidhpaa.hyperinvertibleSubmatrixMatchesReference
set_option maxRecDepth 100000
open Go.ChangeShapes Go.WideShapes Go.ChangeAt Go.RowKit PolyMath FieldMath MatMath

set_option maxHeartbeats 4000000 in
theorem walk_big (Am : Option Addr) (cm : Nat) (m : List (List Int)) (Arows : Option Addr) (crows : Nat) (rows : List Int) (Acols : Option Addr) (ccols : Nat) (cols : List Int) (_wm : ∀ r ∈ m, Words r) (_lm : m.length ≤ 9223372036854775807) (_wrows : Nums rows) (_wcols : Nums cols) (h1 : smallB m 10 10 = false) (w : World) (sm : Sll w Am cm m) (srows : Si w Arows crows rows) (scols : Si w Acols ccols cols) :
    Calls Try.prog 6 #[.slice Am m.length cm, .slice Arows rows.length crows, .slice Acols cols.length ccols] w fun e w' => e = .returned (.bool true) ∧ Below w.heap.size w w' := by
  have gm := fun W (q : Sll W Am cm m) => small_any Am cm 10 10 m (by omega) W q
  rw [h1] at gm
  go_enter Try.func6, Try.ntmps6
  have hB := Below.refl w.heap.size w
  go_wp2_with fail
  refine (awake7_any _).mono ?_
  rintro e w1 ⟨rfl, hb⟩
  replace sm := sm.next hb
  replace srows := srows.next hb
  replace scols := scols.next hb
  replace hB := hB.trans (hb.mono hB.size)
  clear hb
  go_wp2_with fail
  refine (gm _ sm).mono ?_
  rintro e w' ⟨rfl, rfl⟩
  go_wp2_with fail
  go_ret
  exact ⟨rfl, hB⟩

set_option maxHeartbeats 4000000 in
theorem walk_r (Am : Option Addr) (cm : Nat) (m : List (List Int)) (Arows : Option Addr) (crows : Nat) (rows : List Int) (Acols : Option Addr) (ccols : Nat) (cols : List Int) (_wm : ∀ r ∈ m, Words r) (_lm : m.length ≤ 9223372036854775807) (_wrows : Nums rows) (_wcols : Nums cols) (h1 : smallB m 10 10 = true) (h2 : 10 < rows.length) (w : World) (sm : Sll w Am cm m) (srows : Si w Arows crows rows) (scols : Si w Acols ccols cols) :
    Calls Try.prog 6 #[.slice Am m.length cm, .slice Arows rows.length crows, .slice Acols cols.length ccols] w fun e w' => e = .returned (.bool true) ∧ Below w.heap.size w w' := by
  have gm := fun W (q : Sll W Am cm m) => small_any Am cm 10 10 m (by omega) W q
  rw [h1] at gm
  have h2' : (10 : Int) < rows.length := by omega
  go_enter Try.func6, Try.ntmps6
  have hB := Below.refl w.heap.size w
  go_wp2_with fail
  refine (awake7_any _).mono ?_
  rintro e w1 ⟨rfl, hb⟩
  replace sm := sm.next hb
  replace srows := srows.next hb
  replace scols := scols.next hb
  replace hB := hB.trans (hb.mono hB.size)
  clear hb
  go_wp2_with fail
  refine (gm _ sm).mono ?_
  rintro e w' ⟨rfl, rfl⟩
  go_wp2_with fail
  go_ret
  exact ⟨rfl, hB⟩

set_option maxHeartbeats 4000000 in
theorem walk_c (Am : Option Addr) (cm : Nat) (m : List (List Int)) (Arows : Option Addr) (crows : Nat) (rows : List Int) (Acols : Option Addr) (ccols : Nat) (cols : List Int) (_wm : ∀ r ∈ m, Words r) (_lm : m.length ≤ 9223372036854775807) (_wrows : Nums rows) (_wcols : Nums cols) (h1 : smallB m 10 10 = true) (h2 : rows.length ≤ 10) (h3 : 10 < cols.length) (w : World) (sm : Sll w Am cm m) (srows : Si w Arows crows rows) (scols : Si w Acols ccols cols) :
    Calls Try.prog 6 #[.slice Am m.length cm, .slice Arows rows.length crows, .slice Acols cols.length ccols] w fun e w' => e = .returned (.bool true) ∧ Below w.heap.size w w' := by
  have gm := fun W (q : Sll W Am cm m) => small_any Am cm 10 10 m (by omega) W q
  rw [h1] at gm
  have h2' : ¬ (10 : Int) < rows.length := by omega
  have h3' : (10 : Int) < cols.length := by omega
  go_enter Try.func6, Try.ntmps6
  have hB := Below.refl w.heap.size w
  go_wp2_with fail
  refine (awake7_any _).mono ?_
  rintro e w1 ⟨rfl, hb⟩
  replace sm := sm.next hb
  replace srows := srows.next hb
  replace scols := scols.next hb
  replace hB := hB.trans (hb.mono hB.size)
  clear hb
  go_wp2_with fail
  refine (gm _ sm).mono ?_
  rintro e w' ⟨rfl, rfl⟩
  go_wp2_with fail
  go_ret
  exact ⟨rfl, hB⟩

set_option maxHeartbeats 4000000 in
theorem walk_bad (Am : Option Addr) (cm : Nat) (m : List (List Int)) (Arows : Option Addr) (crows : Nat) (rows : List Int) (Acols : Option Addr) (ccols : Nat) (cols : List Int) (_wm : ∀ r ∈ m, Words r) (_lm : m.length ≤ 9223372036854775807) (_wrows : Nums rows) (_wcols : Nums cols) (h1 : smallB m 10 10 = true) (h2 : rows.length ≤ 10) (h3 : cols.length ≤ 10) (h4 : subB m rows cols = false) (w : World) (sm : Sll w Am cm m) (srows : Si w Arows crows rows) (scols : Si w Acols ccols cols) :
    Calls Try.prog 6 #[.slice Am m.length cm, .slice Arows rows.length crows, .slice Acols cols.length ccols] w fun e w' => e = .returned (.bool true) ∧ Below w.heap.size w w' := by
  have gm := fun W (q : Sll W Am cm m) => small_any Am cm 10 10 m (by omega) W q
  rw [h1] at gm
  have h2' : ¬ (10 : Int) < rows.length := by omega
  have h3' : ¬ (10 : Int) < cols.length := by omega
  obtain ⟨q1, q2⟩ := of_decide_eq_true h1
  have hro : ∀ i, (ro m i).length ≤ 10 := fun i => by
    by_cases hi : i < m.length
    · exact q2 _ (List.mem_of_getElem? (ro_get hi))
    · unfold ro; rw [List.getElem?_eq_none (by omega)]; exact Nat.zero_le _
  have g1 := fun W (a1 : Sll W Am cm m) (a2 : Si W Arows crows rows) (a3 : Si W Acols ccols cols) => sub_bad Am Arows Acols cm crows ccols m rows cols (by omega) (fun i => by have := hro i; omega) (by omega) (by omega) h4 W a1 a2 a3
  have g2 : ∀ W (_ : Sll W Am cm m) (_ : Si W Arows crows rows) (_ : Si W Acols ccols cols), Calls Try.prog 23 #[.slice Am m.length cm, .slice Arows rows.length crows, .slice Acols cols.length ccols] W fun e w' => e = .returned (.tuple #[.slice none 0 0, .int .i64 1]) ∧ Below W.heap.size W w' := fun W a1 a2 a3 => (rSubm_any Am Arows Acols cm crows ccols m rows cols (by omega) (fun i => by have := hro i; omega) (by omega) (by omega) W a1 a2 a3).mono fun e w' hx => by
    rcases hx with ⟨h5, _⟩ | ⟨_, h6⟩
    · rw [h4] at h5; cases h5
    · exact h6
  go_enter Try.func6, Try.ntmps6
  have hB := Below.refl w.heap.size w
  go_wp2_with fail
  refine (awake7_any _).mono ?_
  rintro e w1 ⟨rfl, hb⟩
  replace sm := sm.next hb
  replace srows := srows.next hb
  replace scols := scols.next hb
  replace hB := hB.trans (hb.mono hB.size)
  clear hb
  go_wp2_with fail
  refine (gm _ sm).mono ?_
  rintro e w' ⟨rfl, rfl⟩
  go_wp2_with fail
  refine (g1 _ sm srows scols).mono ?_
  rintro e w3 ⟨rfl, hb⟩
  replace sm := sm.next hb
  replace srows := srows.next hb
  replace scols := scols.next hb
  replace hB := hB.trans (hb.mono hB.size)
  clear hb
  go_wp2_with fail
  refine (g2 _ sm srows scols).mono ?_
  rintro e w4 ⟨rfl, hb⟩
  replace sm := sm.next hb
  replace srows := srows.next hb
  replace scols := scols.next hb
  replace hB := hB.trans (hb.mono hB.size)
  clear hb
  go_wp2_with fail
  refine (rows_b none none [] 0 0 _ (Sll.nothing _) (Sll.nothing _) (by decide) (by decide)).mono ?_
  rintro e w5 ⟨rfl, hb⟩
  replace sm := sm.next hb
  replace srows := srows.next hb
  replace scols := scols.next hb
  replace hB := hB.trans (hb.mono hB.size)
  clear hb
  go_wp2_with fail
  go_ret
  exact ⟨rfl, hB⟩

set_option maxHeartbeats 4000000 in
theorem walk_ok (Am : Option Addr) (cm : Nat) (m : List (List Int)) (Arows : Option Addr) (crows : Nat) (rows : List Int) (Acols : Option Addr) (ccols : Nat) (cols : List Int) (_wm : ∀ r ∈ m, Words r) (_lm : m.length ≤ 9223372036854775807) (_wrows : Nums rows) (_wcols : Nums cols) (h1 : smallB m 10 10 = true) (h2 : rows.length ≤ 10) (h3 : cols.length ≤ 10) (h4 : subB m rows cols = true) (w : World) (sm : Sll w Am cm m) (srows : Si w Arows crows rows) (scols : Si w Acols ccols cols) :
    Calls Try.prog 6 #[.slice Am m.length cm, .slice Arows rows.length crows, .slice Acols cols.length ccols] w fun e w' => e = .returned (.bool true) ∧ Below w.heap.size w w' := by
  have gm := fun W (q : Sll W Am cm m) => small_any Am cm 10 10 m (by omega) W q
  rw [h1] at gm
  have h2' : ¬ (10 : Int) < rows.length := by omega
  have h3' : ¬ (10 : Int) < cols.length := by omega
  obtain ⟨q1, q2⟩ := of_decide_eq_true h1
  have hro : ∀ i, (ro m i).length ≤ 10 := fun i => by
    by_cases hi : i < m.length
    · exact q2 _ (List.mem_of_getElem? (ro_get hi))
    · unfold ro; rw [List.getElem?_eq_none (by omega)]; exact Nat.zero_le _
  have g1 := fun W (a1 : Sll W Am cm m) (a2 : Si W Arows crows rows) (a3 : Si W Acols ccols cols) => sub_ok Am Arows Acols cm crows ccols m rows cols (by omega) (fun i => by have := hro i; omega) (by omega) (by omega) h4 W a1 a2 a3
  have g2 : ∀ W (_ : Sll W Am cm m) (_ : Si W Arows crows rows) (_ : Si W Acols ccols cols), Calls Try.prog 23 #[.slice Am m.length cm, .slice Arows rows.length crows, .slice Acols cols.length ccols] W fun e w' => MatE W e w' (subM m rows cols) := fun W a1 a2 a3 => (rSubm_any Am Arows Acols cm crows ccols m rows cols (by omega) (fun i => by have := hro i; omega) (by omega) (by omega) W a1 a2 a3).mono fun e w' hx => by
    rcases hx with ⟨_, h6⟩ | ⟨h5, _⟩
    · exact h6
    · rw [h4] at h5; cases h5
  have hl1 : (subM m rows cols).length ≤ 1000 := by rw [subM_len]; omega
  have hl2 : ∀ r ∈ subM m rows cols, r.length ≤ 1000 := fun r hr => by
    obtain ⟨i, _, rfl⟩ := List.mem_map.1 hr
    rw [List.length_map]; omega
  generalize subM m rows cols = MM at *
  go_enter Try.func6, Try.ntmps6
  have hB := Below.refl w.heap.size w
  go_wp2_with fail
  refine (awake7_any _).mono ?_
  rintro e w1 ⟨rfl, hb⟩
  replace sm := sm.next hb
  replace srows := srows.next hb
  replace scols := scols.next hb
  replace hB := hB.trans (hb.mono hB.size)
  clear hb
  go_wp2_with fail
  refine (gm _ sm).mono ?_
  rintro e w' ⟨rfl, rfl⟩
  go_wp2_with fail
  refine (g1 _ sm srows scols).mono ?_
  rintro e w3 ⟨Aa, ca, rfl, sa, hb⟩
  replace sm := sm.next hb
  replace srows := srows.next hb
  replace scols := scols.next hb
  replace hB := hB.trans (hb.mono hB.size)
  clear hb
  go_wp2_with fail
  refine (g2 _ sm srows scols).mono ?_
  rintro e w4 ⟨Ab, cb, rfl, sb, hb⟩
  replace sm := sm.next hb
  replace srows := srows.next hb
  replace scols := scols.next hb
  replace sa := sa.next hb
  replace hB := hB.trans (hb.mono hB.size)
  clear hb
  go_wp2_with fail
  refine (rows_b _ _ MM _ _ _ sa sb hl1 hl2).mono ?_
  rintro e w5 ⟨rfl, hb⟩
  replace sm := sm.next hb
  replace srows := srows.next hb
  replace scols := scols.next hb
  replace sa := sa.next hb
  replace sb := sb.next hb
  replace hB := hB.trans (hb.mono hB.size)
  clear hb
  go_wp2_with fail
  go_ret
  exact ⟨rfl, hB⟩

set_option maxHeartbeats 4000000 in
theorem walk (Am : Option Addr) (cm : Nat) (m : List (List Int)) (Arows : Option Addr) (crows : Nat) (rows : List Int) (Acols : Option Addr) (ccols : Nat) (cols : List Int) (wm : ∀ r ∈ m, Words r) (lm : m.length ≤ 9223372036854775807) (wrows : Nums rows) (wcols : Nums cols)  (w : World) (sm : Sll w Am cm m) (srows : Si w Arows crows rows) (scols : Si w Acols ccols cols) :
    Calls Try.prog 6 #[.slice Am m.length cm, .slice Arows rows.length crows, .slice Acols cols.length ccols] w fun e w' => e = .returned (.bool true) ∧ Below w.heap.size w w' := by
  cases h1 : smallB m 10 10 with
  | false => exact walk_big Am cm m Arows crows rows Acols ccols cols wm lm wrows wcols h1 w sm srows scols
  | true =>
    by_cases h2 : 10 < rows.length
    · exact walk_r Am cm m Arows crows rows Acols ccols cols wm lm wrows wcols h1 h2 w sm srows scols
    · by_cases h3 : 10 < cols.length
      · exact walk_c Am cm m Arows crows rows Acols ccols cols wm lm wrows wcols h1 (by omega) h3 w sm srows scols
      · cases h4 : subB m rows cols with
        | false => exact walk_bad Am cm m Arows crows rows Acols ccols cols wm lm wrows wcols h1 (by omega) (by omega) h4 w sm srows scols
        | true => exact walk_ok Am cm m Arows crows rows Acols ccols cols wm lm wrows wcols h1 (by omega) (by omega) h4 w sm srows scols

theorem lifted (os : Os) (started : os.Started) (H : Type) (enc : TypeId × Value → H) :
    ReturnsInHanded {} Try.checked os 6 .any (Rows.hyperinvertibleSubmatrixMatchesReferenceSpec.pre6 enc Try.prog Try.f6 Rows.hyperinvertibleSubmatrixMatchesReferenceRow.domain false) (Rows.hyperinvertibleSubmatrixMatchesReferenceSpec.post enc Try.prog Try.f6 false true false false) := by
  refine returnsInHanded_of_change (C := Try.checked) own started (by kernel_rfl) Try.func6
    (ChangeSpec.witness6 (enc := enc) (C := Try.checked) false ⟨#[], #[.slice none 0 0, .slice none 0 0, .slice none 0 0], []⟩ 8 (by kernel_rfl) (by kernel_rfl) (by kernel_rfl) (by kernel_rfl)) ?_
  intro W base args ds gs before hval0 hW hcnd _
  have hval : ∀ (j : Nat) t v, Try.f6.params[j]? = some t → args[j]? = some v → Value.okWide Try.prog W .any base t v := hval0
  have hW' := hW
  obtain ⟨p, q, hA0, hV, rfl, hfz, hnd⟩ := hW
  have hA : DataW.TrodAll enc Try.prog W 0 (fun _ => true) true Try.f6.params.toList args.toList ds p := hA0
  rw [Try.params6] at hA hval
  obtain ⟨v0, v1, v2, d0, d1, d2, p0, p1, p2, rfl, rfl, rfl, t0, t1, t2⟩ := trodAll_three hA
  obtain ⟨rfl, rfl⟩ := trodVars_none hV
  clear hA0 hval0
  simp only [List.append_nil] at hW'
  have l0 : ∀ x ∈ p0, x.block < W.heap.size := fun x hx => hW'.lt x (by simp [hx])
  obtain ⟨A0, x0, c0, rfl, r0, b0, n0⟩ := arg_ll (hval 0 25 v0 rfl rfl) t0 l0
  have l1 : ∀ x ∈ p1, x.block < W.heap.size := fun x hx => hW'.lt x (by simp [hx])
  obtain ⟨A1, x1, c1, rfl, r1, b1⟩ := arg_si (hval 1 36 v1 rfl rfl) t1 l1
  have l2 : ∀ x ∈ p2, x.block < W.heap.size := fun x hx => hW'.lt x (by simp [hx])
  obtain ⟨A2, x2, c2, rfl, r2, b2⟩ := arg_si (hval 2 36 v2 rfl rfl) t2 l2
  refine (walk A0 c0 x0 A1 c1 x1 A2 c2 x2 b0 n0 b1 b2 W r0 r1 r2).mono fun e W' ⟨he, hb⟩ => ?_
  subst he
  exact ⟨_, rfl, post_of_below (pa := p0 ++ (p1 ++ p2)) (pv := []) hW' (fun _ _ _ => (trodAll_cons_mk (shut_bool Try.underlying4 _) trodAll_mk0)) (fun sp hsp => trodAll_mk3 (stay_ll t0 hb l0 sp (fun x hx => hsp x (by simp [hx]))) (stay_si t1 hb l1 sp (fun x hx => hsp x (by simp [hx]))) (stay_si t2 hb l2 sp (fun x hx => hsp x (by simp [hx])))) (fun _ _ => rfl) (by simp)
    hb (ok_one (by kernel_rfl) rfl (okWide_bool_mk Try.underlying4 _))⟩

theorem over : Rows.hyperinvertibleSubmatrixMatchesReferenceRow.holds Try.pinned (OpenSpec.ofChange Rows.hyperinvertibleSubmatrixMatchesReferenceSpec) :=
  OpenClaim.holds_of_wide 6 Try.f6 rfl rfl rfl rfl rfl rfl rfl ⟨rfl, rfl, rfl, rfl, rfl⟩ rfl rfl rfl rfl rfl (by kernel_rfl) Try.func6 (by kernel_rfl)
    (of_decide_eq_true (by kernel_rfl)) (by unfold Func.isWrapper; first | (rw [if_pos (by decide +kernel)]; kernel_rfl) | (rw [if_neg (by decide +kernel)]; exact ⟨rfl, rfl⟩))
    (fun os started H enc _ => lifted os started H enc)

theorem proved : Rows.HyperinvertibleSubmatrixMatchesReferenceSaid := over
end Go.Proofs.Ytjijlefplidhpaa.hyperinvertibleSubmatrixMatchesReference
