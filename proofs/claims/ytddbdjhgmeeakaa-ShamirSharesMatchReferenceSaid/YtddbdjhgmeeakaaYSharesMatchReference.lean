/- ShamirSharesMatchReference: for every input the law returns true and changes nothing that lay. No conditions. -/
import Derived.Test.YtddbdjhgmeeakaaWSet
import Derived.Test.YtddbdjhgmeeakaaWOpen
import Derived.Test.YtddbdjhgmeeakaaMB
namespace Go.Proofs.Ytddbdjhgmeeakaa.shamirSharesMatchReference
set_option maxRecDepth 100000
open Go.ChangeShapes Go.WideShapes Go.ChangeAt Go.RowKit PolyMath FieldMath MatMath

set_option maxHeartbeats 4000000 in
theorem walk (p : Int) (n : Int) (Aq : Option Addr) (cq : Nat) (q : List Int) (_wp : Wd p) (_wn : Wi n) (wq : Words q) (w : World) (sq : Sl w Aq cq q) : Calls Try.prog 3 #[.int .u64 p, .int .i64 n, .slice Aq q.length cq] w fun e w' => e = .returned (.bool true) ∧ Below w.heap.size w w' := by
  go_enter Try.func3, Try.ntmps3
  go_wp2_with fail
  refine (awake9 _).mono ?_
  rintro e w1 ⟨rfl, hb⟩
  replace sq := sq.next hb
  have hB := hb
  have g := fun W => rSupported_any p W
  go_wp2_with fail
  rcases sup_cases p with h0 | ⟨h0, hp⟩
  · rw [h0] at g
    refine (g _).mono ?_
    rintro e w2 ⟨rfl, hb⟩
    replace sq := sq.next hb
    replace hB := hB.trans (hb.mono hB.size)
    clear hb
    go_wp2
    go_ret
    exact ⟨rfl, hB⟩
  rw [h0] at g
  refine (g _).mono ?_
  rintro e w2 ⟨rfl, hb⟩
  replace sq := sq.next hb
  replace hB := hB.trans (hb.mono hB.size)
  clear hb
  clear g
  have hbd := hp.bd
  by_cases h1 : n ≤ 40
  rotate_left
  · have h1' : 40 < n := by omega
    go_wp2
    go_ret
    exact ⟨rfl, hB⟩
  have hw : IntKind.u64.wrap n = n ∨ n ≤ 0 := by rcases Int.lt_or_le 0 n with h | h; exact .inl (IntWalk.u64_in _ (by omega)); exact .inr h
  by_cases hn : 0 < n
  · have hw1 : IntKind.u64.wrap n = n := by omega
    by_cases h2 : n < p
    rotate_left
    · have h2' : p ≤ n := by omega
      go_wp2
      go_ret
      exact ⟨rfl, hB⟩
    by_cases h3 : q.length ≤ 20
    rotate_left
    · have h3' : (20 : Int) < q.length := by omega
      go_wp2
      go_ret
      exact ⟨rfl, hB⟩
    have h3' : (q.length : Int) ≤ 20 := by omega
    have g := fun W h => below_any p Aq cq q W h (by omega)
    go_wp2_with fail
    by_cases h4 : ∀ x ∈ q, x < p
    rotate_left
    · rw [decide_eq_false h4] at g
      refine (g _ sq).mono ?_
      rintro e w3 ⟨rfl, rfl⟩
      go_wp2
      go_ret
      exact ⟨rfl, hB⟩
    rw [decide_eq_true h4] at g
    refine (g _ sq).mono ?_
    rintro e w3 ⟨rfl, rfl⟩
    clear g
    have hE := el_of wq h4
    go_wp2_with fail
    refine (shares_row p hp n n.toNat rfl (by omega) (by omega) Aq cq q hE (by omega) _ sq).mono ?_
    rintro e w4 ⟨A3, c3, rfl, s3, hb⟩
    replace sq := sq.next hb
    replace hB := hB.trans (hb.mono hB.size)
    clear hb
    go_wp2_with fail
    refine (rShares_row p hp n n.toNat rfl (by omega) (by omega) Aq cq q hE (by omega) _ sq).mono ?_
    rintro e w5 ⟨A4, c4, rfl, s4, hb⟩
    replace sq := sq.next hb
    replace s3 := s3.next hb
    replace hB := hB.trans (hb.mono hB.size)
    clear hb
    have hs := fun W h h' => same_b A3 A4 (shr p q n.toNat) c3 c4 W h h' (by rw [shr_len]; omega)
    rw [shr_len] at hs
    generalize shr p q n.toNat = X at *
    go_wp2_with fail
    refine (hs _ s3 s4).mono ?_
    rintro e w6 ⟨rfl, hb⟩
    replace sq := sq.next hb
    replace s3 := s3.next hb
    replace hB := hB.trans (hb.mono hB.size)
    clear hb
    go_wp2
    go_ret
    exact ⟨rfl, hB⟩
  · have hn1 : n ≤ 0 := by omega
    by_cases h3 : q.length ≤ 20
    rotate_left
    · have h3' : (20 : Int) < q.length := by omega
      go_wp2
      go_ret
      exact ⟨rfl, hB⟩
    have h3' : (q.length : Int) ≤ 20 := by omega
    have g := fun W h => below_any p Aq cq q W h (by omega)
    go_wp2_with fail
    by_cases h4 : ∀ x ∈ q, x < p
    rotate_left
    · rw [decide_eq_false h4] at g
      refine (g _ sq).mono ?_
      rintro e w3 ⟨rfl, rfl⟩
      go_wp2
      go_ret
      exact ⟨rfl, hB⟩
    rw [decide_eq_true h4] at g
    refine (g _ sq).mono ?_
    rintro e w3 ⟨rfl, rfl⟩
    clear g
    have hE := el_of wq h4
    go_wp2_with fail
    refine (shares_row p hp n n.toNat rfl (by omega) (by omega) Aq cq q hE (by omega) _ sq).mono ?_
    rintro e w4 ⟨A3, c3, rfl, s3, hb⟩
    replace sq := sq.next hb
    replace hB := hB.trans (hb.mono hB.size)
    clear hb
    go_wp2_with fail
    refine (rShares_row p hp n n.toNat rfl (by omega) (by omega) Aq cq q hE (by omega) _ sq).mono ?_
    rintro e w5 ⟨A4, c4, rfl, s4, hb⟩
    replace sq := sq.next hb
    replace s3 := s3.next hb
    replace hB := hB.trans (hb.mono hB.size)
    clear hb
    have hs := fun W h h' => same_b A3 A4 (shr p q n.toNat) c3 c4 W h h' (by rw [shr_len]; omega)
    rw [shr_len] at hs
    generalize shr p q n.toNat = X at *
    go_wp2_with fail
    refine (hs _ s3 s4).mono ?_
    rintro e w6 ⟨rfl, hb⟩
    replace sq := sq.next hb
    replace s3 := s3.next hb
    replace hB := hB.trans (hb.mono hB.size)
    clear hb
    go_wp2
    go_ret
    exact ⟨rfl, hB⟩

theorem lifted (os : Os) (started : os.Started) (H : Type) (enc : TypeId × Value → H) :
    ReturnsInHanded {} Try.checked os 3 .any (Rows.shamirSharesMatchReferenceSpec.pre6 enc Try.prog Try.f3 Rows.shamirSharesMatchReferenceRow.domain false) (Rows.shamirSharesMatchReferenceSpec.post enc Try.prog Try.f3 false true false false) := by
  refine returnsInHanded_of_change (C := Try.checked) own started (by kernel_rfl) Try.func3
    (ChangeSpec.witness6 (enc := enc) (C := Try.checked) false ⟨#[], #[.int .u64 0, .int .i64 0, .slice none 0 0], []⟩ 8 (by kernel_rfl) (by kernel_rfl) (by kernel_rfl) (by kernel_rfl)) ?_
  intro W base args ds gs before hval0 hW hcnd _
  have hval : ∀ (j : Nat) t v, Try.f3.params[j]? = some t → args[j]? = some v → Value.okWide Try.prog W .any base t v := hval0
  have hW' := hW
  obtain ⟨p, q, hA0, hV, rfl, hfz, hnd⟩ := hW
  have hA : DataW.TrodAll enc Try.prog W 0 (fun _ => true) true Try.f3.params.toList args.toList ds p := hA0
  rw [Try.params3] at hA hval
  obtain ⟨v0, v1, v2, d0, d1, d2, p0, p1, p2, rfl, rfl, rfl, t0, t1, t2⟩ := trodAll_three hA
  obtain ⟨rfl, rfl⟩ := trodVars_none hV
  clear hA0 hval0
  simp only [List.append_nil] at hW'
  have l0 : ∀ x ∈ p0, x.block < W.heap.size := fun x hx => hW'.lt x (by simp [hx])
  obtain ⟨x0, rfl, b0⟩ := arg_word (hval 0 22 v0 rfl rfl) t0
  have l1 : ∀ x ∈ p1, x.block < W.heap.size := fun x hx => hW'.lt x (by simp [hx])
  obtain ⟨x1, rfl, b1⟩ := arg_int (hval 1 3 v1 rfl rfl) t1
  have l2 : ∀ x ∈ p2, x.block < W.heap.size := fun x hx => hW'.lt x (by simp [hx])
  obtain ⟨A2, x2, c2, rfl, r2, b2⟩ := arg_sl (hval 2 23 v2 rfl rfl) t2 l2
  refine (walk x0 x1 A2 c2 x2 b0 b1 b2 W r2).mono fun e W' ⟨he, hb⟩ => ?_
  subst he
  exact ⟨_, rfl, post_of_below (pa := p0 ++ (p1 ++ p2)) (pv := []) hW' (fun _ _ _ => (trodAll_cons_mk (shut_bool Try.underlying4 _) trodAll_mk0)) (fun sp hsp => trodAll_mk3 (stay_word t0 hb l0 sp (fun x hx => hsp x (by simp [hx]))) (stay_int t1 hb l1 sp (fun x hx => hsp x (by simp [hx]))) (stays t2 hb l2 sp (fun x hx => hsp x (by simp [hx])))) (fun _ _ => rfl) (by simp)
    hb (ok_one (by kernel_rfl) rfl (okWide_bool_mk Try.underlying4 _))⟩

theorem over : Rows.shamirSharesMatchReferenceRow.holds Try.pinned (OpenSpec.ofChange Rows.shamirSharesMatchReferenceSpec) :=
  OpenClaim.holds_of_wide 3 Try.f3 rfl rfl rfl rfl rfl rfl rfl ⟨rfl, rfl, rfl, rfl, rfl⟩ rfl rfl rfl rfl rfl (by kernel_rfl) Try.func3 (by kernel_rfl)
    (of_decide_eq_true (by kernel_rfl)) (by unfold Func.isWrapper; first | (rw [if_pos (by decide +kernel)]; kernel_rfl) | (rw [if_neg (by decide +kernel)]; exact ⟨rfl, rfl⟩))
    (fun os started H enc _ => lifted os started H enc)

theorem proved : Rows.ShamirSharesMatchReferenceSaid := over
end Go.Proofs.Ytddbdjhgmeeakaa.shamirSharesMatchReference
