/- InterpolatePassesThroughPoints: for every prime and every slice of points, the law returns true and changes nothing that lay. No conditions. -/
import Derived.Test.YtpjgpfjepcidgaaIOpen
namespace Go.Proofs.Ytpjgpfjepcidgaa.interpolatePassesThroughPoints
open Go.ChangeShapes Go.WideShapes Go.ChangeAt Go.RowKit PolyMath FieldMath

set_option maxRecDepth 100000 in
set_option maxHeartbeats 4000000 in
theorem walk_main (p : Int) (A : Option Addr) (c : Nat) (ps : List (Int × Int)) (hp : OkP p) (_wp : Wd p) (wps : PWords ps) (h0 : (qOf p != 0) = true) (h1 : ps.length ≤ 12) (h2 : decide (∀ q ∈ ps, q.1 < p ∧ q.2 < p) = true) (w : World) (sps : Pt w A c ps) :
    Calls Try.prog 3 #[.int .u64 p, .slice A ps.length c] w fun e w' => e = .returned (.bool true) ∧ Below w.heap.size w w' := by
  have hbd := hp.bd
  have hx := px_el wps (of_decide_eq_true h2)
  have hy := py_el wps (of_decide_eq_true h2)
  have g0 := fun W => rSupported_any p W
  rw [h0] at g0
  have h1' : (ps.length : Int) ≤ 12 := by omega
  have g2 := fun W h => points_any p A c ps W h (by omega)
  rw [h2] at g2
  go_enter Try.func3, Try.ntmps3
  go_wp2_with fail
  refine (awake_any _).mono ?_; rintro e w1 ⟨rfl, hB⟩
  replace sps := sps.next hB
  go_wp2_with fail
  refine (g0 _).mono ?_; rintro e w2 ⟨rfl, hb⟩
  replace sps := sps.next hb
  replace hB := hB.trans (hb.mono hB.size)
  clear hb
  go_wp2_with fail
  refine (g2 _ sps).mono ?_; rintro e w' ⟨rfl, rfl⟩
  go_wp2_with fail
  refine (pol_any p hp A c ps hx hy (by omega) _ sps).mono ?_
  rintro e w3 (⟨hnd, A3, c3, rfl, hs3, hb⟩ | ⟨hnd, rfl, hb⟩)
  · replace sps := sps.next hb
    replace hB := hB.trans (hb.mono hB.size)
    clear hb
    go_wp2_with fail
    refine (rPol_any p hp A c ps hx hy (by omega) _ sps).mono ?_
    rintro e w4 (⟨_, A4, c4, rfl, hs4, hb⟩ | ⟨hnd', _⟩)
    case inr => exact absurd hnd hnd'
    replace sps := sps.next hb
    replace hs3 := hs3.next hb
    replace hB := hB.trans (hb.mono hB.size)
    clear hb
    have hit := thru_itp hp.good hnd hx hy
    have hfl := hit.fl
    have hfe := hit.fe
    have hat := Lib.hid hit.at_
    rw [px_len] at hfl
    clear hit hnd
    generalize thru p ps = F at *
    go_wp2_with fail
    refine (same_b _ _ F _ _ _ hs3 hs4 (by omega)).mono ?_
    rintro e w5 ⟨rfl, hb⟩
    replace sps := sps.next hb
    replace hs3 := hs3.next hb
    replace hB := hB.trans (hb.mono hB.size)
    clear hb hs4
    go_wp2_with fail
    go_loopw [9] (fun i wr => ∃ k : Nat, k ≤ ps.length ∧ i = .int .i64 k ∧ Below w5.heap.size w5 wr) (fun i _ => ps.length - (intOf i).toNat)
    case atStart => exact ⟨0, Nat.zero_le _, rfl, Below.refl _ _⟩
    case round =>
      obtain ⟨k, hk, rfl, hBr⟩ := hrel
      by_cases hlt : k < ps.length
      · obtain ⟨b, off, x, y, hA, hbl, hxy, hcx, hcy⟩ := (sps.next hBr).at_ hlt
        subst hA
        have hev0 : pev p F x = y := by have := hat.out k (by rw [px_len]; exact hlt); rwa [px_at hxy, py_at hxy] at this
        have hxb : 0 ≤ x ∧ x < p := by have := hx.co (p := p) (by omega) k; rwa [px_at hxy] at this
        have hev := eval_any p x hp hxb A3 c3 F hfe (by omega) wr.drew (hs3.next hBr).drew
        rw [hev0] at hev
        have hkN : (k : Int) < ps.length := by omega
        have hdr : Below wr.heap.size wr wr.drew := (Below.refl _ wr).drew
        clear hxy hev0
        go_wp2_with fail
        go_region_held3 (fun w' => w'.cell? ⟨b, off + k * 2, none⟩ = some (.int .u64 x) ∧ w'.cell? ⟨b, off + k * 2 + 1, none⟩ = some (.int .u64 y))
          (refine ⟨?_, ?_⟩ <;> assumption)
          (first
            | (go_at_call 16; (with_reducible refine hev.mono ?_); rintro e w6 ⟨rfl, hb6⟩; have cx6 := (hb6.cell (p := ⟨b, off + k * 2, none⟩) hbl).trans hcx; have cy6 := (hb6.cell (p := ⟨b, off + k * 2 + 1, none⟩) hbl).trans hcy; have hB6 := hdr.trans (hb6.mono hdr.size); clear hb6 hev))
        all_goals
          go_wp2_with fail
          go_roundw
          case rel => exact ⟨k + 1, by omega, by simp, hBr.trans (hB6.mono hBr.size)⟩
          case measure => simp [intOf]; omega
      · obtain rfl : k = ps.length := by omega
        go_wp2
        go_ret
        exact ⟨rfl, hB.trans (hBr.mono hB.size)⟩
  · replace sps := sps.next hb
    replace hB := hB.trans (hb.mono hB.size)
    clear hb
    go_wp2_with fail
    refine (rPol_any p hp A c ps hx hy (by omega) _ sps).mono ?_
    rintro e w4 (⟨hnd', _⟩ | ⟨_, rfl, hb⟩)
    case inl => exact absurd hnd' hnd
    replace hB := hB.trans (hb.mono hB.size)
    clear hb
    go_wp2_with fail
    refine (same_b none none [] 0 0 _ (Sl.nothing _) (Sl.nothing _) (by decide)).mono ?_
    rintro e w5 ⟨rfl, hb⟩
    replace hB := hB.trans (hb.mono hB.size)
    clear hb
    go_wp2_with fail
    go_loopw [9] (fun i wr => i = .int .i64 0 ∧ wr = w5) (fun _ _ => 0)
    case atStart => exact ⟨rfl, rfl⟩
    case round =>
      obtain ⟨rfl, rfl⟩ := hrel
      go_wp2
      all_goals
        go_ret
        exact ⟨rfl, hB⟩

set_option maxRecDepth 100000 in
set_option maxHeartbeats 4000000 in
theorem walk (p : Int) (A : Option Addr) (c : Nat) (ps : List (Int × Int)) (wp : Wd p) (wps : PWords ps) (w : World) (sps : Pt w A c ps) :
    Calls Try.prog 3 #[.int .u64 p, .slice A ps.length c] w fun e w' => e = .returned (.bool true) ∧ Below w.heap.size w w' := by
  rcases sup_cases p with h0 | ⟨h0, hp⟩
  · have g0 := fun W => rSupported_any p W
    rw [h0] at g0
    go_enter Try.func3, Try.ntmps3
    go_wp2_with fail
    refine (awake_any _).mono ?_; rintro e w1 ⟨rfl, hB⟩
    replace sps := sps.next hB
    go_wp2_with fail
    refine (g0 _).mono ?_; rintro e w2 ⟨rfl, hb⟩
    replace sps := sps.next hb
    replace hB := hB.trans (hb.mono hB.size)
    clear hb
    go_wp2_with fail
    go_ret
    exact ⟨rfl, hB⟩
  · rcases Nat.lt_or_ge 12 ps.length with h1 | h1
    · have g0 := fun W => rSupported_any p W
      rw [h0] at g0
      have h1' : (12 : Int) < ps.length := by omega
      go_enter Try.func3, Try.ntmps3
      go_wp2_with fail
      refine (awake_any _).mono ?_; rintro e w1 ⟨rfl, hB⟩
      replace sps := sps.next hB
      go_wp2_with fail
      refine (g0 _).mono ?_; rintro e w2 ⟨rfl, hb⟩
      replace sps := sps.next hb
      replace hB := hB.trans (hb.mono hB.size)
      clear hb
      go_wp2_with fail
      go_ret
      exact ⟨rfl, hB⟩
    · rcases Bool.eq_false_or_eq_true (decide (∀ q ∈ ps, q.1 < p ∧ q.2 < p)) with h2 | h2; rotate_left
      · have g0 := fun W => rSupported_any p W
        rw [h0] at g0
        have h1' : (ps.length : Int) ≤ 12 := by omega
        have g2 := fun W h => points_any p A c ps W h (by omega)
        rw [h2] at g2
        go_enter Try.func3, Try.ntmps3
        go_wp2_with fail
        refine (awake_any _).mono ?_; rintro e w1 ⟨rfl, hB⟩
        replace sps := sps.next hB
        go_wp2_with fail
        refine (g0 _).mono ?_; rintro e w2 ⟨rfl, hb⟩
        replace sps := sps.next hb
        replace hB := hB.trans (hb.mono hB.size)
        clear hb
        go_wp2_with fail
        refine (g2 _ sps).mono ?_; rintro e w' ⟨rfl, rfl⟩
        go_wp2_with fail
        go_ret
        exact ⟨rfl, hB⟩
      · exact walk_main p A c ps hp wp wps h0 h1 h2 w sps

set_option maxRecDepth 100000 in
theorem lifted (os : Os) (started : os.Started) (H : Type) (enc : TypeId × Value → H) :
    ReturnsInHanded {} Try.checked os 3 .any (Rows.interpolatePassesThroughPointsSpec.pre6 enc Try.prog Try.f3 Rows.interpolatePassesThroughPointsRow.domain false) (Rows.interpolatePassesThroughPointsSpec.post enc Try.prog Try.f3 false true false false) := by
  refine returnsInHanded_of_change (C := Try.checked) own started (by kernel_rfl) Try.func3
    (ChangeSpec.witness6 (enc := enc) (C := Try.checked) false ⟨#[], #[.int .u64 0, .slice none 0 0], []⟩ 8 (by kernel_rfl) (by kernel_rfl) (by kernel_rfl) (by kernel_rfl)) ?_
  intro W base args ds gs before hval0 hW hcnd _
  have hval : ∀ (j : Nat) t v, Try.f3.params[j]? = some t → args[j]? = some v → Value.okWide Try.prog W .any base t v := hval0
  have hW' := hW
  obtain ⟨p, q, hA0, hV, rfl, hfz, hnd⟩ := hW
  have hA : DataW.TrodAll enc Try.prog W 0 (fun _ => true) true Try.f3.params.toList args.toList ds p := hA0
  rw [Try.params3] at hA hval
  obtain ⟨v0, v1, d0, d1, p0, p1, rfl, rfl, rfl, t0, t1⟩ := trodAll_two hA
  obtain ⟨rfl, rfl⟩ := trodVars_none hV
  clear hA0 hval0
  simp only [List.append_nil] at hW'
  have l0 : ∀ x ∈ p0, x.block < W.heap.size := fun x hx => hW'.lt x (by simp [hx])
  obtain ⟨x0, rfl, b0⟩ := arg_word (hval 0 22 v0 rfl rfl) t0
  have l1 : ∀ x ∈ p1, x.block < W.heap.size := fun x hx => hW'.lt x (by simp [hx])
  obtain ⟨A1, x1, c1, rfl, r1, b1⟩ := arg_pt (hval 1 23 v1 rfl rfl) t1 l1
  refine (walk x0 A1 c1 x1 b0 b1 W r1).mono fun e W' ⟨he, hb⟩ => ?_
  subst he
  exact ⟨_, rfl, post_of_below (pa := p0 ++ p1) (pv := []) hW' (fun _ _ _ => (trodAll_cons_mk (shut_bool Try.underlying4 _) trodAll_mk0)) (fun sp hsp => trodAll_mk2 (stay_word t0 hb l0 sp (fun x hx => hsp x (by simp [hx]))) (stay_pt t1 hb l1 sp (fun x hx => hsp x (by simp [hx])))) (fun _ _ => rfl) (by simp)
    hb (ok_one (by kernel_rfl) rfl (okWide_bool_mk Try.underlying4 _))⟩

theorem over : Rows.interpolatePassesThroughPointsRow.holds Try.pinned (OpenSpec.ofChange Rows.interpolatePassesThroughPointsSpec) :=
  OpenClaim.holds_of_wide 3 Try.f3 rfl rfl rfl rfl rfl rfl rfl ⟨rfl, rfl, rfl, rfl, rfl⟩ rfl rfl rfl rfl rfl (by kernel_rfl) Try.func3 (by kernel_rfl)
    (of_decide_eq_true (by kernel_rfl)) (by unfold Func.isWrapper; first | (rw [if_pos (by decide +kernel)]; kernel_rfl) | (rw [if_neg (by decide +kernel)]; exact ⟨rfl, rfl⟩))
    (fun os started H enc _ => lifted os started H enc)

theorem proved : Rows.InterpolatePassesThroughPointsSaid := over
end Go.Proofs.Ytpjgpfjepcidgaa.interpolatePassesThroughPoints
