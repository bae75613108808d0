/- Generate answers as the reference does. No conditions. -/
import Derived.Test.YtcogiippiaebaaaAAwake
import Derived.Test.YtcogiippiaebaaaARTk
import Derived.Test.YtcogiippiaebaaaAGen
import Derived.Test.YtcogiippiaebaaaAGrd
import Derived.Test.YtcogiippiaebaaaOArg
import Derived.Test.YtcogiippiaebaaaFrame
namespace Go.Proofs.Ytcogiippiaebaaa.tapeGenerate
set_option maxRecDepth 100000
open Go.ChangeShapes Go.WideShapes Go.ChangeAt Go.RowKit FieldMath

set_option maxHeartbeats 4000000 in
theorem walk (k : Int) (seed : Int) (n : Int) (wk : Wd k) (_wseed : Wd seed) (_wn : Wi n) (w : World)  :
    Calls Try.prog 6 #[.int .u64 k, .int .u64 seed, .int .i64 n] w fun e w' => e = .returned (.bool true) ∧ Below w.heap.size w w' := by
  have hfit := fun W => rFit_any k wk.1 wk.2 W
  have hp := fitP_ok k
  generalize fitP k = p at hp hfit
  by_cases h1 : 500 < n
  · go_enter Try.func6, Try.ntmps6
    go_wp2_with fail
    refine (hfit _).mono ?_; rintro e w1 ⟨rfl, hb0⟩
    go_wp2_with fail
    refine (awake_any _).mono ?_; rintro e w2 ⟨rfl, hb⟩
    go_wp2_with fail
    go_ret
    exact ⟨rfl, hb0.trans (hb.mono hb0.size)⟩
  · obtain ⟨N, hN, hl⟩ : ∃ N : Nat, (n = N ∨ (n < 0 ∧ N = 0)) ∧ N ≤ 500 := by
      by_cases h0 : n < 0
      · exact ⟨0, .inr ⟨h0, rfl⟩, by omega⟩
      · exact ⟨n.toNat, .inl (by omega), by omega⟩
    have h1' : n ≤ 500 := by omega
    have g1 := fun W => generate_row p seed hp n N hN (by omega) W
    have g2 := fun W => rGenerate_row p seed hp n N hN (by omega) W
    have hL : Hid ((gens p seed N).length = N) := Lib.hid (by simp [gens])
    go_enter Try.func6, Try.ntmps6
    go_wp2_with fail
    refine (hfit _).mono ?_; rintro e w1 ⟨rfl, hb0⟩
    have hB := hb0
    clear hb0
    go_wp2_with fail
    refine (awake_any _).mono ?_; rintro e w2 ⟨rfl, hb⟩
    replace hB := hB.trans (hb.mono hB.size)
    clear hb
    go_wp2_with fail
    refine (g1 _).mono ?_; rintro e w3 ⟨A3, c3, rfl, s3, hb⟩
    replace hB := hB.trans (hb.mono hB.size)
    clear hb
    go_wp2_with fail
    refine (g2 _).mono ?_; rintro e w4 ⟨A4, c4, rfl, s4, hb⟩
    replace hB := hB.trans (hb.mono hB.size)
    replace s3 := s3.next hb
    clear hb
    go_wp2_with fail
    refine (same_here _ _ _ _ _ _ _ _ _ s3 s4 rfl rfl (by rw [hL.out]; omega) rfl).mono ?_; rintro e w5 ⟨rfl, hb⟩
    replace hB := hB.trans (hb.mono hB.size)
    go_wp2_with fail
    go_ret
    exact ⟨rfl, hB⟩

theorem lifted (os : Os) (started : os.Started) (H : Type) (enc : TypeId × Value → H) :
    ReturnsInHanded {} Try.checked os 6 .any (Rows.tapeGenerateSpec.pre6 enc Try.prog Try.f6 Rows.tapeGenerateRow.domain false) (Rows.tapeGenerateSpec.post enc Try.prog Try.f6 false true false false) := by
  refine returnsInHanded_of_change (C := Try.checked) own started (by kernel_rfl) Try.func6
    (ChangeSpec.witness6 (enc := enc) (C := Try.checked) false ⟨#[], #[.int .u64 0, .int .u64 0, .int .i64 0], []⟩ 8 (by kernel_rfl) (by kernel_rfl) (by kernel_rfl) (by kernel_rfl)) ?_
  intro W base args ds gs before hval0 hW hcnd _
  have hval : ∀ (j : Nat) t v, Try.f6.params[j]? = some t → args[j]? = some v → Value.okWide Try.prog W .any base t v := hval0
  have hW' := hW
  obtain ⟨p, q, hA0, hV, rfl, hfz, hnd⟩ := hW
  have hA : DataW.TrodAll enc Try.prog W 0 (fun _ => true) true Try.f6.params.toList args.toList ds p := hA0
  rw [Try.params6] at hA hval
  obtain ⟨v0, v1, v2, d0, d1, d2, p0, p1, p2, rfl, rfl, rfl, t0, t1, t2⟩ := trodAll_three hA
  obtain ⟨rfl, rfl⟩ := trodVars_none hV
  clear hA0 hval0
  simp only [List.append_nil] at hW'
  have l0 : ∀ x ∈ p0, x.block < W.heap.size := fun x hx => hW'.lt x (by simp [hx])
  obtain ⟨x0, rfl, b0⟩ := arg_word (hval 0 37 v0 rfl rfl) t0
  have l1 : ∀ x ∈ p1, x.block < W.heap.size := fun x hx => hW'.lt x (by simp [hx])
  obtain ⟨x1, rfl, b1⟩ := arg_word (hval 1 37 v1 rfl rfl) t1
  have l2 : ∀ x ∈ p2, x.block < W.heap.size := fun x hx => hW'.lt x (by simp [hx])
  obtain ⟨x2, rfl, b2⟩ := arg_int (hval 2 3 v2 rfl rfl) t2
  refine (walk x0 x1 x2 b0 b1 b2 W ).mono fun e W' ⟨he, hb⟩ => ?_
  subst he
  exact ⟨_, rfl, post_of_below (pa := p0 ++ (p1 ++ p2)) (pv := []) hW' (fun _ _ _ => (trodAll_cons_mk (shut_bool Try.underlying4 _) trodAll_mk0)) (fun sp hsp => trodAll_mk3 (stay_word t0 hb l0 sp (fun x hx => hsp x (by simp [hx]))) (stay_word t1 hb l1 sp (fun x hx => hsp x (by simp [hx]))) (stay_int t2 hb l2 sp (fun x hx => hsp x (by simp [hx])))) (fun _ _ => rfl) (by simp)
    hb (ok_one (by kernel_rfl) rfl (okWide_bool_mk Try.underlying4 _))⟩

theorem over : Rows.tapeGenerateRow.holds Try.pinned (OpenSpec.ofChange Rows.tapeGenerateSpec) :=
  OpenClaim.holds_of_wide 6 Try.f6 rfl rfl rfl rfl rfl rfl rfl ⟨rfl, rfl, rfl, rfl, rfl⟩ rfl rfl rfl rfl rfl (by kernel_rfl) Try.func6 (by kernel_rfl)
    (of_decide_eq_true (by kernel_rfl)) (by unfold Func.isWrapper; first | (rw [if_pos (by decide +kernel)]; kernel_rfl) | (rw [if_neg (by decide +kernel)]; exact ⟨rfl, rfl⟩))
    (fun os started H enc _ => lifted os started H enc)

theorem proved : Rows.TapeGenerateSaid := over
end Go.Proofs.Ytcogiippiaebaaa.tapeGenerate
