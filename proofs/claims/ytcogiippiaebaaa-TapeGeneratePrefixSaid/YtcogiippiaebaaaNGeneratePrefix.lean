/- A generated tape is a prefix of every longer one with the same seed, and all its words are less than the prime. No conditions. -/
import Derived.Test.YtcogiippiaebaaaAAwake
import Derived.Test.YtcogiippiaebaaaARTk
import Derived.Test.YtcogiippiaebaaaAGen
import Derived.Test.YtcogiippiaebaaaAGrd
import Derived.Test.YtcogiippiaebaaaOArg
import Derived.Test.YtcogiippiaebaaaFrame
namespace Go.Proofs.Ytcogiippiaebaaa.tapeGeneratePrefix
set_option maxRecDepth 100000
open Go.ChangeShapes Go.WideShapes Go.ChangeAt Go.RowKit FieldMath

set_option maxHeartbeats 4000000 in
theorem walk (k : Int) (seed : Int) (d0 d1 : Nat) (wk : Wd k) (_wseed : Wd seed) (_wd0 : d0 ≤ 255) (_wd1 : d1 ≤ 255) (w : World)  :
    Calls Try.prog 7 #[.int .u64 k, .int .u64 seed, .agg #[.int .u8 d0, .int .u8 d1]] w fun e w' => e = .returned (.bool true) ∧ Below w.heap.size w w' := by
  have hfit := fun W => rFit_any k wk.1 wk.2 W
  have hp := fitP_ok k
  generalize fitP k = p at hp hfit
  have hL1 : Hid ((gens p seed d0).length = d0) := Lib.hid (by simp [gens])
  have hL2 : Hid ((gens p seed (d0 + d1)).length = d0 + d1) := Lib.hid (by simp [gens])
  have hT : Hid ((gens p seed (d0 + d1)).take d0 = gens p seed d0) := Lib.hid (by unfold gens; rw [← List.map_take, List.take_range, Nat.min_eq_left (by omega)])
  have hd0 : (0 : Int) ≤ d0 := by omega
  have hd1 : (0 : Int) ≤ d1 := by omega
  have hd2 : (d0 : Int) ≤ 255 := by omega
  have hd3 : (d1 : Int) ≤ 255 := by omega
  have g1 := fun W => generate_row p seed hp d0 d0 (.inl rfl) (by omega) W
  have g2 := fun W => generate_row p seed hp ((d0 : Int) + d1) (d0 + d1) (.inl (by omega)) (by omega) W
  go_enter Try.func7, Try.ntmps7
  go_wp2_with fail
  refine (hfit _).mono ?_; rintro e w1 ⟨rfl, hb0⟩
  have hB : Below w.heap.size w w1 := ((Below.refl _ _).alloc (Nat.le_refl _) _).trans (hb0.mono (by simp))
  have k0 : w1.cell? ⟨w.heap.size, 0, none⟩ = some (.int .u8 d0) := by rw [(bcell hb0).1 _ _ (by simp)]; go_simp
  have k1 : w1.cell? ⟨w.heap.size, 1, none⟩ = some (.int .u8 d1) := by rw [(bcell hb0).1 _ _ (by simp)]; go_simp
  have hlt : w.heap.size < w1.heap.size := by have h := hb0.size; simp at h; omega
  clear hb0
  go_wp2_with fail
  refine (g1 _).mono ?_; rintro e w2 ⟨A2, c2, rfl, s2, hb⟩
  replace hB := hB.trans (hb.mono hB.size)
  replace k0 := (hb.cell (p := ⟨w.heap.size, 0, none⟩) hlt).trans k0
  replace k1 := (hb.cell (p := ⟨w.heap.size, 1, none⟩) hlt).trans k1
  replace hlt := Nat.lt_of_lt_of_le hlt hb.size
  rw [hL1.out]
  clear hb
  go_wp2_with fail
  refine (g2 _).mono ?_; rintro e w3 ⟨A3, c3, rfl, s3, hb⟩
  replace hB := hB.trans (hb.mono hB.size)
  replace k0 := (hb.cell (p := ⟨w.heap.size, 0, none⟩) hlt).trans k0
  replace k1 := (hb.cell (p := ⟨w.heap.size, 1, none⟩) hlt).trans k1
  replace hlt := Nat.lt_of_lt_of_le hlt hb.size
  replace s2 := s2.next hb
  rw [hL2.out]
  clear hb
  have hcp := s3.cap
  rw [hL2.out] at hcp
  have hcp' : (d0 : Int) ≤ c3 := by omega
  have st := s3.take d0
  rw [hT.out] at st
  have hgd : ∀ i y, (gens p seed (d0 + d1))[i]? = some y → y < p := fun i y h => by
    obtain ⟨q, _, rfl⟩ := List.mem_map.1 (List.mem_of_getElem? h)
    exact Int.emod_lt_of_pos _ (by have := hp.bd; omega)
  rcases A3 with _ | ad
  · obtain ⟨hg0, rfl⟩ := s3.empty rfl
    have hz : d0 + d1 = 0 := by have := hL2.out; rw [hg0] at this; simpa using this.symm
    obtain rfl : d0 = 0 := by omega
    obtain rfl : d1 = 0 := by omega
    clear hgd hg0 hz
    go_wp2_with fail
    refine (same_here _ _ _ _ _ _ _ _ _ s2 st hL1.out hL1.out (by omega) rfl).mono ?_
    rintro e w4 ⟨rfl, hb⟩
    replace hB := hB.trans (hb.mono hB.size)
    replace s3 := s3.next hb
    clear hb s2 st k0 k1
    go_wp2_with fail
    go_loopw [10] (fun i wr => ∃ j : Nat, j ≤ 0 ∧ i = .int .i64 j ∧ wr = w4) (fun i _ => 0 - (intOf i).toNat)
    case atStart => exact ⟨0, Nat.zero_le _, rfl, rfl⟩
    case round =>
      obtain ⟨j, hj, rfl, rfl⟩ := hrel
      by_cases hlt2 : j < 0
      · omega
      · obtain rfl : j = 0 := by omega
        go_wp2_with fail
        refine (awake_any _).mono ?_
        rintro e w5 ⟨rfl, hb⟩
        replace hB := hB.trans (hb.mono hB.size)
        go_wp2_with fail
        go_ret
        exact ⟨rfl, hB⟩
  · go_wp2_with fail
    refine (same_here _ _ _ _ _ _ _ _ _ s2 st hL1.out hL1.out (by omega) rfl).mono ?_
    rintro e w4 ⟨rfl, hb⟩
    replace hB := hB.trans (hb.mono hB.size)
    replace s3 := s3.next hb
    clear hb s2 st k0 k1
    go_wp2_with fail
    go_loopw [10] (fun i wr => ∃ j : Nat, j ≤ (d0 + d1) ∧ i = .int .i64 j ∧ wr = w4) (fun i _ => (d0 + d1) - (intOf i).toNat)
    case atStart => exact ⟨0, Nat.zero_le _, rfl, rfl⟩
    case round =>
      obtain ⟨j, hj, rfl, rfl⟩ := hrel
      by_cases hlt2 : j < (d0 + d1)
      · obtain ⟨b3, o3, y, hA3, hb3, hy, hc3⟩ := s3.at_ (k := j) (by rw [hL2.out]; exact hlt2)
        injection hA3 with hA3
        subst hA3
        have hyp := hgd j y hy
        have hj1 : (j : Int) < (d0 : Int) + d1 := by omega
        have hj2 : (j : Int) < ((d0 + d1 : Nat) : Int) := by omega
        clear hy
        go_wp2_with fail
        go_roundw
        case rel => exact ⟨j + 1, by omega, by simp, by first | rfl | trivial⟩
        case measure => simp [intOf]; omega
      · obtain rfl : j = (d0 + d1) := by omega
        go_wp2_with fail
        refine (awake_any _).mono ?_
        rintro e w5 ⟨rfl, hb⟩
        replace hB := hB.trans (hb.mono hB.size)
        go_wp2_with fail
        go_ret
        exact ⟨rfl, hB⟩

theorem lifted (os : Os) (started : os.Started) (H : Type) (enc : TypeId × Value → H) :
    ReturnsInHanded {} Try.checked os 7 .any (Rows.tapeGeneratePrefixSpec.pre6 enc Try.prog Try.f7 Rows.tapeGeneratePrefixRow.domain false) (Rows.tapeGeneratePrefixSpec.post enc Try.prog Try.f7 false true false false) := by
  refine returnsInHanded_of_change (C := Try.checked) own started (by kernel_rfl) Try.func7
    (ChangeSpec.witness6 (enc := enc) (C := Try.checked) false ⟨#[], #[.int .u64 0, .int .u64 0, .agg #[.int .u8 0, .int .u8 0]], []⟩ 8 (by kernel_rfl) (by kernel_rfl) (by kernel_rfl) (by kernel_rfl)) ?_
  intro W base args ds gs before hval0 hW hcnd _
  have hval : ∀ (j : Nat) t v, Try.f7.params[j]? = some t → args[j]? = some v → Value.okWide Try.prog W .any base t v := hval0
  have hW' := hW
  obtain ⟨p, q, hA0, hV, rfl, hfz, hnd⟩ := hW
  have hA : DataW.TrodAll enc Try.prog W 0 (fun _ => true) true Try.f7.params.toList args.toList ds p := hA0
  rw [Try.params7] at hA hval
  obtain ⟨v0, v1, v2, d0, d1, d2, p0, p1, p2, rfl, rfl, rfl, t0, t1, t2⟩ := trodAll_three hA
  obtain ⟨rfl, rfl⟩ := trodVars_none hV
  clear hA0 hval0
  simp only [List.append_nil] at hW'
  have l0 : ∀ x ∈ p0, x.block < W.heap.size := fun x hx => hW'.lt x (by simp [hx])
  obtain ⟨x0, rfl, b0⟩ := arg_word (hval 0 37 v0 rfl rfl) t0
  have l1 : ∀ x ∈ p1, x.block < W.heap.size := fun x hx => hW'.lt x (by simp [hx])
  obtain ⟨x1, rfl, b1⟩ := arg_word (hval 1 37 v1 rfl rfl) t1
  have l2 : ∀ x ∈ p2, x.block < W.heap.size := fun x hx => hW'.lt x (by simp [hx])
  obtain ⟨x2, y2, rfl, b2, e2⟩ := arg_b2 (hval 2 42 v2 rfl rfl) t2
  refine (walk x0 x1 x2 y2 b0 b1 b2 e2 W ).mono fun e W' ⟨he, hb⟩ => ?_
  subst he
  exact ⟨_, rfl, post_of_below (pa := p0 ++ (p1 ++ p2)) (pv := []) hW' (fun _ _ _ => (trodAll_cons_mk (shut_bool Try.underlying4 _) trodAll_mk0)) (fun sp hsp => trodAll_mk3 (stay_word t0 hb l0 sp (fun x hx => hsp x (by simp [hx]))) (stay_word t1 hb l1 sp (fun x hx => hsp x (by simp [hx]))) (stay_b2 t2 hb l2 sp (fun x hx => hsp x (by simp [hx])))) (fun _ _ => rfl) (by simp)
    hb (ok_one (by kernel_rfl) rfl (okWide_bool_mk Try.underlying4 _))⟩

theorem over : Rows.tapeGeneratePrefixRow.holds Try.pinned (OpenSpec.ofChange Rows.tapeGeneratePrefixSpec) :=
  OpenClaim.holds_of_wide 7 Try.f7 rfl rfl rfl rfl rfl rfl rfl ⟨rfl, rfl, rfl, rfl, rfl⟩ rfl rfl rfl rfl rfl (by kernel_rfl) Try.func7 (by kernel_rfl)
    (of_decide_eq_true (by kernel_rfl)) (by unfold Func.isWrapper; first | (rw [if_pos (by decide +kernel)]; kernel_rfl) | (rw [if_neg (by decide +kernel)]; exact ⟨rfl, rfl⟩))
    (fun os started H enc _ => lifted os started H enc)

theorem proved : Rows.TapeGeneratePrefixSaid := over
end Go.Proofs.Ytcogiippiaebaaa.tapeGeneratePrefix
