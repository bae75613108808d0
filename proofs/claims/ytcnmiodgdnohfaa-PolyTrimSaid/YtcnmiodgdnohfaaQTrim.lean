/- PolyTrim: for any numbers and any index, Trim, Degree and Coefficient of package poly answer as the reference does, and the examples of the document hold. No conditions. -/
import Derived.Test.YtcnmiodgdnohfaaPMore
namespace Go.Proofs.Ytcnmiodgdnohfaa.polyTrim
open Go.ChangeShapes Go.WideShapes Go.ChangeAt Go.RowKit Go.Joins PolyMath FieldMath

set_option maxRecDepth 100000 in
set_option maxHeartbeats 4000000 in
theorem walk (A : Option Addr) (c : Nat) (xs : List Int) (i : Int) (w : World) (s : Sl w A c xs) :
    Calls Try.prog 3 #[.slice A xs.length c, .int .i64 i] w fun e w' => e = .returned (.bool true) ∧ Below w.heap.size w w' := by
  by_cases hl : 100 < xs.length
  · have hl' : (100 : Int) < xs.length := by omega
    go_enter Try.func3, Try.ntmps3
    go_wp2_with fail
    refine (awake_any _).mono ?_; rintro e w1 ⟨rfl, hb⟩
    go_wp2_with fail
    go_ret
    exact ⟨rfl, hb⟩
  · have hl' : (xs.length : Int) ≤ 100 := by omega
    go_enter Try.func3, Try.ntmps3
    go_wp2_with fail
    refine (awake_any _).mono ?_; rintro e w1 ⟨rfl, hb⟩
    have hB := hb
    replace s := s.next hb
    clear hb
    go_wp2_with fail
    refine ((trim_any A c xs _ s (by omega)).mono fun _ _ h => Fresh.row h).mono ?_; rintro e w2 ⟨As1, cs1, rfl, s1, hb⟩
    replace s := s.next hb
    replace hB := hB.trans (hb.mono hB.size)
    clear hb
    go_wp2_with fail
    refine (rTrim_any A c xs _ s (by omega)).mono ?_; rintro e w3 ⟨As2, cs2, rfl, s2, hb⟩
    replace s := s.next hb
    replace s1 := s1.next hb
    replace hB := hB.trans (hb.mono hB.size)
    clear hb
    go_wp2_with fail
    refine (equal_is _ _ (trim xs) (trim xs) _ _ _ s1 s2 (by rw [trim_length]; have := tn_le xs; omega) (rfl)).mono ?_; rintro e w4 ⟨rfl, hb⟩
    replace s := s.next hb
    replace s1 := s1.next hb
    replace s2 := s2.next hb
    replace hB := hB.trans (hb.mono hB.size)
    clear hb
    go_wp2_with fail
    refine (degree_any A c xs _ s (by omega)).mono ?_; rintro e w' ⟨rfl, rfl⟩
    go_wp2_with fail
    refine (rDegree_any A c xs _ s (by omega)).mono ?_; rintro e w5 ⟨rfl, hb⟩
    replace s := s.next hb
    replace s1 := s1.next hb
    replace s2 := s2.next hb
    replace hB := hB.trans (hb.mono hB.size)
    clear hb
    go_wp2_with fail
    refine (coef_any A c xs i _ s).mono ?_; rintro e w' ⟨rfl, rfl⟩
    go_wp2_with fail
    refine (rCoef_any A c xs i _ s).mono ?_; rintro e w' ⟨rfl, rfl⟩
    go_wp2_with fail
    go_ret
    exact ⟨rfl, hB⟩

set_option maxRecDepth 100000 in
theorem lifted (os : Os) (started : os.Started) (H : Type) (enc : TypeId × Value → H) :
    ReturnsInHanded {} Try.checked os 3 .any (Rows.polyTrimSpec.pre6 enc Try.prog Try.f3 Rows.polyTrimRow.domain false) (Rows.polyTrimSpec.post enc Try.prog Try.f3 false true false false) := by
  refine returnsInHanded_of_change (C := Try.checked) own started (by kernel_rfl) Try.func3
    (ChangeSpec.witness6 (enc := enc) (C := Try.checked) false ⟨#[], #[.slice none 0 0, .int .i64 0], []⟩ 8 (by kernel_rfl) (by kernel_rfl) (by kernel_rfl) (by kernel_rfl)) ?_
  intro W base args ds gs before hval0 hW hcnd _
  have hval : ∀ (j : Nat) t v, Try.f3.params[j]? = some t → args[j]? = some v → Value.okWide Try.prog W .any base t v := hval0
  have hW' := hW
  obtain ⟨p, q, hA0, hV, rfl, hfz, hnd⟩ := hW
  have hA : DataW.TrodAll enc Try.prog W 0 (fun _ => true) true Try.f3.params.toList args.toList ds p := hA0
  rw [Try.params3] at hA hval
  obtain ⟨v0, v1, d0, d1, p0, p1, rfl, rfl, rfl, h0, h1⟩ := trodAll_two hA
  obtain ⟨rfl, rfl⟩ := trodVars_none hV
  obtain ⟨n1, rfl, rfl, rfl, wf1⟩ := open_int Try.underlying3 (hval 1 3 v1 rfl rfl) h1
  clear hA0 hval0
  simp only [List.append_nil] at hW'
  have l0 : ∀ x ∈ p0, x.block < W.heap.size := fun x hx => hW'.lt x (by simp [hx])
  obtain ⟨a0, len, cap, rfl⟩ := okWide_slice Try.underlying22 (hval 0 22 v0 rfl rfl)
  have h0k := h0
  obtain ⟨fuel, hf⟩ := h0
  simp only [Value.cells] at hf
  obtain ⟨A, xs, c, hv, s, _⟩ := open_sl hf l0
  obtain ⟨rfl, rfl, rfl⟩ : a0 = A ∧ len = xs.length ∧ cap = c := by injection hv with h1 h2 h3; exact ⟨h1, h2, h3⟩
  refine (walk _ _ xs n1 W s).mono fun e W' ⟨he, hb⟩ => ?_
  subst he
  exact ⟨_, rfl, post_of_below (pa := p0 ++ []) (pv := []) hW' (fun _ _ _ => (trodAll_cons_mk (shut_bool Try.underlying4 _) trodAll_mk0)) (fun sp hsp => trodAll_mk2 (stays h0k hb l0 sp (fun x hx => hsp x (by simp [hx]))) (shut_int Try.underlying3 wf1)) (fun _ _ => rfl) (by simp)
    hb (ok_one (by kernel_rfl) rfl (okWide_bool_mk Try.underlying4 _))⟩

theorem over : Rows.polyTrimRow.holds Try.pinned (OpenSpec.ofChange Rows.polyTrimSpec) :=
  OpenClaim.holds_of_wide 3 Try.f3 rfl rfl rfl rfl rfl rfl rfl ⟨rfl, rfl, rfl, rfl, rfl⟩ rfl rfl rfl rfl rfl (by kernel_rfl) Try.func3 (by kernel_rfl)
    (of_decide_eq_true (by kernel_rfl)) (by unfold Func.isWrapper; first | (rw [if_pos (by decide +kernel)]; kernel_rfl) | (rw [if_neg (by decide +kernel)]; exact ⟨rfl, rfl⟩))
    (fun os started H enc _ => lifted os started H enc)

theorem proved : Rows.PolyTrimSaid := over
end Go.Proofs.Ytcnmiodgdnohfaa.polyTrim
