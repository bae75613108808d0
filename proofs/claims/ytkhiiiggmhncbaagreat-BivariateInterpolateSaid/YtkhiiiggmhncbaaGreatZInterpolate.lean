/- BivariateInterpolate: for every input the law returns true and changes nothing that lay. No conditions. -/
import Derived.Test.YtkhiiiggmhncbaaGreatEAwake
import Derived.Test.YtkhiiiggmhncbaaGreatEValid
import Derived.Test.YtkhiiiggmhncbaaGreatEIR
import Derived.Test.YtkhiiiggmhncbaaGreatEFair
import Derived.Test.YtkhiiiggmhncbaaGreatEOpen
import Derived.Test.YtkhiiiggmhncbaaGreatMB
namespace Go.Proofs.YtkhiiiggmhncbaaGreat.bivariateInterpolate
set_option maxRecDepth 100000
open Go.ChangeShapes Go.WideShapes Go.ChangeAt Go.RowKit PolyMath FieldMath MatMath

set_option maxHeartbeats 8000000 in
theorem walk (P T : Int) (A : Option Addr) (c : Nat) (xs : List Int) (B : Option Addr) (cb : Nat) (rows : List (List Int)) (_wP : Wd P) (wT : Wi T) (wx : Words xs) (wr : ∀ r ∈ rows, Words r) (w : World) (sx : Sl w A c xs) (sr : Sll w B cb rows) : Calls Tryz.prog 3 #[.agg #[.int .u64 P, .int .i64 T, .slice A xs.length c, .slice B rows.length cb]] w fun e w' => e = .returned (.bool true) ∧ Below w.heap.size w w' := by
  obtain ⟨n, hn⟩ : ∃ n, xs.length = n := ⟨_, rfl⟩
  obtain ⟨m, hm⟩ : ∃ m, rows.length = m := ⟨_, rfl⟩
  rw [hn, hm]
  obtain ⟨wb, hwb⟩ : ∃ wb : World, wb = w.alloc (.cells #[.int .u64 P, .int .i64 T, .slice A n c, .slice B m cb] 26) := ⟨_, rfl⟩
  have hB0 : Below w.heap.size w wb := by rw [hwb]; exact bnew (Below.refl w.heap.size w) _ (Nat.le_refl _)
  have hvr := vr_any P T A B c cb n m xs rows hn hm wb (sx.next hB0) (sr.next hB0)
  have tow : ∀ W, Below wb.heap.size wb W → Below w.heap.size w W := fun W hW => hB0.trans (hW.mono hB0.size)
  have HC : ∀ (W : World) (_ : Below wb.heap.size wb W) (k : Nat) (v : Value), #[Value.int .u64 P, .int .i64 T, .slice A n c, .slice B m cb][k]? = some v → W.cell? ⟨w.heap.size, k, none⟩ = some v := fun W hW k v hv => by
    refine (hW.cell (p := ⟨w.heap.size, k, none⟩) (by show w.heap.size < _; rw [hwb, World.size_alloc]; exact Nat.lt_succ_self _)).trans ?_
    rw [cell_of_row _ w.heap.size k _ 26 (0, 0) (by rw [hwb]; exact World.alloc_heap_new w _)]; exact hv
  have HWB := Lib.hid hwb
  clear hwb
  cases hv : vrB P xs rows with
  | false =>
    rw [hv] at hvr
    clear hv hn hm tow HC
    go_enter Tryz.func3, Tryz.ntmps3
    go_wp2_with fail
    rw [← HWB.out]
    refine hvr.mono ?_
    rintro e w1 ⟨rfl, hb⟩
    have hB1 := hB0.trans (hb.mono hB0.size)
    go_wp2_with fail
    refine (awake10 _).mono ?_
    rintro e w9 ⟨rfl, hb9⟩
    go_wp2
    go_ret
    exact ⟨rfl, hB1.trans (hb9.mono hB1.size)⟩
  | true =>
  rw [hv] at hvr
  obtain ⟨hp, hr, hm8, hl8, hEl, hn8⟩ := vr_is wr wx hv
  have hbd := hp.bd
  clear hv
  cases ha : argI T xs rows with
  | false =>
    have kb := fun W (hW : Below wb.heap.size wb W) => itp_bad P T wT A B c cb n m xs rows hn hm (by omega) (by omega) ha W (sx.next (tow W hW)) (sr.next (tow W hW))
    have kr := fun W (hW : Below wb.heap.size wb W) => rItp_bad P T wT A B c cb n m xs rows hn hm (by omega) (by omega) ha W (sx.next (tow W hW)) (sr.next (tow W hW))
    clear ha hn hm hr hEl hl8 hp
    go_enter Tryz.func3, Tryz.ntmps3
    go_wp2_with fail
    rw [← HWB.out]
    refine hvr.mono ?_
    rintro e w1 ⟨rfl, hb1⟩
    have q0 := HC w1 hb1 0 _ rfl
    have q1 := HC w1 hb1 1 _ rfl
    have q2 := HC w1 hb1 2 _ rfl
    have q3 := HC w1 hb1 3 _ rfl
    go_wp2_with fail
    refine (kb w1 hb1).mono ?_
    rintro e w2 ⟨rfl, hb2⟩
    have hb2' := hb1.trans (hb2.mono hb1.size)
    have r0 := HC w2 hb2' 0 _ rfl
    have r1 := HC w2 hb2' 1 _ rfl
    have r2 := HC w2 hb2' 2 _ rfl
    have r3 := HC w2 hb2' 3 _ rfl
    clear q0 q1 q2 q3
    go_wp2_with fail
    refine (kr w2 hb2').mono ?_
    rintro e w3 ⟨rfl, hb3⟩
    have hb3' := hb2'.trans (hb3.mono hb2'.size)
    clear r0 r1 r2 r3 kb kr
    go_wp2_with fail
    refine (awake10 _).mono ?_
    rintro e w4 ⟨rfl, hb4⟩
    have hb4' := hb3'.trans (hb4.mono hb3'.size)
    go_wp2_with fail
    refine (sameM_b none none [] 0 0 w4 (Sll.nothing _) (Sll.nothing _) (sz22 _ (by decide) (by decide))).mono ?_
    rintro e w5 ⟨rfl, hb5⟩
    have HF := Lib.hid (tow w5 (hb4'.trans (hb5.mono hb4'.size)))
    go_wp2
    go_ret
    exact ⟨rfl, HF.out⟩
  | true =>
  obtain ⟨hT0, hTm, hlen, hnd, hrl'⟩ : 0 ≤ T ∧ T < rows.length ∧ rows.length = xs.length ∧ xs.Nodup ∧ ∀ i, i < rows.length → ((ro rows i).length : Int) = T + 1 := by unfold argI at ha; exact of_decide_eq_true ha
  obtain ⟨t, rfl⟩ : ∃ t : Nat, T = t := ⟨T.toNat, by omega⟩
  obtain rfl : m = n := by omega
  have hrl : ∀ i, i < m → (ro rows i).length = t + 1 := fun i hi => by have := hrl' i (by omega); omega
  have htm : t < m := by omega
  have hF := itp_fit hp hn hm htm hEl hnd hr
  have kb := fun W (hW : Below wb.heap.size wb W) => itp_ok P hp t A B c cb m xs rows hn hm (by omega) htm hEl hnd hr hrl W (sx.next (tow W hW)) (sr.next (tow W hW))
  have kr := fun W (hW : Below wb.heap.size wb W) => rItp_ok P hp t A B c cb m xs rows hn hm (by omega) htm hEl hnd hr hrl W (sx.next (tow W hW)) (sr.next (tow W hW))
  have hz : Sized (fitL P (xs.take (t + 1)) (rows.take (t + 1)) (t + 1)) := hF.mat.sized (by omega) (by omega)
  have hlC := hF.mat.rows
  have hsm := fun (A1 A2 : Option Addr) (c1 c2 : Nat) (W : World) s1 s2 => sameM_b A1 A2 (fitL P (xs.take (t + 1)) (rows.take (t + 1)) (t + 1)) c1 c2 W s1 s2 hz
  rw [hlC] at hsm
  generalize Fits P xs rows (t + 1) m (fitL P (xs.take (t + 1)) (rows.take (t + 1)) (t + 1)) = ok at kb kr
  generalize fitL P (xs.take (t + 1)) (rows.take (t + 1)) (t + 1) = C at kb kr hsm
  clear hn hm hr hrl hl8 hrl' hlen ha hEl hnd hT0 hTm hF hz hlC
  go_enter Tryz.func3, Tryz.ntmps3
  go_wp2_with fail
  rw [← HWB.out]
  refine hvr.mono ?_
  rintro e w1 ⟨rfl, hb1⟩
  have q0 := HC w1 hb1 0 _ rfl
  have q1 := HC w1 hb1 1 _ rfl
  have q2 := HC w1 hb1 2 _ rfl
  have q3 := HC w1 hb1 3 _ rfl
  clear hvr HWB
  go_wp2_with fail
  refine (kb w1 hb1).mono ?_
  rintro e w2 (⟨hok, A2, c2, rfl, hs2, hb2⟩ | ⟨hno, rfl, hb2⟩)
  all_goals
    have hb2' := hb1.trans (hb2.mono hb1.size)
    have r0 := HC w2 hb2' 0 _ rfl
    have r1 := HC w2 hb2' 1 _ rfl
    have r2 := HC w2 hb2' 2 _ rfl
    have r3 := HC w2 hb2' 3 _ rfl
    clear q0 q1 q2 q3
    go_wp2_with fail
    refine (kr w2 hb2').mono ?_
  · rintro e w3 (⟨_, A3, c3, rfl, hs3, hb3⟩ | ⟨hno, _⟩)
    · have hb3' := hb2'.trans (hb3.mono hb2'.size)
      have hs2' := hs2.next hb3
      clear r0 r1 r2 r3 kb kr hs2
      go_wp2_with fail
      refine (awake10 _).mono ?_
      rintro e w4 ⟨rfl, hb4⟩
      have hb4' := hb3'.trans (hb4.mono hb3'.size)
      go_wp2_with fail
      refine (hsm A2 A3 c2 c3 w4 (hs2'.next hb4) (hs3.next hb4)).mono ?_
      rintro e w5 ⟨rfl, hb5⟩
      have HF := Lib.hid (tow w5 (hb4'.trans (hb5.mono hb4'.size)))
      go_wp2
      go_ret
      exact ⟨rfl, HF.out⟩
    · exact absurd hok hno
  · rintro e w3 (⟨hok, _⟩ | ⟨_, rfl, hb3⟩)
    · exact absurd hok hno
    · have hb3' := hb2'.trans (hb3.mono hb2'.size)
      clear r0 r1 r2 r3 kb kr
      go_wp2_with fail
      refine (awake10 _).mono ?_
      rintro e w4 ⟨rfl, hb4⟩
      have hb4' := hb3'.trans (hb4.mono hb3'.size)
      go_wp2_with fail
      refine (sameM_b none none [] 0 0 w4 (Sll.nothing _) (Sll.nothing _) (sz22 _ (by decide) (by decide))).mono ?_
      rintro e w5 ⟨rfl, hb5⟩
      have HF := Lib.hid (tow w5 (hb4'.trans (hb5.mono hb4'.size)))
      go_wp2
      go_ret
      exact ⟨rfl, HF.out⟩

theorem lifted (os : Os) (started : os.Started) (H : Type) (enc : TypeId × Value → H) :
    ReturnsInHanded {} Tryz.checked os 3 .any (Rows.bivariateInterpolateSpec.pre6 enc Tryz.prog Tryz.f3 Rows.bivariateInterpolateRow.domain false) (Rows.bivariateInterpolateSpec.post enc Tryz.prog Tryz.f3 false true false false) := by
  refine returnsInHanded_of_change (C := Tryz.checked) own started (by kernel_rfl) Tryz.func3
    (ChangeSpec.witness6 (enc := enc) (C := Tryz.checked) false ⟨#[], #[.agg #[.int .u64 0, .int .i64 0, .slice none 0 0, .slice none 0 0]], []⟩ 8 (by kernel_rfl) (by kernel_rfl) (by kernel_rfl) (by kernel_rfl)) ?_
  intro W base args ds gs before hval0 hW hcnd _
  have hval : ∀ (j : Nat) t v, Tryz.f3.params[j]? = some t → args[j]? = some v → Value.okWide Tryz.prog W .any base t v := hval0
  have hW' := hW
  obtain ⟨p, q, hA0, hV, rfl, hfz, hnd⟩ := hW
  have hA : DataW.TrodAll enc Tryz.prog W 0 (fun _ => true) true Tryz.f3.params.toList args.toList ds p := hA0
  rw [Tryz.params3] at hA hval
  obtain ⟨v0, d0, rfl, rfl, t0⟩ := trodAll_one hA
  obtain ⟨rfl, rfl⟩ := trodVars_none hV
  clear hA0 hval0
  simp only [List.append_nil] at hW'
  have l0 : ∀ x ∈ p, x.block < W.heap.size := fun x hx => hW'.lt x (by simp [hx])
  obtain ⟨x0, y0, A0, u0, c0, B0, v0, k0, rfl, b0, e0, r0, f0, m0, g0⟩ := arg_rap (hval 0 26 v0 rfl rfl) t0 l0
  refine (walk x0 y0 A0 c0 u0 B0 k0 v0 b0 e0 f0 g0 W r0 m0).mono fun e W' ⟨he, hb⟩ => ?_
  subst he
  exact ⟨_, rfl, post_of_below (pa := p) (pv := []) hW' (fun _ _ _ => (trodAll_cons_mk (shut_bool Tryz.underlying4 _) trodAll_mk0)) (fun sp hsp => trodAll_mk1 (stay_rap t0 hb l0 sp (fun x hx => hsp x (by simp [hx])))) (fun _ _ => rfl) (by simp)
    hb (ok_one (by kernel_rfl) rfl (okWide_bool_mk Tryz.underlying4 _))⟩

theorem over : Rows.bivariateInterpolateRow.holds Tryz.pinned (OpenSpec.ofChange Rows.bivariateInterpolateSpec) :=
  OpenClaim.holds_of_wide 3 Tryz.f3 rfl rfl rfl rfl rfl rfl rfl ⟨rfl, rfl, rfl, rfl, rfl⟩ rfl rfl rfl rfl rfl (by kernel_rfl) Tryz.func3 (by kernel_rfl)
    (of_decide_eq_true (by kernel_rfl)) (by unfold Func.isWrapper; first | (rw [if_pos (by decide +kernel)]; kernel_rfl) | (rw [if_neg (by decide +kernel)]; exact ⟨rfl, rfl⟩))
    (fun os started H enc _ => lifted os started H enc)

theorem proved : Rows.BivariateInterpolateSaid := over
end Go.Proofs.YtkhiiiggmhncbaaGreat.bivariateInterpolate
