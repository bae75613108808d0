/- BivariateReconstruction: for every input the law returns true and changes nothing that lay. No conditions. -/
import Derived.Test.YtkhiiiggmhncbaaEAwake
import Derived.Test.YtkhiiiggmhncbaaEValid
import Derived.Test.YtkhiiiggmhncbaaERefT
import Derived.Test.YtkhiiiggmhncbaaERec
import Derived.Test.YtkhiiiggmhncbaaEFair
import Derived.Test.YtkhiiiggmhncbaaEOpen
import Derived.Test.YtkhiiiggmhncbaaMB
namespace Go.Proofs.Ytkhiiiggmhncbaa.bivariateReconstruction
set_option maxRecDepth 100000
open Go.ChangeShapes Go.WideShapes Go.ChangeAt Go.RowKit PolyMath FieldMath MatMath

set_option maxHeartbeats 8000000 in
theorem walk (P : Int) (B : Option Addr) (cb : Nat) (S : List (List Int)) (A : Option Addr) (c : Nat) (xs : List Int) (D X : Int) (Aq : Option Addr) (cq : Nat) (q : List Int) (_wP : Wd P) (wD : Wd D) (wX : Wd X) (wS : ∀ r ∈ S, Words r) (wx : Words xs) (wq : Words q) (w : World) (sS : Sll w B cb S) (sx : Sl w A c xs) (sq : Sl w Aq cq q) : Calls Try.prog 11 #[.agg #[.int .u64 P, .slice B S.length cb, .slice A xs.length c, .int .u64 D, .int .u64 X], .slice Aq q.length cq] w fun e w' => e = .returned (.bool true) ∧ Below w.heap.size w w' := by
  obtain ⟨n, hn⟩ : ∃ n, S.length = n := ⟨_, rfl⟩
  obtain ⟨m, hm⟩ : ∃ m, xs.length = m := ⟨_, rfl⟩
  rw [hn, hm]
  obtain ⟨wb, hwb⟩ : ∃ wb : World, wb = w.alloc (.cells #[.int .u64 P, .slice B n cb, .slice A m c, .int .u64 D, .int .u64 X] 43) := ⟨_, rfl⟩
  have hB0 : Below w.heap.size w wb := by rw [hwb]; exact bnew (Below.refl w.heap.size w) _ (Nat.le_refl _)
  have hvt := vt_any P D X A B c cb n m xs S hm hn wb (sx.next hB0) (sS.next hB0)
  have tow : ∀ W, Below wb.heap.size wb W → Below w.heap.size w W := fun W hW => hB0.trans (hW.mono hB0.size)
  have HC : ∀ (W : World) (_ : Below wb.heap.size wb W) (k : Nat) (v : Value), #[Value.int .u64 P, .slice B n cb, .slice A m c, .int .u64 D, .int .u64 X][k]? = some v → W.cell? ⟨w.heap.size, k, none⟩ = some v := fun W hW k v hv => by
    refine (hW.cell (p := ⟨w.heap.size, k, none⟩) (by show w.heap.size < _; rw [hwb, World.size_alloc]; exact Nat.lt_succ_self _)).trans ?_
    rw [cell_of_row _ w.heap.size k _ 43 (0, 0) (by rw [hwb]; exact World.alloc_heap_new w _)]; exact hv
  have HWB := Lib.hid hwb
  clear hwb
  cases hv : vtB P S xs D X with
  | false =>
    rw [hv] at hvt
    clear hv hn hm tow HC
    go_enter Try.func11, Try.ntmps11
    go_wp2_with fail
    rw [← HWB.out]
    refine hvt.mono ?_
    rintro e w1 ⟨rfl, hb⟩
    have hB1 := hB0.trans (hb.mono hB0.size)
    go_wp2_with fail
    refine (awake10 _).mono ?_
    rintro e w9 ⟨rfl, hb9⟩
    go_wp2
    go_ret
    exact ⟨rfl, hB1.trans (hb9.mono hB1.size)⟩
  | true =>
  rw [hv] at hvt
  have hV := vt_is wS wx wD wX hv hn
  have hp := hV.ok
  have hbd := hp.bd
  obtain rfl : n = m + 1 := by have := hV.len; omega
  have hM := hV.mat
  have hm6 : m + 1 ≤ 6 := hV.le
  have HM := Lib.hid hm
  clear hv hn
  have sH : ∀ W, Below wb.heap.size wb W → Sl W Aq cq q := fun W hW => sq.next (tow W hW)
  obtain ⟨o, ho⟩ : ∃ o, q.length = o := ⟨_, rfl⟩
  rw [ho]
  have kf := fun W (hW : Below wb.heap.size wb W) => below_any6 P Aq cq 6 q (by decide) W (sH W hW)
  rw [ho] at kf
  cases hf : belB P q 6 with
  | false =>
    simp only [hf] at kf
    clear ho hf hM hp hV
    go_enter Try.func11, Try.ntmps11
    go_wp2_with fail
    rw [← HWB.out]
    refine hvt.mono ?_
    rintro e w1 ⟨rfl, hb1⟩
    have q0 := HC w1 hb1 0 _ rfl
    go_wp2_with fail
    refine (kf w1 hb1).mono ?_
    rintro e w2 ⟨rfl, rfl⟩
    have hB2 := tow _ hb1
    go_wp2_with fail
    refine (awake10 _).mono ?_
    rintro e w9 ⟨rfl, hb9⟩
    go_wp2
    go_ret
    exact ⟨rfl, hB2.trans (hb9.mono hB2.size)⟩
  | true =>
  simp only [hf] at kf
  obtain ⟨hEl, ho6⟩ := bel_is wq hf
  clear hf
  by_cases hne : o = m + 1
  rotate_left
  · have hn1 : ((o : Int) != ((m + 1 : Nat) : Int)) = true := bne_iff_ne.2 (by omega)
    have hn2 : ¬ (o : Int) = ((m + 1 : Nat) : Int) := by omega
    clear ho hM hp hV hne
    obtain ⟨nn, hnn⟩ : ∃ nn, m + 1 = nn := ⟨_, rfl⟩
    rw [hnn] at hvt HC hn1 hn2 HWB ⊢
    clear hnn
    go_enter Try.func11, Try.ntmps11
    go_wp2_with fail
    rw [← HWB.out]
    refine hvt.mono ?_
    rintro e w1 ⟨rfl, hb1⟩
    have q0 := HC w1 hb1 0 _ rfl
    have q1 := HC w1 hb1 1 _ rfl
    go_wp2_with fail
    refine (kf w1 hb1).mono ?_
    rintro e w2 ⟨rfl, rfl⟩
    have hB2 := tow _ hb1
    go_wp2_with fail
    refine (awake10 _).mono ?_
    rintro e w9 ⟨rfl, hb9⟩
    go_wp2
    go_ret
    exact ⟨rfl, hB2.trans (hb9.mono hB2.size)⟩
  subst hne
  have ky := fun W (hW : Below wb.heap.size wb W) => unlike10_any Aq cq q W (sH W hW) (by omega)
  rw [ho] at ky
  by_cases hs : q.Nodup
  rotate_left
  · simp only [decide_eq_false hs] at ky
    clear ho hM hp hV hs
    go_enter Try.func11, Try.ntmps11
    go_wp2_with fail
    rw [← HWB.out]
    refine hvt.mono ?_
    rintro e w1 ⟨rfl, hb1⟩
    have q0 := HC w1 hb1 0 _ rfl
    have q1 := HC w1 hb1 1 _ rfl
    go_wp2_with fail
    refine (kf w1 hb1).mono ?_
    rintro e w2 ⟨rfl, rfl⟩
    go_wp2_with fail
    refine (ky _ hb1).mono ?_
    rintro e w3 ⟨rfl, kk, hkk⟩
    have hb3' : Below wb.heap.size wb w3 := by rw [hkk]; exact below_drewN hb1 kk
    clear hkk
    have hB3 := tow w3 hb3'
    go_wp2_with fail
    refine (awake10 _).mono ?_
    rintro e w9 ⟨rfl, hb9⟩
    go_wp2
    go_ret
    exact ⟨rfl, hB3.trans (hb9.mono hB3.size)⟩
  simp only [decide_eq_true hs] at ky
  obtain ⟨j0, hj, hy0, hy1, hy2⟩ := info_parts info_sl
  obtain ⟨f, hfe⟩ : ∃ f : Nat → List Int, f = fun i => brow P S (co q i) := ⟨_, rfl⟩
  have hl : ∀ i, (f i).length = m + 1 := fun i => by rw [hfe, brow_len, hM.rows]
  have v7 := fun (x : Int) (hx : 0 ≤ x ∧ x < P) W (hW : Below wb.heap.size wb W) => row_any P x hp hx B cb (m + 1) S hM.rows (by omega) hM.els W (sS.next (tow W hW))
  have v8 := fun (A1 : Option Addr) (c1 : Nat) W (hW : Below wb.heap.size wb W) (s1 : Sll W A1 c1 ((List.range (m + 1)).map f)) => rec_any P hp m Aq A1 cq c1 q S hM hV.sym ho (by omega) hEl hs W (sH W hW) (by rw [hfe] at s1; exact s1)
  have v9 := fun (A1 : Option Addr) (c1 : Nat) W (hW : Below wb.heap.size wb W) (s1 : Sll W A1 c1 S) => sameM_b A1 B S c1 cb W s1 (sS.next (tow W hW)) (hM.sized (by omega) (by omega))
  simp only [hM.rows] at v9
  have HFE := fun (i : Nat) (x : Int) (hx : co q i = x) => (show brow P S x = f i by rw [hfe, ← hx])
  have HQ := Lib.hid ho
  have HEl := Lib.hid hEl
  have HL := Lib.hid hl
  clear hM hV hs ho hEl hl hfe
  go_enter Try.func11, Try.ntmps11
  go_wp2_with fail
  rw [← HWB.out]
  refine hvt.mono ?_
  rintro e w1 ⟨rfl, hb1⟩
  have q0 := HC w1 hb1 0 _ rfl
  have q1 := HC w1 hb1 1 _ rfl
  go_wp2_with fail
  refine (kf w1 hb1).mono ?_
  rintro e w2 ⟨rfl, rfl⟩
  go_wp2_with fail
  refine (ky _ hb1).mono ?_
  rintro e w3 ⟨rfl, kk, hkk⟩
  have hb3' : Below wb.heap.size wb w3 := by rw [hkk]; exact below_drewN hb1 kk
  clear hvt HWB kf ky hb1 q0 q1 hkk
  go_wp2
  go_loopw [5, 6] (fun v i wr => ∃ k : Nat, k ≤ m + 1 ∧ i = .int .i64 k ∧ LOwn w3.heap.size wr v ((List.range k).map f) ∧ Below w3.heap.size w3 wr) (fun _ i _ => m + 1 - (intOf i).toNat)
  case atStart => exact ⟨0, Nat.zero_le _, rfl, LOwn.none _ _, Below.refl _ _⟩
  case round =>
    obtain ⟨k, hk, rfl, hL, hBr⟩ := hrel
    have hsz := hBr.size
    have hbr' := hb3'.trans (hBr.mono hb3'.size)
    by_cases hlt : k < m + 1
    · obtain ⟨bx, ox, x, hA, hbx, hxk, hcx⟩ := (sH wb (Below.refl _ _)).at_ (k := k) (by rw [HQ.out]; exact hlt)
      subst hA
      have hxb := HEl.out x (List.mem_of_getElem? hxk)
      have hfk := HFE k x (co_at hxk)
      have hkm : (k : Int) < ((m + 1 : Nat) : Int) := by omega
      have HS : ∀ W, Below wb.heap.size wb W → W.cell? ⟨w.heap.size, 0, none⟩ = some (.int .u64 P) ∧ W.cell? ⟨w.heap.size, 1, none⟩ = some (.slice B (m + 1) cb) ∧ W.cell? ⟨bx, ox + k, none⟩ = some (.int .u64 x) := fun W hW => ⟨HC W hW 0 _ rfl, HC W hW 1 _ rfl, (hW.cell (p := ⟨bx, ox + k, none⟩) hbx).trans hcx⟩
      obtain ⟨d0, d1, d2⟩ := HS wr hbr'
      have f2 := v7 x hxb wr.drew hbr'.drew
      rw [hfk] at f2
      have hLc := hL
      obtain ⟨vs0, hrow0, _⟩ := hLc
      obtain ⟨Av, cv, hv⟩ := row_form hrow0
      rw [rows_len] at hv
      subst hv
      clear hrow0
      have hLs := fun (g7 : Nat) (w7 : World) (hb7 : Below wr.heap.size wr w7) (hO : OwnAt w7 wr.drew.heap.size g7 (m + 1) (m + 1) (f k)) => lown_step hL (rows_len f k) hb7 hO
      have HLS := Lib.hid hLs
      have HNX := Lib.hid (rows_next f k)
      clear hLs hxk hcx v7 v8 v9 hfk
      go_wp2_with fail
      go_region_held3 (fun w' => w'.cell? ⟨w.heap.size, 0, none⟩ = some (.int .u64 P) ∧ w'.cell? ⟨w.heap.size, 1, none⟩ = some (.slice B (m + 1) cb) ∧ w'.cell? ⟨bx, ox + k, none⟩ = some (.int .u64 x))
        (first | (refine ⟨?_, ?_, ?_⟩ <;> assumption) | exact ⟨d0, d1, d2⟩ | exact HS _ hB8)
        (first | (go_at_call 20; (with_reducible refine f2.mono ?_); rintro e w7 ⟨g7, rfl, hO7, hb7'⟩; have hb7 : Below wr.heap.size wr w7 := (Below.refl _ wr).drew.trans (hb7'.mono (Nat.le_refl _)); have hK7 := hbr'.trans (hb7.mono hbr'.size); obtain ⟨e0, e1, e2⟩ := HS w7 hK7; obtain ⟨vs, h1, h2⟩ := HLS.out g7 w7 hb7 hO7; have H1 := Lib.hid h1; have H2 := Lib.hid h2; have hB3 := hBr.trans (hb7.mono hsz); have hz3 := hB3.size; have hB8 := bnew hK7 (.cells #[.slice (some ⟨g7, 0, none⟩) (m + 1) (m + 1)] 22) (Nat.le_refl _); obtain ⟨u0, u1, u2⟩ := HS _ hB8; clear h1 h2 hb7' hO7) | (refine step_append_own _ (by rfl) _ _ _ (by rfl) w3.heap.size 22 j0 _ 1 24 Try.underlying24 hj hy0 hy1 hy2 rfl (by omega) _ k _ (by rfl) H1.out ⟨w7.heap.size, 0, none⟩ 1 1 [.slice (some ⟨g7, 0, none⟩) (m + 1) (m + 1)] (by rfl) (by rfl) (cell_one_new _ _ _) (by simp [Value.oneCell']) (by simp only [maxLen]; omega) (by omega) (by first | omega | (simp; done) | (simp; omega)) ?_; intro v9 w9 hown9 hgrow9; have hB9 : Below w3.heap.size w3 w9 := (bnew hB3 (.cells #[.slice (some ⟨g7, 0, none⟩) (m + 1) (m + 1)] 22) (Nat.le_refl _)).grown hgrow9 (by first | omega | (simp; done) | (simp; omega)) (fun x e => (World.ownsRow.lt H1.out x e).1); have HO9 := Lib.hid (H2.out v9 w9 hown9 hgrow9); obtain ⟨y0, y1, y2⟩ := HS w9 (hb3'.trans (hB9.mono hb3'.size)); obtain ⟨A9, c9, hv9⟩ := row_form hown9; subst hv9; clear hown9 hgrow9))
      all_goals
        have hLL := HO9.out
        rw [← HNX.out] at hLL
        go_wp2
        go_roundw
        case rel => exact ⟨k + 1, by omega, by simp, hLL, hB9⟩
        case measure => simp [intOf]; omega
    · obtain rfl : k = m + 1 := by omega
      obtain ⟨A2, c2, hv, hs2⟩ := hL.form
      rw [rows_len] at hv
      subst hv
      obtain ⟨d0, d1⟩ : wr.cell? ⟨w.heap.size, 0, none⟩ = some (.int .u64 P) ∧ wr.cell? ⟨w.heap.size, 1, none⟩ = some (.slice B (m + 1) cb) := ⟨HC wr hbr' 0 _ rfl, HC wr hbr' 1 _ rfl⟩
      have k8 := v8 A2 c2 wr hbr' hs2
      clear v7 v8 HFE hL
      go_wp2_with fail
      refine k8.mono ?_
      rintro e w4 ⟨A4, c4, rfl, hs4, hb4⟩
      have hb4' := hbr'.trans (hb4.mono hbr'.size)
      go_wp2_with fail
      refine (awake10 _).mono ?_
      rintro e w5 ⟨rfl, hb5⟩
      have hb5' := hb4'.trans (hb5.mono hb4'.size)
      have d5 := HC w5 hb5' 1 _ rfl
      go_wp2_with fail
      refine (v9 A4 c4 w5 hb5' (hs4.next hb5)).mono ?_
      rintro e w6 ⟨rfl, hb6⟩
      have HF := Lib.hid (tow w6 (hb5'.trans (hb6.mono hb5'.size)))
      clear v9
      go_wp2
      go_ret
      exact ⟨rfl, HF.out⟩

theorem lifted (os : Os) (started : os.Started) (H : Type) (enc : TypeId × Value → H) :
    ReturnsInHanded {} Try.checked os 11 .any (Rows.bivariateReconstructionSpec.pre6 enc Try.prog Try.f11 Rows.bivariateReconstructionRow.domain false) (Rows.bivariateReconstructionSpec.post enc Try.prog Try.f11 false true false false) := by
  refine returnsInHanded_of_change (C := Try.checked) own started (by kernel_rfl) Try.func11
    (ChangeSpec.witness6 (enc := enc) (C := Try.checked) false ⟨#[], #[.agg #[.int .u64 0, .slice none 0 0, .slice none 0 0, .int .u64 0, .int .u64 0], .slice none 0 0], []⟩ 8 (by kernel_rfl) (by kernel_rfl) (by kernel_rfl) (by kernel_rfl)) ?_
  intro W base args ds gs before hval0 hW hcnd _
  have hval : ∀ (j : Nat) t v, Try.f11.params[j]? = some t → args[j]? = some v → Value.okWide Try.prog W .any base t v := hval0
  have hW' := hW
  obtain ⟨p, q, hA0, hV, rfl, hfz, hnd⟩ := hW
  have hA : DataW.TrodAll enc Try.prog W 0 (fun _ => true) true Try.f11.params.toList args.toList ds p := hA0
  rw [Try.params11] at hA hval
  obtain ⟨v0, v1, d0, d1, p0, p1, rfl, rfl, rfl, t0, t1⟩ := trodAll_two hA
  obtain ⟨rfl, rfl⟩ := trodVars_none hV
  clear hA0 hval0
  simp only [List.append_nil] at hW'
  have l0 : ∀ x ∈ p0, x.block < W.heap.size := fun x hx => hW'.lt x (by simp [hx])
  obtain ⟨x0, B0, u0, k0, A0, v0, c0, y0, z0, rfl, b0, e0, f0, r0, g0, m0, h0⟩ := arg_trc (hval 0 43 v0 rfl rfl) t0 l0
  have l1 : ∀ x ∈ p1, x.block < W.heap.size := fun x hx => hW'.lt x (by simp [hx])
  obtain ⟨A1, x1, c1, rfl, r1, b1⟩ := arg_sl (hval 1 22 v1 rfl rfl) t1 l1
  refine (walk x0 B0 k0 u0 A0 c0 v0 y0 z0 A1 c1 x1 b0 e0 f0 g0 h0 b1 W r0 m0 r1).mono fun e W' ⟨he, hb⟩ => ?_
  subst he
  exact ⟨_, rfl, post_of_below (pa := p0 ++ p1) (pv := []) hW' (fun _ _ _ => (trodAll_cons_mk (shut_bool Try.underlying4 _) trodAll_mk0)) (fun sp hsp => trodAll_mk2 (stay_trc t0 hb l0 sp (fun x hx => hsp x (by simp [hx]))) (stays t1 hb l1 sp (fun x hx => hsp x (by simp [hx])))) (fun _ _ => rfl) (by simp)
    hb (ok_one (by kernel_rfl) rfl (okWide_bool_mk Try.underlying4 _))⟩

theorem over : Rows.bivariateReconstructionRow.holds Try.pinned (OpenSpec.ofChange Rows.bivariateReconstructionSpec) :=
  OpenClaim.holds_of_wide 11 Try.f11 rfl rfl rfl rfl rfl rfl rfl ⟨rfl, rfl, rfl, rfl, rfl⟩ rfl rfl rfl rfl rfl (by kernel_rfl) Try.func11 (by kernel_rfl)
    (of_decide_eq_true (by kernel_rfl)) (by unfold Func.isWrapper; first | (rw [if_pos (by decide +kernel)]; kernel_rfl) | (rw [if_neg (by decide +kernel)]; exact ⟨rfl, rfl⟩))
    (fun os started H enc _ => lifted os started H enc)

theorem proved : Rows.BivariateReconstructionSaid := over
end Go.Proofs.Ytkhiiiggmhncbaa.bivariateReconstruction
