/- ShamirFitSecretMatchesReference: for every input the law returns true and changes nothing that lay. No conditions. -/
import Derived.Test.YtddbdjhgmeeakaaWSet
import Derived.Test.YtddbdjhgmeeakaaWOpen
import Derived.Test.YtddbdjhgmeeakaaMB
namespace Go.Proofs.Ytddbdjhgmeeakaa.shamirFitSecretMatchesReference
set_option maxRecDepth 100000
open Go.ChangeShapes Go.WideShapes Go.ChangeAt Go.RowKit PolyMath FieldMath MatMath

set_option maxHeartbeats 4000000 in
theorem walk (p : Int) (t : Int) (B : Option Addr) (cb : Nat) (ps : List (Int × Int)) (s : Int) (_wp : Wd p) (_wt : Wi t) (ws : Wd s) (wps : PWords ps) (w : World) (sp : Pt w B cb ps) : Calls Try.prog 5 #[.int .u64 p, .int .i64 t, .agg #[.slice B ps.length cb, .int .u64 s]] w fun e w' => e = .returned (.bool true) ∧ Below w.heap.size w w' := by
  have hB := bnew (Below.refl w.heap.size w) (.cells #[.slice B ps.length cb, .int .u64 s] 40) (by simp)
  replace sp := sp.next hB
  have k00 : (w.alloc (.cells #[.slice B ps.length cb, .int .u64 s] 40)).cell? ⟨w.heap.size, 0, none⟩ = some (.slice B ps.length cb) := by go_simp
  have k01 : (w.alloc (.cells #[.slice B ps.length cb, .int .u64 s] 40)).cell? ⟨w.heap.size, 1, none⟩ = some (.int .u64 s) := by go_simp
  have hq0 : w.heap.size < (w.alloc (.cells #[.slice B ps.length cb, .int .u64 s] 40)).heap.size := by simp
  go_enter Try.func5, Try.ntmps5
  go_wp2_with fail
  refine (awake9 _).mono ?_
  rintro e w1 ⟨rfl, hb⟩
  replace sp := sp.next hb
  replace k00 := (hb.cell (p := ⟨w.heap.size, 0, none⟩) hq0).trans k00
  replace k01 := (hb.cell (p := ⟨w.heap.size, 1, none⟩) hq0).trans k01
  replace hq0 := Nat.lt_of_lt_of_le hq0 hb.size
  replace hB := hB.trans (hb.mono hB.size)
  clear hb
  have g := fun W => rSupported_any p W
  go_wp2_with fail
  rcases sup_cases p with h0 | ⟨h0, hp⟩
  · rw [h0] at g
    refine (g _).mono ?_
    rintro e w2 ⟨rfl, hb⟩
    replace sp := sp.next hb
    replace k00 := (hb.cell (p := ⟨w.heap.size, 0, none⟩) hq0).trans k00
    replace k01 := (hb.cell (p := ⟨w.heap.size, 1, none⟩) hq0).trans k01
    replace hq0 := Nat.lt_of_lt_of_le hq0 hb.size
    replace hB := hB.trans (hb.mono hB.size)
    clear hb
    go_wp2
    go_ret
    exact ⟨rfl, hB⟩
  rw [h0] at g
  refine (g _).mono ?_
  rintro e w2 ⟨rfl, hb⟩
  replace sp := sp.next hb
  replace k00 := (hb.cell (p := ⟨w.heap.size, 0, none⟩) hq0).trans k00
  replace k01 := (hb.cell (p := ⟨w.heap.size, 1, none⟩) hq0).trans k01
  replace hq0 := Nat.lt_of_lt_of_le hq0 hb.size
  replace hB := hB.trans (hb.mono hB.size)
  clear hb
  clear g
  have hbd := hp.bd
  by_cases h1 : t ≤ 20
  rotate_left
  · have h1' : 20 < t := by omega
    go_wp2
    go_ret
    exact ⟨rfl, hB⟩
  by_cases h2 : ps.length ≤ 12
  rotate_left
  · have h2' : (12 : Int) < ps.length := by omega
    go_wp2
    go_ret
    exact ⟨rfl, hB⟩
  have h2' : (ps.length : Int) ≤ 12 := by omega
  have g := fun W h => points_any p B cb ps W h (by omega)
  go_wp2_with fail
  by_cases h3 : ∀ q ∈ ps, q.1 < p ∧ q.2 < p
  rotate_left
  · rw [decide_eq_false h3] at g
    refine (g _ sp).mono ?_
    rintro e w3 ⟨rfl, rfl⟩
    go_wp2
    go_ret
    exact ⟨rfl, hB⟩
  rw [decide_eq_true h3] at g
  refine (g _ sp).mono ?_
  rintro e w3 ⟨rfl, rfl⟩
  clear g
  by_cases h4 : s < p
  rotate_left
  · have h4' : p ≤ s := by omega
    go_wp2
    go_ret
    exact ⟨rfl, hB⟩
  have hx := px_el wps h3
  have hy := py_el wps h3
  have hs : 0 ≤ s ∧ s < p := ⟨ws.1, h4⟩
  by_cases ht : t < 0
  · have ht2 : t < ps.length := by omega
    go_wp2_with fail
    refine (fit_bad1 p s B cb t ps ht2 _).mono ?_
    rintro e w4 ⟨rfl, hb⟩
    replace sp := sp.next hb
    replace k00 := (hb.cell (p := ⟨w.heap.size, 0, none⟩) hq0).trans k00
    replace k01 := (hb.cell (p := ⟨w.heap.size, 1, none⟩) hq0).trans k01
    replace hq0 := Nat.lt_of_lt_of_le hq0 hb.size
    replace hB := hB.trans (hb.mono hB.size)
    clear hb
    go_wp2_with fail
    refine (rfit_neg p s B cb t ps ht _).mono ?_
    rintro e w5 ⟨rfl, hb⟩
    replace sp := sp.next hb
    replace k00 := (hb.cell (p := ⟨w.heap.size, 0, none⟩) hq0).trans k00
    replace k01 := (hb.cell (p := ⟨w.heap.size, 1, none⟩) hq0).trans k01
    replace hq0 := Nat.lt_of_lt_of_le hq0 hb.size
    replace hB := hB.trans (hb.mono hB.size)
    clear hb
    go_wp2_with fail
    refine (same_b none none [] 0 0 _ (Sl.nothing _) (Sl.nothing _) (by decide)).mono ?_
    rintro e w6 ⟨rfl, hb⟩
    replace sp := sp.next hb
    replace k00 := (hb.cell (p := ⟨w.heap.size, 0, none⟩) hq0).trans k00
    replace k01 := (hb.cell (p := ⟨w.heap.size, 1, none⟩) hq0).trans k01
    replace hq0 := Nat.lt_of_lt_of_le hq0 hb.size
    replace hB := hB.trans (hb.mono hB.size)
    clear hb
    go_wp2
    go_ret
    exact ⟨rfl, hB⟩
  obtain ⟨T, rfl⟩ : ∃ T : Nat, t = T := ⟨t.toNat, by omega⟩
  by_cases hl : T < ps.length
  · have ht2 : (T : Int) < ps.length := by omega
    go_wp2_with fail
    refine (fit_bad1 p s B cb T ps ht2 _).mono ?_
    rintro e w4 ⟨rfl, hb⟩
    replace sp := sp.next hb
    replace k00 := (hb.cell (p := ⟨w.heap.size, 0, none⟩) hq0).trans k00
    replace k01 := (hb.cell (p := ⟨w.heap.size, 1, none⟩) hq0).trans k01
    replace hq0 := Nat.lt_of_lt_of_le hq0 hb.size
    replace hB := hB.trans (hb.mono hB.size)
    clear hb
    go_wp2_with fail
    refine (rfit_bad p s B cb T ps (by omega) (.inr hl) _ sp).mono ?_
    rintro e w5 ⟨rfl, hb⟩
    replace sp := sp.next hb
    replace k00 := (hb.cell (p := ⟨w.heap.size, 0, none⟩) hq0).trans k00
    replace k01 := (hb.cell (p := ⟨w.heap.size, 1, none⟩) hq0).trans k01
    replace hq0 := Nat.lt_of_lt_of_le hq0 hb.size
    replace hB := hB.trans (hb.mono hB.size)
    clear hb
    go_wp2_with fail
    refine (same_b none none [] 0 0 _ (Sl.nothing _) (Sl.nothing _) (by decide)).mono ?_
    rintro e w6 ⟨rfl, hb⟩
    replace sp := sp.next hb
    replace k00 := (hb.cell (p := ⟨w.heap.size, 0, none⟩) hq0).trans k00
    replace k01 := (hb.cell (p := ⟨w.heap.size, 1, none⟩) hq0).trans k01
    replace hq0 := Nat.lt_of_lt_of_le hq0 hb.size
    replace hB := hB.trans (hb.mono hB.size)
    clear hb
    go_wp2
    go_ret
    exact ⟨rfl, hB⟩
  by_cases hsh : Shr ps
  · have hT : (T : Int) < p := by omega
    go_wp2_with fail
    refine (fit_any p s hp hs B cb T ps hx hy (.inl h2) (by omega) (by omega) hsh _ sp).mono ?_
    rintro e w4 ⟨g, rfl, s3, hb⟩
    replace sp := sp.next hb
    replace k00 := (hb.cell (p := ⟨w.heap.size, 0, none⟩) hq0).trans k00
    replace k01 := (hb.cell (p := ⟨w.heap.size, 1, none⟩) hq0).trans k01
    replace hq0 := Nat.lt_of_lt_of_le hq0 hb.size
    replace hB := hB.trans (hb.mono hB.size)
    clear hb
    replace s3 := s3.sl
    go_wp2_with fail
    refine (rfit_any p s hp hs B cb T ps hx hy (by omega) (by omega) hsh _ sp).mono ?_
    rintro e w5 ⟨A4, c4, rfl, s4, hb⟩
    replace sp := sp.next hb
    replace s3 := s3.next hb
    replace k00 := (hb.cell (p := ⟨w.heap.size, 0, none⟩) hq0).trans k00
    replace k01 := (hb.cell (p := ⟨w.heap.size, 1, none⟩) hq0).trans k01
    replace hq0 := Nat.lt_of_lt_of_le hq0 hb.size
    replace hB := hB.trans (hb.mono hB.size)
    clear hb
    have hfl : (fitS p ps T s).length = T + 1 := fit_len hp.good hsh.nodup hsh.zero hx hy (by omega) (by omega) hs
    have hs9 := fun A1 c1 A2 c2 W h h' => same_b A1 A2 (fitS p ps T s) c1 c2 W h h' (by omega)
    rw [hfl] at hs9
    clear hfl
    generalize fitS p ps T s = X at *
    go_wp2_with fail
    refine (hs9 _ _ _ _ _ s3 s4).mono ?_
    rintro e w6 ⟨rfl, hb⟩
    replace sp := sp.next hb
    replace s3 := s3.next hb
    replace k00 := (hb.cell (p := ⟨w.heap.size, 0, none⟩) hq0).trans k00
    replace k01 := (hb.cell (p := ⟨w.heap.size, 1, none⟩) hq0).trans k01
    replace hq0 := Nat.lt_of_lt_of_le hq0 hb.size
    replace hB := hB.trans (hb.mono hB.size)
    clear hb
    go_wp2
    go_ret
    exact ⟨rfl, hB⟩
  · have hT : (T : Int) < p := by omega
    go_wp2_with fail
    refine (fit_bad2 p s B cb T ps (.inl h2) (by omega) (by omega) (by omega) hsh _ sp).mono ?_
    rintro e w4 ⟨rfl, hb⟩
    replace sp := sp.next hb
    replace k00 := (hb.cell (p := ⟨w.heap.size, 0, none⟩) hq0).trans k00
    replace k01 := (hb.cell (p := ⟨w.heap.size, 1, none⟩) hq0).trans k01
    replace hq0 := Nat.lt_of_lt_of_le hq0 hb.size
    replace hB := hB.trans (hb.mono hB.size)
    clear hb
    go_wp2_with fail
    refine (rfit_bad p s B cb T ps (by omega) (.inl hsh) _ sp).mono ?_
    rintro e w5 ⟨rfl, hb⟩
    replace sp := sp.next hb
    replace k00 := (hb.cell (p := ⟨w.heap.size, 0, none⟩) hq0).trans k00
    replace k01 := (hb.cell (p := ⟨w.heap.size, 1, none⟩) hq0).trans k01
    replace hq0 := Nat.lt_of_lt_of_le hq0 hb.size
    replace hB := hB.trans (hb.mono hB.size)
    clear hb
    go_wp2_with fail
    refine (same_b none none [] 0 0 _ (Sl.nothing _) (Sl.nothing _) (by decide)).mono ?_
    rintro e w6 ⟨rfl, hb⟩
    replace sp := sp.next hb
    replace k00 := (hb.cell (p := ⟨w.heap.size, 0, none⟩) hq0).trans k00
    replace k01 := (hb.cell (p := ⟨w.heap.size, 1, none⟩) hq0).trans k01
    replace hq0 := Nat.lt_of_lt_of_le hq0 hb.size
    replace hB := hB.trans (hb.mono hB.size)
    clear hb
    go_wp2
    go_ret
    exact ⟨rfl, hB⟩

theorem lifted (os : Os) (started : os.Started) (H : Type) (enc : TypeId × Value → H) :
    ReturnsInHanded {} Try.checked os 5 .any (Rows.shamirFitSecretMatchesReferenceSpec.pre6 enc Try.prog Try.f5 Rows.shamirFitSecretMatchesReferenceRow.domain false) (Rows.shamirFitSecretMatchesReferenceSpec.post enc Try.prog Try.f5 false true false false) := by
  refine returnsInHanded_of_change (C := Try.checked) own started (by kernel_rfl) Try.func5
    (ChangeSpec.witness6 (enc := enc) (C := Try.checked) false ⟨#[], #[.int .u64 0, .int .i64 0, .agg #[.slice none 0 0, .int .u64 0]], []⟩ 8 (by kernel_rfl) (by kernel_rfl) (by kernel_rfl) (by kernel_rfl)) ?_
  intro W base args ds gs before hval0 hW hcnd _
  have hval : ∀ (j : Nat) t v, Try.f5.params[j]? = some t → args[j]? = some v → Value.okWide Try.prog W .any base t v := hval0
  have hW' := hW
  obtain ⟨p, q, hA0, hV, rfl, hfz, hnd⟩ := hW
  have hA : DataW.TrodAll enc Try.prog W 0 (fun _ => true) true Try.f5.params.toList args.toList ds p := hA0
  rw [Try.params5] at hA hval
  obtain ⟨v0, v1, v2, d0, d1, d2, p0, p1, p2, rfl, rfl, rfl, t0, t1, t2⟩ := trodAll_three hA
  obtain ⟨rfl, rfl⟩ := trodVars_none hV
  clear hA0 hval0
  simp only [List.append_nil] at hW'
  have l0 : ∀ x ∈ p0, x.block < W.heap.size := fun x hx => hW'.lt x (by simp [hx])
  obtain ⟨x0, rfl, b0⟩ := arg_word (hval 0 22 v0 rfl rfl) t0
  have l1 : ∀ x ∈ p1, x.block < W.heap.size := fun x hx => hW'.lt x (by simp [hx])
  obtain ⟨x1, rfl, b1⟩ := arg_int (hval 1 3 v1 rfl rfl) t1
  have l2 : ∀ x ∈ p2, x.block < W.heap.size := fun x hx => hW'.lt x (by simp [hx])
  obtain ⟨B2, x2, c2, z2, rfl, b2, r2, e2⟩ := arg_asked (hval 2 40 v2 rfl rfl) t2 l2
  refine (walk x0 x1 B2 c2 x2 z2 b0 b1 b2 e2 W r2).mono fun e W' ⟨he, hb⟩ => ?_
  subst he
  exact ⟨_, rfl, post_of_below (pa := p0 ++ (p1 ++ p2)) (pv := []) hW' (fun _ _ _ => (trodAll_cons_mk (shut_bool Try.underlying4 _) trodAll_mk0)) (fun sp hsp => trodAll_mk3 (stay_word t0 hb l0 sp (fun x hx => hsp x (by simp [hx]))) (stay_int t1 hb l1 sp (fun x hx => hsp x (by simp [hx]))) (stay_asked t2 hb l2 sp (fun x hx => hsp x (by simp [hx])))) (fun _ _ => rfl) (by simp)
    hb (ok_one (by kernel_rfl) rfl (okWide_bool_mk Try.underlying4 _))⟩

theorem over : Rows.shamirFitSecretMatchesReferenceRow.holds Try.pinned (OpenSpec.ofChange Rows.shamirFitSecretMatchesReferenceSpec) :=
  OpenClaim.holds_of_wide 5 Try.f5 rfl rfl rfl rfl rfl rfl rfl ⟨rfl, rfl, rfl, rfl, rfl⟩ rfl rfl rfl rfl rfl (by kernel_rfl) Try.func5 (by kernel_rfl)
    (of_decide_eq_true (by kernel_rfl)) (by unfold Func.isWrapper; first | (rw [if_pos (by decide +kernel)]; kernel_rfl) | (rw [if_neg (by decide +kernel)]; exact ⟨rfl, rfl⟩))
    (fun os started H enc _ => lifted os started H enc)

theorem proved : Rows.ShamirFitSecretMatchesReferenceSaid := over
end Go.Proofs.Ytddbdjhgmeeakaa.shamirFitSecretMatchesReference
