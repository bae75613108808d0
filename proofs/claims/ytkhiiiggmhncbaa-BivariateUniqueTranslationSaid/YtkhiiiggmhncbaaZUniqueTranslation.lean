/- BivariateUniqueTranslation: for every input the law returns true and changes nothing that lay. No conditions. -/
import Derived.Test.YtkhiiiggmhncbaaEAwake
import Derived.Test.YtkhiiiggmhncbaaEValid
import Derived.Test.YtkhiiiggmhncbaaERefT
import Derived.Test.YtkhiiiggmhncbaaEVan
import Derived.Test.YtkhiiiggmhncbaaEFair
import Derived.Test.YtkhiiiggmhncbaaEOpen
import Derived.Test.YtkhiiiggmhncbaaMB
namespace Go.Proofs.Ytkhiiiggmhncbaa.bivariateUniqueTranslation
set_option maxRecDepth 100000
open Go.ChangeShapes Go.WideShapes Go.ChangeAt Go.RowKit PolyMath FieldMath MatMath

set_option maxHeartbeats 8000000 in
theorem walk (P : Int) (B : Option Addr) (cb : Nat) (S : List (List Int)) (A : Option Addr) (c : Nat) (xs : List Int) (D X : Int) (Aother : Option Addr) (cother : Nat) (other : List (List Int)) (_wP : Wd P) (wD : Wd D) (wX : Wd X) (wS : ∀ r ∈ S, Words r) (wx : Words xs) (wother : ∀ r ∈ other, Words r) (_lother : other.length ≤ 9223372036854775807) (w : World) (sS : Sll w B cb S) (sx : Sl w A c xs) (sother : Sll w Aother cother other) : Calls Try.prog 9 #[.agg #[.int .u64 P, .slice B S.length cb, .slice A xs.length c, .int .u64 D, .int .u64 X], .slice Aother other.length cother] w fun e w' => e = .returned (.bool true) ∧ Below w.heap.size w w' := by
  obtain ⟨n, hn⟩ : ∃ n, S.length = n := ⟨_, rfl⟩
  obtain ⟨m, hm⟩ : ∃ m, xs.length = m := ⟨_, rfl⟩
  rw [hn, hm]
  obtain ⟨wb, hwb⟩ : ∃ wb : World, wb = w.alloc (.cells #[.int .u64 P, .slice B n cb, .slice A m c, .int .u64 D, .int .u64 X] 43) := ⟨_, rfl⟩
  have hB0 : Below w.heap.size w wb := by rw [hwb]; exact bnew (Below.refl w.heap.size w) _ (Nat.le_refl _)
  have hvt := vt_any P D X A B c cb n m xs S hm hn wb (sx.next hB0) (sS.next hB0)
  have tow : ∀ W, Below wb.heap.size wb W → Below w.heap.size w W := fun W hW => hB0.trans (hW.mono hB0.size)
  have HC : ∀ (W : World) (_ : Below wb.heap.size wb W) (k : Nat) (v : Value), #[Value.int .u64 P, .slice B n cb, .slice A m c, .int .u64 D, .int .u64 X][k]? = some v → W.cell? ⟨w.heap.size, k, none⟩ = some v := fun W hW k v hv => by
    refine (hW.cell (p := ⟨w.heap.size, k, none⟩) (by show w.heap.size < _; rw [hwb, World.size_alloc]; exact Nat.lt_succ_self _)).trans ?_
    rw [cell_of_row _ w.heap.size k _ 43 (0, 0) (by rw [hwb]; exact World.alloc_heap_new w _)]; exact hv
  have HWB := Lib.hid hwb
  clear hwb
  cases hv : vtB P S xs D X with
  | false =>
    rw [hv] at hvt
    clear hv hn hm tow HC
    go_enter Try.func9, Try.ntmps9
    go_wp2_with fail
    rw [← HWB.out]
    refine hvt.mono ?_
    rintro e w1 ⟨rfl, hb⟩
    have hB1 := hB0.trans (hb.mono hB0.size)
    go_wp2_with fail
    refine (awake10 _).mono ?_
    rintro e w9 ⟨rfl, hb9⟩
    go_wp2
    go_ret
    exact ⟨rfl, hB1.trans (hb9.mono hB1.size)⟩
  | true =>
  rw [hv] at hvt
  have hV := vt_is wS wx wD wX hv hn
  have hp := hV.ok
  have hbd := hp.bd
  obtain rfl : n = m + 1 := by have := hV.len; omega
  have hM := hV.mat
  have hm6 : m + 1 ≤ 6 := hV.le
  have HM := Lib.hid hm
  clear hv hn
  have sH : ∀ W, Below wb.heap.size wb W → Sll W Aother cother other := fun W hW => sother.next (tow W hW)
  obtain ⟨o, ho⟩ : ∃ o, other.length = o := ⟨_, rfl⟩
  rw [ho]
  have kf := fun W (hW : Below wb.heap.size wb W) => fair10_any P Aother cother 6 o other ho (by decide) W (sH W hW)
  cases hf : fair10B P other 6 with
  | false =>
    simp only [hf] at kf
    clear ho hf hM hp hV
    go_enter Try.func9, Try.ntmps9
    go_wp2_with fail
    rw [← HWB.out]
    refine hvt.mono ?_
    rintro e w1 ⟨rfl, hb1⟩
    have q0 := HC w1 hb1 0 _ rfl
    go_wp2_with fail
    refine (kf w1 hb1).mono ?_
    rintro e w2 ⟨rfl, hb2⟩
    have hB2 := tow w2 (hb1.trans (hb2.mono hb1.size))
    go_wp2_with fail
    refine (awake10 _).mono ?_
    rintro e w9 ⟨rfl, hb9⟩
    go_wp2
    go_ret
    exact ⟨rfl, hB2.trans (hb9.mono hB2.size)⟩
  | true =>
  simp only [hf] at kf
  obtain ⟨_, hO, ho6, ho0⟩ := fair10_is wother hf ho
  clear hf
  by_cases hne : o = m + 1
  rotate_left
  · have hn1 : ((o : Int) != ((m + 1 : Nat) : Int)) = true := bne_iff_ne.2 (by omega)
    have hn2 : ¬ (o : Int) = ((m + 1 : Nat) : Int) := by omega
    clear ho hM hp hV hO hne
    obtain ⟨nn, hnn⟩ : ∃ nn, m + 1 = nn := ⟨_, rfl⟩
    rw [hnn] at hvt HC hn1 hn2 HWB ⊢
    clear hnn
    go_enter Try.func9, Try.ntmps9
    go_wp2_with fail
    rw [← HWB.out]
    refine hvt.mono ?_
    rintro e w1 ⟨rfl, hb1⟩
    have q0 := HC w1 hb1 0 _ rfl
    go_wp2_with fail
    refine (kf w1 hb1).mono ?_
    rintro e w2 ⟨rfl, hb2⟩
    have hb2' := hb1.trans (hb2.mono hb1.size)
    have hB2 := tow w2 hb2'
    have q1 := HC w2 hb2' 1 _ rfl
    go_wp2_with fail
    refine (awake10 _).mono ?_
    rintro e w9 ⟨rfl, hb9⟩
    go_wp2
    go_ret
    exact ⟨rfl, hB2.trans (hb9.mono hB2.size)⟩
  subst hne
  have ky := fun W (hW : Below wb.heap.size wb W) => rSym_any Aother cother other (by omega) W (sH W hW)
  rw [ho] at ky
  cases hs : symB other with
  | false =>
    simp only [hs] at ky
    clear ho hM hp hV hO hs
    go_enter Try.func9, Try.ntmps9
    go_wp2_with fail
    rw [← HWB.out]
    refine hvt.mono ?_
    rintro e w1 ⟨rfl, hb1⟩
    have q0 := HC w1 hb1 0 _ rfl
    go_wp2_with fail
    refine (kf w1 hb1).mono ?_
    rintro e w2 ⟨rfl, hb2⟩
    have hb2' := hb1.trans (hb2.mono hb1.size)
    have q1 := HC w2 hb2' 1 _ rfl
    go_wp2_with fail
    refine (ky w2 hb2').mono ?_
    rintro e w3 ⟨rfl, hb3⟩
    have hb3' := hb2'.trans (hb3.mono hb2'.size)
    have hB3 := tow w3 hb3'
    go_wp2_with fail
    refine (awake10 _).mono ?_
    rintro e w9 ⟨rfl, hb9⟩
    go_wp2
    go_ret
    exact ⟨rfl, hB3.trans (hb9.mono hB3.size)⟩
  | true =>
  simp only [hs] at ky
  have hsO := (symB_iff.1 hs).2
  clear hs
  obtain ⟨Z, hZ⟩ : ∃ Z, vanz P [1] xs = Z := ⟨_, rfl⟩
  have zl : Z.length = m + 1 := by rw [← hZ, vanz_len, HM.out]; simp; omega
  have ze : El P Z := by rw [← hZ]; exact vanz_el (by omega) _ _ (El.one (by omega))
  have v1 := fun W (hW : Below wb.heap.size wb W) => van_any P hp A c m xs hV.nz HM.out (by omega) W (sx.next (tow W hW))
  rw [hZ] at v1
  have hU := trl_unique hp.good hM hO (by omega) hsO hV.sym hV.nd hV.nz (by rw [HM.out])
  rw [hZ, HM.out] at hU
  have hO0 := hO.bd (p := P) (by omega) 0 0
  have hs0 := hM.bd (p := P) (by omega) 0 0
  have v6 := fun (x : Int) (hx : 0 ≤ x ∧ x < P) W (hW : Below wb.heap.size wb W) => row_any P x hp hx Aother cother (m + 1) other hO.rows (by omega) hO.els W (sH W hW)
  have v7 := fun (x : Int) (hx : 0 ≤ x ∧ x < P) W (hW : Below wb.heap.size wb W) => row_any P x hp hx B cb (m + 1) S hM.rows (by omega) hM.els W (sS.next (tow W hW))
  have v8 := fun (x : Int) (g1 g2 : Nat) (W W1 W2 : World) (h1 : OwnAt W W1.heap.size g1 (m + 1) (m + 1) (brow P other x)) (h2 : OwnAt W W2.heap.size g2 (m + 1) (m + 1) (brow P S x)) => (sameL_dec (some ⟨g1, 0, none⟩) (some ⟨g2, 0, none⟩) (m + 1) (m + 1) (m + 1) (m + 1) (brow P other x) (brow P S x) (by rw [brow_len, hO.rows]) (by rw [brow_len, hM.rows]) (by omega) (by omega) W h1.sl h2.sl).mono (R' := fun e w' => e = .returned (.bool (decide (brow P other x = brow P S x))) ∧ Below W.heap.size W w') fun e w' ⟨h, k, hk⟩ => ⟨h, by rw [hk]; exact below_drewN (Below.refl _ _) k⟩
  have v9 := fun (dd : Int) (hd : 0 ≤ dd ∧ dd < P) (A' : Option Addr) (c' : Nat) W (hW : Below wb.heap.size wb W) (hz : Sl W A' c' Z) => trl_any P dd hp hd B A' cb c' (m + 1) S Z hM (by omega) ze W (sS.next (tow W hW)) hz
  have v10 := fun W (hW : Below wb.heap.size wb W) => beval_any P 0 0 hp (by omega) (by omega) Aother cother (m + 1) other hO.rows (by omega) hO.els W (sH W hW)
  have v11 := fun W (hW : Below wb.heap.size wb W) => beval_any P 0 0 hp (by omega) (by omega) B cb (m + 1) S hM.rows (by omega) hM.els W (sS.next (tow W hW))
  have v12 := fun (A1 : Option Addr) (c1 : Nat) W (hW : Below wb.heap.size wb W) (s1 : Sll W A1 c1 other) => sameM_b A1 Aother other c1 cother W s1 (sH W hW) (hO.sized (by omega) (by omega))
  rw [bev_zero (by omega) hO (by omega)] at v10
  rw [bev_zero (by omega) hM (by omega)] at v11
  simp only [zl, hO.rows] at v9 v12
  generalize mx S 0 0 = s0 at *
  generalize mx other 0 0 = o0 at *
  have hEl := Lib.hid hV.el
  have HU := Lib.hid hU
  clear hU hZ hM hO zl ze hV hsO ho ho0 ho6
  go_enter Try.func9, Try.ntmps9
  go_wp2_with fail
  rw [← HWB.out]
  refine hvt.mono ?_
  rintro e w1 ⟨rfl, hb1⟩
  have q0 := HC w1 hb1 0 _ rfl
  go_wp2_with fail
  refine (kf w1 hb1).mono ?_
  rintro e w2 ⟨rfl, hb2⟩
  have hb2' := hb1.trans (hb2.mono hb1.size)
  have q1 := HC w2 hb2' 1 _ rfl
  go_wp2_with fail
  refine (ky w2 hb2').mono ?_
  rintro e w3 ⟨rfl, hb3⟩
  have hb3' := hb2'.trans (hb3.mono hb2'.size)
  have q2 := HC w3 hb3' 2 _ rfl
  clear hvt HWB kf ky hb1 hb2 hb3 hb2' q0 q1
  go_wp2
  go_loopw [5] (fun i wr => ∃ k : Nat, k ≤ m ∧ i = .int .i64 k ∧ Below w3.heap.size w3 wr ∧ Hid (∀ j, j < k → brow P other (co xs j) = brow P S (co xs j))) (fun i _ => m - (intOf i).toNat)
  case atStart => exact ⟨0, Nat.zero_le _, rfl, Below.refl _ _, Lib.hid fun _ h => absurd h (Nat.not_lt_zero _)⟩
  case round =>
    obtain ⟨k, hk, rfl, hBr, hAll⟩ := hrel
    have hbr' := hb3'.trans (hBr.mono hb3'.size)
    have t0 := HC wr hbr' 0 _ rfl
    have t1 := HC wr hbr' 1 _ rfl
    have t2 := HC wr hbr' 2 _ rfl
    by_cases hlt : k < m
    · obtain ⟨bx, ox, x, hA, hbx, hxk, hcx⟩ := sx.at_ (k := k) (by rw [HM.out]; exact hlt)
      subst hA
      have hxb := hEl.out x (List.mem_of_getElem? hxk)
      have hco : co xs k = x := co_at hxk
      have hkm : (k : Int) < m := by omega
      have HS : ∀ W, Below wb.heap.size wb W → W.cell? ⟨w.heap.size, 0, none⟩ = some (.int .u64 P) ∧ W.cell? ⟨w.heap.size, 1, none⟩ = some (.slice B (m + 1) cb) ∧ W.cell? ⟨w.heap.size, 2, none⟩ = some (.slice (some ⟨bx, ox, none⟩) m c) ∧ W.cell? ⟨bx, ox + k, none⟩ = some (.int .u64 x) := fun W hW => ⟨HC W hW 0 _ rfl, HC W hW 1 _ rfl, HC W hW 2 _ rfl, ((tow W hW).cell (p := ⟨bx, ox + k, none⟩) hbx).trans hcx⟩
      obtain ⟨d0, d1, d2, d3⟩ := HS wr hbr'
      have hbd0 : Below wb.heap.size wb wr.drew := hbr'.drew
      have f1 := v6 x hxb wr.drew hbd0
      have f2 := v7 x hxb
      have f3 := v8 x
      have hAll' : Hid (brow P other x = brow P S x → ∀ j, j < k + 1 → brow P other (co xs j) = brow P S (co xs j)) := Lib.hid fun he j hj => by
        by_cases hjk : j < k
        · exact hAll.out j hjk
        · obtain rfl : k = j := by omega
          rw [hco]; exact he
      by_cases hR : brow P other x = brow P S x
      · simp only [decide_eq_true hR] at f3
        have hNew := Lib.hid (hAll'.out hR)
        generalize brow P other x = R1 at f1 f3
        generalize brow P S x = R2 at f2 f3
        clear hxk hcx t0 t1 t2 hR hAll' hAll hco v6 v7 v8 v9 v10 v11 v12 v1 HU
        go_wp2_with fail
        go_region_held3 (fun w' => w'.cell? ⟨w.heap.size, 0, none⟩ = some (.int .u64 P) ∧ w'.cell? ⟨w.heap.size, 1, none⟩ = some (.slice B (m + 1) cb) ∧ w'.cell? ⟨w.heap.size, 2, none⟩ = some (.slice (some ⟨bx, ox, none⟩) m c) ∧ w'.cell? ⟨bx, ox + k, none⟩ = some (.int .u64 x))
          (first | (refine ⟨?_, ?_, ?_, ?_⟩ <;> assumption) | exact ⟨d0, d1, d2, d3⟩)
          (first | (go_at_call 20; (with_reducible refine f1.mono ?_); rintro e w7 ⟨g7, rfl, hO7, hb7'⟩; have hb7 : Below wr.heap.size wr w7 := (Below.refl _ wr).drew.trans (hb7'.mono (Nat.le_refl _)); have hK7 := hbr'.trans (hb7.mono hbr'.size); obtain ⟨e0, e1, e2, e3⟩ := HS w7 hK7; have f2' := f2 w7 hK7; clear hb7') | (go_at_call 20; (with_reducible refine f2'.mono ?_); rintro e w8 ⟨g8, rfl, hO8, hb8⟩; have hO7' := own_below hO7 hb8; have hK8 := hK7.trans (hb8.mono hK7.size); obtain ⟨u0, u1, u2, u3⟩ := HS w8 hK8; have f3' := f3 g7 g8 w8 wr.drew w7 hO7' hO8; have hb78 := hb7.trans (hb8.mono hb7.size); clear hO7' hO7 hO8 hb8) | (go_at_call 19; (with_reducible refine f3'.mono ?_); rintro e w9 ⟨rfl, hb9⟩; have hK9 := hK8.trans (hb9.mono hK8.size); obtain ⟨v0, v1, v2, v3⟩ := HS w9 hK9; have HB9 := Lib.hid (hBr.trans ((hb78.trans (hb9.mono hb78.size)).mono hBr.size)); clear hb9))
        all_goals
          go_wp2
          go_roundw
          case rel => exact ⟨k + 1, by omega, by simp, HB9.out, hNew⟩
          case measure => simp [intOf]; omega
      · simp only [decide_eq_false hR] at f3
        generalize brow P other x = R1 at f1 f3
        generalize brow P S x = R2 at f2 f3
        clear hxk hcx t0 t1 t2 hR hAll' hAll hco v6 v7 v8 v9 v10 v11 v12 v1 HU
        go_wp2_with fail
        go_region_held3 (fun w' => w'.cell? ⟨w.heap.size, 0, none⟩ = some (.int .u64 P) ∧ w'.cell? ⟨w.heap.size, 1, none⟩ = some (.slice B (m + 1) cb) ∧ w'.cell? ⟨w.heap.size, 2, none⟩ = some (.slice (some ⟨bx, ox, none⟩) m c) ∧ w'.cell? ⟨bx, ox + k, none⟩ = some (.int .u64 x))
          (first | (refine ⟨?_, ?_, ?_, ?_⟩ <;> assumption) | exact ⟨d0, d1, d2, d3⟩)
          (first | (go_at_call 20; (with_reducible refine f1.mono ?_); rintro e w7 ⟨g7, rfl, hO7, hb7'⟩; have hb7 : Below wr.heap.size wr w7 := (Below.refl _ wr).drew.trans (hb7'.mono (Nat.le_refl _)); have hK7 := hbr'.trans (hb7.mono hbr'.size); obtain ⟨e0, e1, e2, e3⟩ := HS w7 hK7; have f2' := f2 w7 hK7; clear hb7') | (go_at_call 20; (with_reducible refine f2'.mono ?_); rintro e w8 ⟨g8, rfl, hO8, hb8⟩; have hO7' := own_below hO7 hb8; have hK8 := hK7.trans (hb8.mono hK7.size); obtain ⟨u0, u1, u2, u3⟩ := HS w8 hK8; have f3' := f3 g7 g8 w8 wr.drew w7 hO7' hO8; have hb78 := hb7.trans (hb8.mono hb7.size); clear hO7' hO7 hO8 hb8) | (go_at_call 19; (with_reducible refine f3'.mono ?_); rintro e w9 ⟨rfl, hb9⟩; have hK9 := hK8.trans (hb9.mono hK8.size); obtain ⟨v0, v1, v2, v3⟩ := HS w9 hK9; have HB9 := Lib.hid (hBr.trans ((hb78.trans (hb9.mono hb78.size)).mono hBr.size)); clear hb9))
        all_goals
          have HF := Lib.hid (tow w9 hK9)
          have hw := awake10 w9
          go_wp2_with fail
          refine (awake10 _).mono ?_
          rintro e w10 ⟨rfl, hb10⟩
          have HF2 := Lib.hid (HF.out.trans (hb10.mono HF.out.size))
          go_wp2
          go_ret
          exact ⟨rfl, HF2.out⟩
    · obtain rfl : m = k := by omega
      have hfin := HU.out hAll.out
      clear v6 v7 v8 hAll HU q2
      have HS : ∀ W, Below wb.heap.size wb W → W.cell? ⟨w.heap.size, 0, none⟩ = some (.int .u64 P) ∧ W.cell? ⟨w.heap.size, 1, none⟩ = some (.slice B (m + 1) cb) ∧ W.cell? ⟨w.heap.size, 2, none⟩ = some (.slice A m c) := fun W hW => ⟨HC W hW 0 _ rfl, HC W hW 1 _ rfl, HC W hW 2 _ rfl⟩
      have ds := sub_any P o0 s0 hp hO0.1 hO0.2 hs0.1 hs0.2
      have hdb := fsub_bd P o0 s0 (by omega)
      have v9' := v9 _ hdb
      simp only [hfin] at v9'
      clear v9 hfin
      generalize fsub P o0 s0 = dd at ds v9' hdb
      have e1 := v10 wr.drew hbr'.drew
      go_wp2_with fail
      go_region_held3 (fun w' => w'.cell? ⟨w.heap.size, 0, none⟩ = some (.int .u64 P) ∧ w'.cell? ⟨w.heap.size, 1, none⟩ = some (.slice B (m + 1) cb))
        (first | (refine ⟨?_, ?_⟩ <;> assumption) | exact ⟨t0, t1⟩)
        (first | (go_at_call 34; (with_reducible refine (ds _).mono ?_); rintro e w' ⟨rfl, rfl⟩) | (go_at_call 22; (with_reducible refine e1.mono ?_); rintro e w7 ⟨rfl, hb7'⟩; have hb7 : Below wr.heap.size wr w7 := (Below.refl _ wr).drew.trans (hb7'.mono (Nat.le_refl _)); have hK7 := hbr'.trans (hb7.mono hbr'.size); obtain ⟨u0, u1, u2⟩ := HS w7 hK7; have e2 := v11 w7 hK7; clear hb7') | (go_at_call 22; (with_reducible refine e2.mono ?_); rintro e w8 ⟨rfl, hb8⟩; have hK8 := hK7.trans (hb8.mono hK7.size); obtain ⟨x0, x1, x2⟩ := HS w8 hK8; clear hb8))
      all_goals
        obtain ⟨d0, d1, d2⟩ := HS w8 hK8
        have aw := awake10 w8.drew
        clear t0 t1 t2 u0 u1 u2 x0 x1 x2 e1 e2 ds v10 v11
        go_wp2_with fail
        go_region_held3 (fun w' => w'.cell? ⟨w.heap.size, 0, none⟩ = some (.int .u64 P) ∧ w'.cell? ⟨w.heap.size, 1, none⟩ = some (.slice B (m + 1) cb) ∧ w'.cell? ⟨w.heap.size, 2, none⟩ = some (.slice A m c))
          (first | (refine ⟨?_, ?_, ?_⟩ <;> assumption) | exact ⟨d0, d1, d2⟩)
          (first | (go_at_call 12; (with_reducible refine aw.mono ?_); rintro e w9 ⟨rfl, hb9'⟩; have hb9 : Below w8.heap.size w8 w9 := (Below.refl _ w8).drew.trans (hb9'.mono (Nat.le_refl _)); have hK9 := hK8.trans (hb9.mono hK8.size); obtain ⟨g0, g1, g2⟩ := HS w9 hK9; have a1 := v1 w9 hK9; clear hb9 hb9') | (go_at_call 29; (with_reducible refine a1.mono ?_); rintro e w10 ⟨A10, c10, rfl, hZ10, hb10⟩; have hK10 := hK9.trans (hb10.mono hK9.size); obtain ⟨h0, h1, h2⟩ := HS w10 hK10; have a2 := v9' A10 c10 w10 hK10 hZ10; clear hb10) | (go_at_call 30; (with_reducible refine a2.mono ?_); rintro e w11 ⟨A11, c11, rfl, hS11, hb11⟩; have hK11 := hK10.trans (hb11.mono hK10.size); obtain ⟨i0, i1, i2⟩ := HS w11 hK11; have a3 := v12 A11 c11 w11 hK11 hS11; clear hb11) | (go_at_call 15; (with_reducible refine a3.mono ?_); rintro e w12 ⟨rfl, hb12⟩; have hK12 := hK11.trans (hb12.mono hK11.size); obtain ⟨j0, j1, j2⟩ := HS w12 hK12; have HF := Lib.hid (tow w12 hK12); clear hb12))
        all_goals
          go_wp2
          go_ret
          exact ⟨rfl, HF.out⟩

theorem lifted (os : Os) (started : os.Started) (H : Type) (enc : TypeId × Value → H) :
    ReturnsInHanded {} Try.checked os 9 .any (Rows.bivariateUniqueTranslationSpec.pre6 enc Try.prog Try.f9 Rows.bivariateUniqueTranslationRow.domain false) (Rows.bivariateUniqueTranslationSpec.post enc Try.prog Try.f9 false true false false) := by
  refine returnsInHanded_of_change (C := Try.checked) own started (by kernel_rfl) Try.func9
    (ChangeSpec.witness6 (enc := enc) (C := Try.checked) false ⟨#[], #[.agg #[.int .u64 0, .slice none 0 0, .slice none 0 0, .int .u64 0, .int .u64 0], .slice none 0 0], []⟩ 8 (by kernel_rfl) (by kernel_rfl) (by kernel_rfl) (by kernel_rfl)) ?_
  intro W base args ds gs before hval0 hW hcnd _
  have hval : ∀ (j : Nat) t v, Try.f9.params[j]? = some t → args[j]? = some v → Value.okWide Try.prog W .any base t v := hval0
  have hW' := hW
  obtain ⟨p, q, hA0, hV, rfl, hfz, hnd⟩ := hW
  have hA : DataW.TrodAll enc Try.prog W 0 (fun _ => true) true Try.f9.params.toList args.toList ds p := hA0
  rw [Try.params9] at hA hval
  obtain ⟨v0, v1, d0, d1, p0, p1, rfl, rfl, rfl, t0, t1⟩ := trodAll_two hA
  obtain ⟨rfl, rfl⟩ := trodVars_none hV
  clear hA0 hval0
  simp only [List.append_nil] at hW'
  have l0 : ∀ x ∈ p0, x.block < W.heap.size := fun x hx => hW'.lt x (by simp [hx])
  obtain ⟨x0, B0, u0, k0, A0, v0, c0, y0, z0, rfl, b0, e0, f0, r0, g0, m0, h0⟩ := arg_trc (hval 0 43 v0 rfl rfl) t0 l0
  have l1 : ∀ x ∈ p1, x.block < W.heap.size := fun x hx => hW'.lt x (by simp [hx])
  obtain ⟨A1, x1, c1, rfl, r1, b1, e1⟩ := arg_ll (hval 1 24 v1 rfl rfl) t1 l1
  refine (walk x0 B0 k0 u0 A0 c0 v0 y0 z0 A1 c1 x1 b0 e0 f0 g0 h0 b1 e1 W r0 m0 r1).mono fun e W' ⟨he, hb⟩ => ?_
  subst he
  exact ⟨_, rfl, post_of_below (pa := p0 ++ p1) (pv := []) hW' (fun _ _ _ => (trodAll_cons_mk (shut_bool Try.underlying4 _) trodAll_mk0)) (fun sp hsp => trodAll_mk2 (stay_trc t0 hb l0 sp (fun x hx => hsp x (by simp [hx]))) (stay_ll t1 hb l1 sp (fun x hx => hsp x (by simp [hx])))) (fun _ _ => rfl) (by simp)
    hb (ok_one (by kernel_rfl) rfl (okWide_bool_mk Try.underlying4 _))⟩

theorem over : Rows.bivariateUniqueTranslationRow.holds Try.pinned (OpenSpec.ofChange Rows.bivariateUniqueTranslationSpec) :=
  OpenClaim.holds_of_wide 9 Try.f9 rfl rfl rfl rfl rfl rfl rfl ⟨rfl, rfl, rfl, rfl, rfl⟩ rfl rfl rfl rfl rfl (by kernel_rfl) Try.func9 (by kernel_rfl)
    (of_decide_eq_true (by kernel_rfl)) (by unfold Func.isWrapper; first | (rw [if_pos (by decide +kernel)]; kernel_rfl) | (rw [if_neg (by decide +kernel)]; exact ⟨rfl, rfl⟩))
    (fun os started H enc _ => lifted os started H enc)

theorem proved : Rows.BivariateUniqueTranslationSaid := over
end Go.Proofs.Ytkhiiiggmhncbaa.bivariateUniqueTranslation
