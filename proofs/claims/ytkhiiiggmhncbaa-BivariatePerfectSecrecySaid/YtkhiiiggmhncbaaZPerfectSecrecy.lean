/- BivariatePerfectSecrecy: for every input the law returns true and changes nothing that lay. No conditions. -/
import Derived.Test.YtkhiiiggmhncbaaEAwake
import Derived.Test.YtkhiiiggmhncbaaEValid
import Derived.Test.YtkhiiiggmhncbaaERefT
import Derived.Test.YtkhiiiggmhncbaaEVan
import Derived.Test.YtkhiiiggmhncbaaEFair
import Derived.Test.YtkhiiiggmhncbaaEOpen
import Derived.Test.YtkhiiiggmhncbaaMB
namespace Go.Proofs.Ytkhiiiggmhncbaa.bivariatePerfectSecrecy
set_option maxRecDepth 100000
open Go.ChangeShapes Go.WideShapes Go.ChangeAt Go.RowKit PolyMath FieldMath MatMath

set_option maxHeartbeats 8000000 in
theorem walk (P : Int) (B : Option Addr) (cb : Nat) (S : List (List Int)) (A : Option Addr) (c : Nat) (xs : List Int) (D X : Int) (_wP : Wd P) (wD : Wd D) (wX : Wd X) (wS : ∀ r ∈ S, Words r) (wx : Words xs) (w : World) (sS : Sll w B cb S) (sx : Sl w A c xs) : Calls Try.prog 8 #[.agg #[.int .u64 P, .slice B S.length cb, .slice A xs.length c, .int .u64 D, .int .u64 X]] w fun e w' => e = .returned (.bool true) ∧ Below w.heap.size w w' := by
  obtain ⟨n, hn⟩ : ∃ n, S.length = n := ⟨_, rfl⟩
  obtain ⟨m, hm⟩ : ∃ m, xs.length = m := ⟨_, rfl⟩
  rw [hn, hm]
  obtain ⟨wb, hwb⟩ : ∃ wb : World, wb = w.alloc (.cells #[.int .u64 P, .slice B n cb, .slice A m c, .int .u64 D, .int .u64 X] 43) := ⟨_, rfl⟩
  have hB0 : Below w.heap.size w wb := by rw [hwb]; exact bnew (Below.refl w.heap.size w) _ (Nat.le_refl _)
  have hvt := vt_any P D X A B c cb n m xs S hm hn wb (sx.next hB0) (sS.next hB0)
  have tow : ∀ W, Below wb.heap.size wb W → Below w.heap.size w W := fun W hW => hB0.trans (hW.mono hB0.size)
  have HC : ∀ (W : World) (_ : Below wb.heap.size wb W) (k : Nat) (v : Value), #[Value.int .u64 P, .slice B n cb, .slice A m c, .int .u64 D, .int .u64 X][k]? = some v → W.cell? ⟨w.heap.size, k, none⟩ = some v := fun W hW k v hv => by
    refine (hW.cell (p := ⟨w.heap.size, k, none⟩) (by show w.heap.size < _; rw [hwb, World.size_alloc]; exact Nat.lt_succ_self _)).trans ?_
    rw [cell_of_row _ w.heap.size k _ 43 (0, 0) (by rw [hwb]; exact World.alloc_heap_new w _)]; exact hv
  have HWB := Lib.hid hwb
  clear hwb
  cases hv : vtB P S xs D X with
  | false =>
    rw [hv] at hvt
    clear hv hn hm tow HC
    go_enter Try.func8, Try.ntmps8
    go_wp2_with fail
    rw [← HWB.out]
    refine hvt.mono ?_
    rintro e w1 ⟨rfl, hb⟩
    have hB1 := hB0.trans (hb.mono hB0.size)
    go_wp2_with fail
    refine (awake10 _).mono ?_
    rintro e w9 ⟨rfl, hb9⟩
    go_wp2
    go_ret
    exact ⟨rfl, hB1.trans (hb9.mono hB1.size)⟩
  | true =>
  rw [hv] at hvt
  have hV := vt_is wS wx wD wX hv hn
  have hp := hV.ok
  have hbd := hp.bd
  obtain rfl : n = m + 1 := by have := hV.len; omega
  have hM := hV.mat
  have hm6 : m + 1 ≤ 6 := hV.le
  have HM := Lib.hid hm
  clear hv hn
  obtain ⟨Z, hZ⟩ : ∃ Z, vanz P [1] xs = Z := ⟨_, rfl⟩
  have zl : Z.length = m + 1 := by rw [← hZ, vanz_len, hm]; simp; omega
  have ze : El P Z := by rw [← hZ]; exact vanz_el (by omega) _ _ (El.one (by omega))
  have z0 : co Z 0 = 1 := by rw [← hZ, vanz_zero]; rfl
  have zz : ∀ x ∈ xs, pev P Z x = 0 := fun x hx => by rw [← hZ]; exact vanz_hit hp.good xs _ hV.nz hx
  have v1 := fun W (hW : Below wb.heap.size wb W) => van_any P hp A c m xs hV.nz hm (by omega) W (sx.next (tow W hW))
  rw [hZ] at v1
  obtain ⟨M, hMM⟩ : ∃ M, trl P S D Z = M := ⟨_, rfl⟩
  have mm : Mat P (m + 1) (m + 1) M := by rw [← hMM]; have := trl_mat (by omega : 0 < P) S D Z; rw [hM.rows] at this; exact this
  have hneg := fneg_bd P D (by omega)
  have v2 := fun (A' : Option Addr) (c' : Nat) W (hW : Below wb.heap.size wb W) (hz : Sl W A' c' Z) => trl_any P D hp hV.d B A' cb c' (m + 1) S Z hM (by omega) ze W (sS.next (tow W hW)) hz
  have v3 := fun (A' : Option Addr) (c' : Nat) W (hW : Below wb.heap.size wb W) (hz : Sl W A' c' Z) => rTrl_any P D hp hV.d B A' cb c' (m + 1) S Z hM (by omega) ze zl W (sS.next (tow W hW)) hz
  have v4 := fun (A1 A2 : Option Addr) (c1 c2 : Nat) W (s1 : Sll W A1 c1 M) (s2 : Sll W A2 c2 M) => sameM_b A1 A2 M c1 c2 W s1 s2 (mm.sized (by omega) (by omega))
  have v5 := fun (A1 : Option Addr) (c1 : Nat) W (s1 : Sll W A1 c1 M) => isSym_any A1 c1 M (by rw [mm.rows]; omega) W s1
  have hsy : symB M = true := symB_iff.2 ⟨sqB_iff.2 ⟨by rw [mm.rows]; omega, fun i hi => by rw [mm.rows] at hi ⊢; exact (mm.ro hi).1⟩, by rw [← hMM]; exact trl_sym P hV.sym D Z⟩
  have v6 := fun (x : Int) (hx : 0 ≤ x ∧ x < P) (A1 : Option Addr) (c1 : Nat) W (s1 : Sll W A1 c1 M) => row_any P x hp hx A1 c1 (m + 1) M mm.rows (by omega) mm.els W s1
  have v7 := fun (x : Int) (hx : 0 ≤ x ∧ x < P) W (hW : Below wb.heap.size wb W) => row_any P x hp hx B cb (m + 1) S hM.rows (by omega) hM.els W (sS.next (tow W hW))
  have v8 := fun (x : Int) (hx : x ∈ xs) (g1 g2 : Nat) (W W1 W2 : World) (h1 : OwnAt W W1.heap.size g1 (m + 1) (m + 1) (brow P M x)) (h2 : OwnAt W W2.heap.size g2 (m + 1) (m + 1) (brow P S x)) => sameL_b (some ⟨g1, 0, none⟩) (some ⟨g2, 0, none⟩) (brow P S x) (m + 1) (m + 1) W (by have := h1.sl; rw [← hMM, trl_row (by omega) S D Z (by rw [zl, hM.rows]) (zz x hx)] at this; exact this) h2.sl (by rw [brow_len, hM.rows]; omega)
  have v9 := fun (A1 : Option Addr) (c1 : Nat) (A' : Option Addr) (c' : Nat) W (s1 : Sll W A1 c1 M) (hz : Sl W A' c' Z) => trl_any P (fneg P D) hp hneg A1 A' c1 c' (m + 1) M Z mm (by omega) ze W s1 hz
  have bk : trl P M (fneg P D) Z = S := by rw [← hMM]; exact trl_back (by omega) hM D Z
  have v10 := fun (A1 : Option Addr) (c1 : Nat) W (s1 : Sll W A1 c1 M) => beval_any P 0 0 hp (by omega) (by omega) A1 c1 (m + 1) M mm.rows (by omega) mm.els W s1
  have v11 := fun W (hW : Below wb.heap.size wb W) => beval_any P 0 0 hp (by omega) (by omega) B cb (m + 1) S hM.rows (by omega) hM.els W (sS.next (tow W hW))
  have hs0 := hM.bd (p := P) (by omega) 0 0
  have v12 := fun (A1 : Option Addr) (c1 : Nat) W (hW : Below wb.heap.size wb W) (s1 : Sll W A1 c1 S) => sameM_b A1 B S c1 cb W s1 (sS.next (tow W hW)) (hM.sized (by omega) (by omega))
  rw [bev_zero (by omega) mm (by omega), ← hMM, trl_secret hM (by omega) z0, hMM] at v10
  rw [bev_zero (by omega) hM (by omega)] at v11
  simp only [hMM, zl, mm.rows, hM.rows, brow_len, bk, hsy] at v2 v3 v4 v5 v8 v9 v12
  generalize mx S 0 0 = s0 at *
  have hD := hV.d
  have hEl := Lib.hid hV.el
  clear hMM hsy bk zz z0 mm hZ hM zl ze hm hV
  go_enter Try.func8, Try.ntmps8
  go_wp2_with fail
  rw [← HWB.out]
  refine hvt.mono ?_
  rintro e w1 ⟨rfl, hb1⟩
  have q0 := HC w1 hb1 0 _ rfl
  have q1 := HC w1 hb1 1 _ rfl
  have q2 := HC w1 hb1 2 _ rfl
  have q3 := HC w1 hb1 3 _ rfl
  clear hvt HWB
  go_wp2_with fail
  refine (v1 w1 hb1).mono ?_
  rintro e w2 ⟨A2, c2, rfl, hZ2, hb2⟩
  have hb2' := hb1.trans (hb2.mono hb1.size)
  have r0 := HC w2 hb2' 0 _ rfl
  have r1 := HC w2 hb2' 1 _ rfl
  have r3 := HC w2 hb2' 3 _ rfl
  clear q0 q1 q2 q3 v1
  go_wp2_with fail
  refine (v2 A2 c2 w2 hb2' hZ2).mono ?_
  rintro e w3 ⟨A3, c3, rfl, hM3, hb3⟩
  have hb3' := hb2'.trans (hb3.mono hb2'.size)
  have hZ3 := hZ2.next hb3
  have q0 := HC w3 hb3' 0 _ rfl
  have q1 := HC w3 hb3' 1 _ rfl
  have q3 := HC w3 hb3' 3 _ rfl
  clear r0 r1 r3 v2 hZ2
  go_wp2_with fail
  refine (v3 A2 c2 w3 hb3' hZ3).mono ?_
  rintro e w4 ⟨A4, c4, rfl, hM4, hb4⟩
  have hb4' := hb3'.trans (hb4.mono hb3'.size)
  clear v3 q0 q1 q3
  go_wp2_with fail
  refine (v4 A3 A4 c3 c4 w4 (hM3.next hb4) hM4).mono ?_
  rintro e w5 ⟨rfl, hb5⟩
  have hb5' := hb4'.trans (hb5.mono hb4'.size)
  have hM5 := (hM3.next hb4).next hb5
  have hZ5 := (hZ3.next hb4).next hb5
  clear v4 hM3 hM4 hZ3
  go_wp2_with fail
  refine (v5 A3 c3 w5 hM5).mono ?_
  rintro e w6 ⟨rfl, hb6⟩
  have hb6' := hb5'.trans (hb6.mono hb5'.size)
  have hM6 := hM5.next hb6
  have hZ6 := hZ5.next hb6
  have q2 := HC w6 hb6' 2 _ rfl
  clear v5 hM5 hZ5 hb1 hb2 hb3 hb4 hb5 hb2' hb3' hb4' hb5' hb6
  go_wp2
  go_loopw [5] (fun i wr => ∃ k : Nat, k ≤ m ∧ i = .int .i64 k ∧ Below w6.heap.size w6 wr) (fun i _ => m - (intOf i).toNat)
  case atStart => exact ⟨0, Nat.zero_le _, rfl, Below.refl _ _⟩
  case round =>
    obtain ⟨k, hk, rfl, hBr⟩ := hrel
    have hbr' := hb6'.trans (hBr.mono hb6'.size)
    have hMr := hM6.next hBr
    have t0 := HC wr hbr' 0 _ rfl
    have t1 := HC wr hbr' 1 _ rfl
    have t2 := HC wr hbr' 2 _ rfl
    have t3 := HC wr hbr' 3 _ rfl
    by_cases hlt : k < m
    · obtain ⟨bx, ox, x, hA, hbx, hxk, hcx⟩ := sx.at_ (k := k) (by rw [HM.out]; exact hlt)
      subst hA
      have hxm := List.mem_of_getElem? hxk
      have hxb := hEl.out x hxm
      have hkm : (k : Int) < m := by omega
      have HS : ∀ W, Below wb.heap.size wb W → W.cell? ⟨w.heap.size, 0, none⟩ = some (.int .u64 P) ∧ W.cell? ⟨w.heap.size, 1, none⟩ = some (.slice B (m + 1) cb) ∧ W.cell? ⟨w.heap.size, 2, none⟩ = some (.slice (some ⟨bx, ox, none⟩) m c) ∧ W.cell? ⟨bx, ox + k, none⟩ = some (.int .u64 x) := fun W hW => ⟨HC W hW 0 _ rfl, HC W hW 1 _ rfl, HC W hW 2 _ rfl, ((tow W hW).cell (p := ⟨bx, ox + k, none⟩) hbx).trans hcx⟩
      obtain ⟨d0, d1, d2, d3⟩ := HS wr hbr'
      have f1 := v6 x hxb A3 c3 wr.drew (hMr.drew)
      have f2 := v7 x hxb
      have f3 := v8 x hxm
      generalize brow P M x = R1 at f1 f3
      generalize brow P S x = R2 at f2 f3
      clear hxk hcx t0 t1 t2 t3
      go_wp2_with fail
      go_region_held3 (fun w' => w'.cell? ⟨w.heap.size, 0, none⟩ = some (.int .u64 P) ∧ w'.cell? ⟨w.heap.size, 1, none⟩ = some (.slice B (m + 1) cb) ∧ w'.cell? ⟨w.heap.size, 2, none⟩ = some (.slice (some ⟨bx, ox, none⟩) m c) ∧ w'.cell? ⟨bx, ox + k, none⟩ = some (.int .u64 x))
        (first | (refine ⟨?_, ?_, ?_, ?_⟩ <;> assumption) | exact ⟨d0, d1, d2, d3⟩)
        (first | (go_at_call 20; (with_reducible refine f1.mono ?_); rintro e w7 ⟨g7, rfl, hO7, hb7'⟩; have hb7 : Below wr.heap.size wr w7 := (Below.refl _ wr).drew.trans (hb7'.mono (Nat.le_refl _)); have hK7 := hbr'.trans (hb7.mono hbr'.size); obtain ⟨e0, e1, e2, e3⟩ := HS w7 hK7; have f2' := f2 w7 hK7; clear hb7') | (go_at_call 20; (with_reducible refine f2'.mono ?_); rintro e w8 ⟨g8, rfl, hO8, hb8⟩; have hO7' := own_below hO7 hb8; have hK8 := hK7.trans (hb8.mono hK7.size); obtain ⟨u0, u1, u2, u3⟩ := HS w8 hK8; have f3' := f3 g7 g8 w8 wr.drew w7 hO7' hO8; have hb78 := hb7.trans (hb8.mono hb7.size); clear hO7' hO7 hO8 hb8) | (go_at_call 19; (with_reducible refine f3'.mono ?_); rintro e w9 ⟨rfl, hb9⟩; have hK9 := hK8.trans (hb9.mono hK8.size); obtain ⟨v0, v1, v2, v3⟩ := HS w9 hK9; have HB9 := Lib.hid (hBr.trans ((hb78.trans (hb9.mono hb78.size)).mono hBr.size)); clear hb9))
      all_goals
        go_wp2
        go_roundw
        case rel => exact ⟨k + 1, by omega, by simp, HB9.out⟩
        case measure => simp [intOf]; omega
    · obtain rfl : m = k := by omega
      have hZr := hZ6.next hBr
      have w0 := neg_any P D hp hD.1 hD.2
      have w1' := v9 A3 c3 A2 c2 wr.drew hMr.drew hZr.drew
      clear v6 v7 v8 v9 hM6 hZ6 hBr q2 hb6'
      generalize fneg P D = nD at w0 w1'
      go_wp2_with fail
      go_region_held3 (fun w' => w'.cell? ⟨w.heap.size, 0, none⟩ = some (.int .u64 P) ∧ w'.cell? ⟨w.heap.size, 3, none⟩ = some (.int .u64 D))
        (first | (refine ⟨?_, ?_⟩ <;> assumption) | exact ⟨t0, t3⟩)
        (first | (go_at_call 32; (with_reducible refine (w0 _).mono ?_); rintro e w' ⟨rfl, rfl⟩) | (go_at_call 30; (with_reducible refine w1'.mono ?_); rintro e w7 ⟨A7, c7, rfl, hS7, hb7'⟩; have hb7 : Below wr.heap.size wr w7 := (Below.refl _ wr).drew.trans (hb7'.mono (Nat.le_refl _)); have hK7 := hbr'.trans (hb7.mono hbr'.size); have e0 := HC w7 hK7 0 _ rfl; have e3 := HC w7 hK7 3 _ rfl; have hM7 := hMr.next hb7; clear hb7 hb7'))
      all_goals
        clear w0 w1' hMr hZr hbr' t0 t1 t2 t3
        have HS : ∀ W, Below wb.heap.size wb W → W.cell? ⟨w.heap.size, 0, none⟩ = some (.int .u64 P) ∧ W.cell? ⟨w.heap.size, 1, none⟩ = some (.slice B (m + 1) cb) ∧ W.cell? ⟨w.heap.size, 3, none⟩ = some (.int .u64 D) := fun W hW => ⟨HC W hW 0 _ rfl, HC W hW 1 _ rfl, HC W hW 3 _ rfl⟩
        obtain ⟨d0, d1, d2⟩ := HS w7 hK7
        have aw := awake10 w7.drew
        have ad := add_any P s0 D hp hs0.1 hs0.2 hD.1 hD.2
        generalize fadd P s0 D = V at v10 ad
        have hVV : (V == V) = true := beq_self_eq_true V
        go_wp2_with fail
        go_region_held3 (fun w' => w'.cell? ⟨w.heap.size, 0, none⟩ = some (.int .u64 P) ∧ w'.cell? ⟨w.heap.size, 1, none⟩ = some (.slice B (m + 1) cb) ∧ w'.cell? ⟨w.heap.size, 3, none⟩ = some (.int .u64 D))
          (first | (refine ⟨?_, ?_, ?_⟩ <;> assumption) | exact ⟨d0, d1, d2⟩)
          (first | (go_at_call 12; (with_reducible refine aw.mono ?_); rintro e w8 ⟨rfl, hb8'⟩; have hb8 : Below w7.heap.size w7 w8 := (Below.refl _ w7).drew.trans (hb8'.mono (Nat.le_refl _)); have hK8 := hK7.trans (hb8.mono hK7.size); obtain ⟨g0, g1, g2⟩ := HS w8 hK8; have hM8 := hM7.next hb8; have hS8 := hS7.next hb8; have a1 := v10 A3 c3 w8 hM8; clear hb8 hb8' hM8) | (go_at_call 22; (with_reducible refine a1.mono ?_); rintro e w9 ⟨rfl, hb9⟩; have hK9 := hK8.trans (hb9.mono hK8.size); obtain ⟨h0, h1, h2⟩ := HS w9 hK9; have hS9 := hS8.next hb9; have a2 := v11 w9 hK9; clear hb9) | (go_at_call 22; (with_reducible refine a2.mono ?_); rintro e w10 ⟨rfl, hb10⟩; have hK10 := hK9.trans (hb10.mono hK9.size); obtain ⟨i0, i1, i2⟩ := HS w10 hK10; have hS10 := hS9.next hb10; have a3 := v12 A7 c7 w10 hK10 hS10; clear hb10) | (go_at_call 33; (with_reducible refine (ad _).mono ?_); rintro e w' ⟨rfl, rfl⟩) | (go_at_call 15; (with_reducible refine a3.mono ?_); rintro e w11 ⟨rfl, hb11⟩; have hK11 := hK10.trans (hb11.mono hK10.size); obtain ⟨j0, j1, j2⟩ := HS w11 hK11; have HF := Lib.hid (tow w11 hK11); clear hb11))
        all_goals
          go_wp2
          go_ret
          exact ⟨rfl, HF.out⟩

theorem lifted (os : Os) (started : os.Started) (H : Type) (enc : TypeId × Value → H) :
    ReturnsInHanded {} Try.checked os 8 .any (Rows.bivariatePerfectSecrecySpec.pre6 enc Try.prog Try.f8 Rows.bivariatePerfectSecrecyRow.domain false) (Rows.bivariatePerfectSecrecySpec.post enc Try.prog Try.f8 false true false false) := by
  refine returnsInHanded_of_change (C := Try.checked) own started (by kernel_rfl) Try.func8
    (ChangeSpec.witness6 (enc := enc) (C := Try.checked) false ⟨#[], #[.agg #[.int .u64 0, .slice none 0 0, .slice none 0 0, .int .u64 0, .int .u64 0]], []⟩ 8 (by kernel_rfl) (by kernel_rfl) (by kernel_rfl) (by kernel_rfl)) ?_
  intro W base args ds gs before hval0 hW hcnd _
  have hval : ∀ (j : Nat) t v, Try.f8.params[j]? = some t → args[j]? = some v → Value.okWide Try.prog W .any base t v := hval0
  have hW' := hW
  obtain ⟨p, q, hA0, hV, rfl, hfz, hnd⟩ := hW
  have hA : DataW.TrodAll enc Try.prog W 0 (fun _ => true) true Try.f8.params.toList args.toList ds p := hA0
  rw [Try.params8] at hA hval
  obtain ⟨v0, d0, rfl, rfl, t0⟩ := trodAll_one hA
  obtain ⟨rfl, rfl⟩ := trodVars_none hV
  clear hA0 hval0
  simp only [List.append_nil] at hW'
  have l0 : ∀ x ∈ p, x.block < W.heap.size := fun x hx => hW'.lt x (by simp [hx])
  obtain ⟨x0, B0, u0, k0, A0, v0, c0, y0, z0, rfl, b0, e0, f0, r0, g0, m0, h0⟩ := arg_trc (hval 0 43 v0 rfl rfl) t0 l0
  refine (walk x0 B0 k0 u0 A0 c0 v0 y0 z0 b0 e0 f0 g0 h0 W r0 m0).mono fun e W' ⟨he, hb⟩ => ?_
  subst he
  exact ⟨_, rfl, post_of_below (pa := p) (pv := []) hW' (fun _ _ _ => (trodAll_cons_mk (shut_bool Try.underlying4 _) trodAll_mk0)) (fun sp hsp => trodAll_mk1 (stay_trc t0 hb l0 sp (fun x hx => hsp x (by simp [hx])))) (fun _ _ => rfl) (by simp)
    hb (ok_one (by kernel_rfl) rfl (okWide_bool_mk Try.underlying4 _))⟩

theorem over : Rows.bivariatePerfectSecrecyRow.holds Try.pinned (OpenSpec.ofChange Rows.bivariatePerfectSecrecySpec) :=
  OpenClaim.holds_of_wide 8 Try.f8 rfl rfl rfl rfl rfl rfl rfl ⟨rfl, rfl, rfl, rfl, rfl⟩ rfl rfl rfl rfl rfl (by kernel_rfl) Try.func8 (by kernel_rfl)
    (of_decide_eq_true (by kernel_rfl)) (by unfold Func.isWrapper; first | (rw [if_pos (by decide +kernel)]; kernel_rfl) | (rw [if_neg (by decide +kernel)]; exact ⟨rfl, rfl⟩))
    (fun os started H enc _ => lifted os started H enc)

theorem proved : Rows.BivariatePerfectSecrecySaid := over
end Go.Proofs.Ytkhiiiggmhncbaa.bivariatePerfectSecrecy
