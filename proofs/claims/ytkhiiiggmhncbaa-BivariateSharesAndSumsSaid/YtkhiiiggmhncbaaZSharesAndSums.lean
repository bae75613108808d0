/- BivariateSharesAndSums: for every input the law returns true and changes nothing that lay. No conditions. -/
import Derived.Test.YtkhiiiggmhncbaaEAwake
import Derived.Test.YtkhiiiggmhncbaaEValid
import Derived.Test.YtkhiiiggmhncbaaERefT
import Derived.Test.YtkhiiiggmhncbaaEFair
import Derived.Test.YtkhiiiggmhncbaaEOpen
import Derived.Test.YtkhiiiggmhncbaaMB
namespace Go.Proofs.Ytkhiiiggmhncbaa.bivariateSharesAndSums
set_option maxRecDepth 100000
open Go.ChangeShapes Go.WideShapes Go.ChangeAt Go.RowKit PolyMath FieldMath MatMath

set_option maxHeartbeats 8000000 in
theorem walk (P : Int) (B : Option Addr) (cb : Nat) (S : List (List Int)) (A : Option Addr) (c : Nat) (xs : List Int) (D X : Int) (Aother : Option Addr) (cother : Nat) (other : List (List Int)) (_wP : Wd P) (wD : Wd D) (wX : Wd X) (wS : ∀ r ∈ S, Words r) (wx : Words xs) (wother : ∀ r ∈ other, Words r) (_lother : other.length ≤ 9223372036854775807) (w : World) (sS : Sll w B cb S) (sx : Sl w A c xs) (sother : Sll w Aother cother other) : Calls Try.prog 10 #[.agg #[.int .u64 P, .slice B S.length cb, .slice A xs.length c, .int .u64 D, .int .u64 X], .slice Aother other.length cother] w fun e w' => e = .returned (.bool true) ∧ Below w.heap.size w w' := by
  obtain ⟨n, hn⟩ : ∃ n, S.length = n := ⟨_, rfl⟩
  obtain ⟨m, hm⟩ : ∃ m, xs.length = m := ⟨_, rfl⟩
  rw [hn, hm]
  obtain ⟨wb, hwb⟩ : ∃ wb : World, wb = w.alloc (.cells #[.int .u64 P, .slice B n cb, .slice A m c, .int .u64 D, .int .u64 X] 43) := ⟨_, rfl⟩
  have hB0 : Below w.heap.size w wb := by rw [hwb]; exact bnew (Below.refl w.heap.size w) _ (Nat.le_refl _)
  have hvt := vt_any P D X A B c cb n m xs S hm hn wb (sx.next hB0) (sS.next hB0)
  have tow : ∀ W, Below wb.heap.size wb W → Below w.heap.size w W := fun W hW => hB0.trans (hW.mono hB0.size)
  have HC : ∀ (W : World) (_ : Below wb.heap.size wb W) (k : Nat) (v : Value), #[Value.int .u64 P, .slice B n cb, .slice A m c, .int .u64 D, .int .u64 X][k]? = some v → W.cell? ⟨w.heap.size, k, none⟩ = some v := fun W hW k v hv => by
    refine (hW.cell (p := ⟨w.heap.size, k, none⟩) (by show w.heap.size < _; rw [hwb, World.size_alloc]; exact Nat.lt_succ_self _)).trans ?_
    rw [cell_of_row _ w.heap.size k _ 43 (0, 0) (by rw [hwb]; exact World.alloc_heap_new w _)]; exact hv
  have HWB := Lib.hid hwb
  clear hwb
  cases hv : vtB P S xs D X with
  | false =>
    rw [hv] at hvt
    clear hv hn hm tow HC
    go_enter Try.func10, Try.ntmps10
    go_wp2_with fail
    rw [← HWB.out]
    refine hvt.mono ?_
    rintro e w1 ⟨rfl, hb⟩
    have hB1 := hB0.trans (hb.mono hB0.size)
    go_wp2_with fail
    refine (awake10 _).mono ?_
    rintro e w9 ⟨rfl, hb9⟩
    go_wp2
    go_ret
    exact ⟨rfl, hB1.trans (hb9.mono hB1.size)⟩
  | true =>
  rw [hv] at hvt
  have hV := vt_is wS wx wD wX hv hn
  have hp := hV.ok
  have hbd := hp.bd
  obtain rfl : n = m + 1 := by have := hV.len; omega
  have hM := hV.mat
  have hm6 : m + 1 ≤ 6 := hV.le
  have HM := Lib.hid hm
  clear hv hn
  have sH : ∀ W, Below wb.heap.size wb W → Sll W Aother cother other := fun W hW => sother.next (tow W hW)
  obtain ⟨o, ho⟩ : ∃ o, other.length = o := ⟨_, rfl⟩
  rw [ho]
  have kf := fun W (hW : Below wb.heap.size wb W) => fair10_any P Aother cother 6 o other ho (by decide) W (sH W hW)
  cases hf : fair10B P other 6 with
  | false =>
    simp only [hf] at kf
    clear ho hf hM hp hV
    go_enter Try.func10, Try.ntmps10
    go_wp2_with fail
    rw [← HWB.out]
    refine hvt.mono ?_
    rintro e w1 ⟨rfl, hb1⟩
    have q0 := HC w1 hb1 0 _ rfl
    go_wp2_with fail
    refine (kf w1 hb1).mono ?_
    rintro e w2 ⟨rfl, hb2⟩
    have hB2 := tow w2 (hb1.trans (hb2.mono hb1.size))
    go_wp2_with fail
    refine (awake10 _).mono ?_
    rintro e w9 ⟨rfl, hb9⟩
    go_wp2
    go_ret
    exact ⟨rfl, hB2.trans (hb9.mono hB2.size)⟩
  | true =>
  simp only [hf] at kf
  obtain ⟨_, hO, ho6, ho0⟩ := fair10_is wother hf ho
  clear hf
  by_cases hne : o = m + 1
  rotate_left
  · have hn1 : ((o : Int) != ((m + 1 : Nat) : Int)) = true := bne_iff_ne.2 (by omega)
    have hn2 : ¬ (o : Int) = ((m + 1 : Nat) : Int) := by omega
    clear ho hM hp hV hO hne
    obtain ⟨nn, hnn⟩ : ∃ nn, m + 1 = nn := ⟨_, rfl⟩
    rw [hnn] at hvt HC hn1 hn2 HWB ⊢
    clear hnn
    go_enter Try.func10, Try.ntmps10
    go_wp2_with fail
    rw [← HWB.out]
    refine hvt.mono ?_
    rintro e w1 ⟨rfl, hb1⟩
    have q0 := HC w1 hb1 0 _ rfl
    go_wp2_with fail
    refine (kf w1 hb1).mono ?_
    rintro e w2 ⟨rfl, hb2⟩
    have hb2' := hb1.trans (hb2.mono hb1.size)
    have hB2 := tow w2 hb2'
    have q1 := HC w2 hb2' 1 _ rfl
    go_wp2_with fail
    refine (awake10 _).mono ?_
    rintro e w9 ⟨rfl, hb9⟩
    go_wp2
    go_ret
    exact ⟨rfl, hB2.trans (hb9.mono hB2.size)⟩
  subst hne
  have hget : ∀ (l : List Int) (i : Nat), i < l.length → l[i]? = some (co l i) := fun l i h => by
    obtain ⟨x, hx⟩ : ∃ x, l[i]? = some x := ⟨_, List.getElem?_eq_getElem h⟩
    rw [hx, co_at hx]
  obtain ⟨i0, hi, hz0, hz1, hz2⟩ := info_parts info_u64
  obtain ⟨j0, hj, hy0, hy1, hy2⟩ := info_parts info_sl
  have hX := hV.x
  have hsh := share_row (by omega : 0 < P) hM hV.sym (by omega) X
  have hadd := fun j (hj : j < m + 1) => addS_row (p := P) S other (by rw [hO.rows, hM.rows]) X (j := j) (by rw [hM.rows]; exact hj)
  have mG : Mat P (m + 1) (m + 1) (addS P S other) := by have h9 := addS_mat (by omega : 0 < P) S other; rw [hM.rows] at h9; exact h9
  have k1 := fun W (hW : Below wb.heap.size wb W) => row_any P 0 hp (by omega) B cb (m + 1) S hM.rows (by omega) hM.els W (sS.next (tow W hW))
  have k2 := fun W (hW : Below wb.heap.size wb W) => row_any P X hp hX B cb (m + 1) S hM.rows (by omega) hM.els W (sS.next (tow W hW))
  have k3 := fun W (hW : Below wb.heap.size wb W) => row_any P X hp hX Aother cother (m + 1) other hO.rows (by omega) hO.els W (sH W hW)
  have k6 := fun (A1 : Option Addr) (c1 : Nat) W (s1 : Sll W A1 c1 (addS P S other)) => row_any P X hp hX A1 c1 (m + 1) (addS P S other) mG.rows (by omega) mG.els W s1
  obtain ⟨f, hfe⟩ : ∃ f : Nat → List Int, f = fun i => (List.range (m + 1)).map fun j => fadd P (mx S i j) (mx other i j) := ⟨_, rfl⟩
  have hEnd : Hid ((List.range (m + 1)).map f = addS P S other) := Lib.hid (by rw [hfe]; unfold addS; rw [hM.rows])
  have HFK : ∀ k, Hid ((List.range (m + 1)).map (fun j => fadd P (mx S k j) (mx other k j)) = f k) := fun k => Lib.hid (by rw [hfe])
  have HGL := Lib.hid mG.rows
  clear hfe
  have lF := brow_len P S 0
  have lR := brow_len P S X
  have lQ := brow_len P other X
  have lT := brow_len P (addS P S other) X
  have eF := brow_el (by omega : 0 < P) S 0
  have eR := brow_el (by omega : 0 < P) S X
  have eQ := brow_el (by omega : 0 < P) other X
  rw [hM.rows] at lF lR
  rw [hO.rows] at lQ
  rw [mG.rows] at lT
  generalize brow P (addS P S other) X = T at k6 hadd lT
  generalize brow P S 0 = F at k1 hsh lF eF
  generalize brow P S X = R at k2 hsh hadd lR eR
  generalize brow P other X = Q at k3 hadd lQ eQ
  generalize addS P S other = G at k6 hEnd HGL
  have k4 := fun (g : Nat) (W W1 : World) (h : OwnAt W W1.heap.size g (m + 1) (m + 1) R) => coef_any (some ⟨g, 0, none⟩) (m + 1) R 0 W h.sl
  have hc0 : coI R 0 = co R 0 := coI_nat R 0
  have k5 := fun (g : Nat) (W : World) (h : Sl W (some ⟨g, 0, none⟩) (m + 1) F) => eval_any P X hp hX (some ⟨g, 0, none⟩) (m + 1) F eF (by omega) W h
  simp only [lR, hc0, hsh.1] at k4
  simp only [lF] at k5
  have hF0 := hget F 0 (by omega)
  rw [hsh.2] at hF0
  obtain ⟨bS, oS, A1, c1, hB1, hblS, hcS, hsS⟩ := sS.rowAt (i := 0) (L := m + 1) (by rw [hM.rows]; omega) (hM.ro (by omega)).1
  subst hB1
  obtain ⟨bT, oT, y0, hA1, hbT, hy0', hcT⟩ := hsS.at_ (k := 0) (by rw [(hM.ro (by omega : 0 < m + 1)).1]; omega)
  subst hA1
  rw [mx_at2 hy0'] at hF0
  have hgR := fun i (hi : i < m + 1) => hget R i (by omega)
  have hgQ := fun i (hi : i < m + 1) => hget Q i (by omega)
  have hgT := fun i (hi : i < m + 1) => (hget T i (by omega)).trans (congrArg some (hadd i hi))
  have hbR := fun i => eR.co (by omega : 0 < P) i
  have hbQ := fun i => eQ.co (by omega : 0 < P) i
  have hroS := Lib.hid fun i (hi : i < m + 1) => hM.ro hi
  have hroO := Lib.hid fun i (hi : i < m + 1) => hO.ro hi
  have HLS := Lib.hid hM.rows
  have HLO := Lib.hid hO.rows
  have HGR := Lib.hid hgR
  have HGQ := Lib.hid hgQ
  have HGT := Lib.hid hgT
  have HBR := Lib.hid hbR
  have HBQ := Lib.hid hbQ
  generalize pev P F X = V at k4 k5
  have hVV : (V != V) = false := by simp
  have hYY : (y0 != y0) = false := by simp
  clear hgR hgQ hgT hbR hbQ hadd hsh hM hO mG hV lF lR lQ lT eF eR eQ hy0' hsS hc0 hget ho ho0 ho6
  have HS : ∀ W, Below wb.heap.size wb W → W.cell? ⟨w.heap.size, 0, none⟩ = some (.int .u64 P) ∧ W.cell? ⟨w.heap.size, 1, none⟩ = some (.slice (some ⟨bS, oS, none⟩) (m + 1) cb) ∧ W.cell? ⟨w.heap.size, 4, none⟩ = some (.int .u64 X) ∧ W.cell? ⟨bS, oS + 0, none⟩ = some (.slice (some ⟨bT, oT, none⟩) (m + 1) c1) ∧ W.cell? ⟨bT, oT + 0, none⟩ = some (.int .u64 y0) := fun W hW => ⟨HC W hW 0 _ rfl, HC W hW 1 _ rfl, HC W hW 4 _ rfl, ((tow W hW).cell (p := ⟨bS, oS + 0, none⟩) hblS).trans hcS, ((tow W hW).cell (p := ⟨bT, oT + 0, none⟩) hbT).trans hcT⟩
  simp only [Nat.add_zero] at HS
  go_enter Try.func10, Try.ntmps10
  go_wp2_with fail
  rw [← HWB.out]
  refine hvt.mono ?_
  rintro e w1 ⟨rfl, hb1⟩
  have q0 := HC w1 hb1 0 _ rfl
  go_wp2_with fail
  refine (kf w1 hb1).mono ?_
  rintro e w2 ⟨rfl, hb2⟩
  have hb2' := hb1.trans (hb2.mono hb1.size)
  obtain ⟨d0, d1, d4, d5, d6⟩ := HS w2 hb2'
  clear hvt HWB kf hb1 hb2 q0
  go_wp2_with fail
  refine (k1 w2 hb2').mono ?_
  rintro e w3 ⟨g3, rfl, hO3, hb3⟩
  have hb3' := hb2'.trans (hb3.mono hb2'.size)
  have sF := hO3.sl
  have hF3 := hO3.cell hF0
  have hg3 := hO3.lt.2
  have f2 := k2 w3.drew hb3'.drew
  have HF3 : ∀ W, Below w3.heap.size w3 W → W.cell? ⟨g3, 0, none⟩ = some (.int .u64 y0) := fun W hW => (hW.cell (p := ⟨g3, 0, none⟩) hg3).trans hF3
  obtain ⟨x0, x1, x4, x5, x6⟩ := HS w3 hb3'
  have x7 := HF3 w3 (Below.refl _ _)
  clear d0 d1 d4 d5 d6 hO3 hF0 k1 hb3
  go_wp2_with fail
  go_region_held3 (fun w' => w'.cell? ⟨w.heap.size, 0, none⟩ = some (.int .u64 P) ∧ w'.cell? ⟨w.heap.size, 1, none⟩ = some (.slice (some ⟨bS, oS, none⟩) (m + 1) cb) ∧ w'.cell? ⟨w.heap.size, 4, none⟩ = some (.int .u64 X) ∧ w'.cell? ⟨bS, oS, none⟩ = some (.slice (some ⟨bT, oT, none⟩) (m + 1) c1) ∧ w'.cell? ⟨bT, oT, none⟩ = some (.int .u64 y0) ∧ w'.cell? ⟨g3, 0, none⟩ = some (.int .u64 y0))
    (first | (refine ⟨?_, ?_, ?_, ?_, ?_, ?_⟩ <;> assumption) | exact ⟨x0, x1, x4, x5, x6, x7⟩)
    (first | (go_at_call 20; (with_reducible refine f2.mono ?_); rintro e w7 ⟨g7, rfl, hO7, hb7'⟩; have hb7 : Below w3.heap.size w3 w7 := (Below.refl _ w3).drew.trans (hb7'.mono (Nat.le_refl _)); have hK7 := hb3'.trans (hb7.mono hb3'.size); obtain ⟨e0, e1, e4, e5, e6⟩ := HS w7 hK7; have e7 := HF3 w7 hb7; have f4 := k4 g7 w7 w3.drew hO7; have f5 := k5 g3 w7 (sF.next hb7); clear hb7' hO7) | (go_at_call 35; (with_reducible refine f4.mono ?_); rintro e w' ⟨rfl, rfl⟩) | (go_at_call 24; (with_reducible refine f5.mono ?_); rintro e w8 ⟨rfl, hb8⟩; have hK8 := hK7.trans (hb8.mono hK7.size); obtain ⟨u0, u1, u4, u5, u6⟩ := HS w8 hK8; have u7 := HF3 w8 (hb7.trans (hb8.mono hb7.size)); have HK := Lib.hid hK8; clear hb8))
  all_goals
    rename World => wz
    have hK0 := HK.out
    clear x0 x1 x4 x5 x6 x7 f2 k4 k5 sF hF3 HF3 HK hK7 hb7 hb3' hb2'
    clear f4 f5 e0 e1 e4 e5 e6 e7 u0 u4 u5 u6 u7
    go_wp2
    go_loopw [6, 7] (fun v i wR => ∃ k : Nat, k ≤ m + 1 ∧ i = .int .i64 k ∧ LOwn wz.heap.size wR v ((List.range k).map f) ∧ Below wz.heap.size wz wR) (fun _ i _ => m + 1 - (intOf i).toNat)
    case atStart => exact ⟨0, Nat.zero_le _, rfl, LOwn.none _ _, Below.refl _ _⟩
    case round =>
      obtain ⟨k, hk, rfl, hL, hBr⟩ := hrel
      rename World => W0
      have hsz := hBr.size
      have hbr' := hK0.trans (hBr.mono hK0.size)
      have t1 := HC W0 hbr' 1 _ rfl
      by_cases hlt : k < m + 1
      · have hkm : (k : Int) < ((m + 1 : Nat) : Int) := by omega
        obtain ⟨b1, o1, A3, c3, hA3, hbl3, hc3, hs3⟩ := sS.rowAt (i := k) (L := m + 1) (by rw [HLS.out]; exact hlt) (hroS.out k hlt).1
        injection hA3 with hA3
        injection hA3 with e1 e2
        subst e1 e2
        obtain ⟨b4, o4, A4, c4, hA4, hbl4, hc4, hs4⟩ := sother.rowAt (i := k) (L := m + 1) (by rw [HLO.out]; exact hlt) (hroO.out k hlt).1
        subst hA4
        have hln3 := Lib.hid (hroS.out k hlt).1
        have hln4 := Lib.hid (hroO.out k hlt).1
        have hel3 := (hroS.out k hlt).2
        have hel4 := (hroO.out k hlt).2
        have HNX := Lib.hid (rows_next f k)
        go_wp2
        go_loopw [8, 9] (fun v i wR => ∃ j : Nat, j ≤ m + 1 ∧ i = .int .i64 j ∧ wR.ownsRow W0.heap.size 31 1 v j (((List.range j).map fun j => fadd P (mx S k j) (mx other k j)).map (Value.int .u64)) ∧ Below W0.heap.size W0 wR) (fun _ i _ => m + 1 - (intOf i).toNat)
        case atStart => exact ⟨0, Nat.zero_le _, rfl, World.ownsRow_nil _ _ _ _, Below.refl _ _⟩
        case round =>
          obtain ⟨j, hj9, rfl, hrow, hB2⟩ := hrel
          rename World => W2
          have hsz2 := hB2.size
          have hb2' := hbr'.trans (hB2.mono hbr'.size)
          by_cases hlj : j < m + 1
          · have hjn : (j : Int) < ((m + 1 : Nat) : Int) := by omega
            obtain ⟨b5, o5, x, hA5, hbl5, hx, hcx⟩ := hs3.at_ (k := j) (by rw [hln3.out]; exact hlj)
            obtain ⟨b6, o6, y, hA6, hbl6, hy, hcy⟩ := hs4.at_ (k := j) (by rw [hln4.out]; exact hlj)
            subst hA5 hA6
            have hxb := hel3 x (List.mem_of_getElem? hx)
            have hyb := hel4 y (List.mem_of_getElem? hy)
            have hXE := Lib.hid (mx_at2 hx)
            have hYE := Lib.hid (mx_at2 hy)
            have HT : ∀ W, Below wb.heap.size wb W → W.cell? ⟨w.heap.size, 0, none⟩ = some (.int .u64 P) ∧ W.cell? ⟨w.heap.size, 1, none⟩ = some (.slice (some ⟨bS, oS, none⟩) (m + 1) cb) ∧ W.cell? ⟨bS, oS + k, none⟩ = some (.slice (some ⟨b5, o5, none⟩) (m + 1) c3) ∧ W.cell? ⟨b5, o5 + j, none⟩ = some (.int .u64 x) ∧ W.cell? ⟨b4, o4 + k, none⟩ = some (.slice (some ⟨b6, o6, none⟩) (m + 1) c4) ∧ W.cell? ⟨b6, o6 + j, none⟩ = some (.int .u64 y) := fun W hW => ⟨HC W hW 0 _ rfl, HC W hW 1 _ rfl, ((tow W hW).cell (p := ⟨bS, oS + k, none⟩) hbl3).trans hc3, ((tow W hW).cell (p := ⟨b5, o5 + j, none⟩) hbl5).trans hcx, ((tow W hW).cell (p := ⟨b4, o4 + k, none⟩) hbl4).trans hc4, ((tow W hW).cell (p := ⟨b6, o6 + j, none⟩) hbl6).trans hcy⟩
            obtain ⟨d1, d2, d3, d4, d5, d6⟩ := HT _ hb2'
            obtain ⟨Av, cv, hv⟩ := row_form hrow
            subst hv
            have hO1 := Lib.hid (hrow.alloc (.cells #[.int .u64 (fadd P x y)] 31))
            have hB1 := (bnew hB2 (.cells #[.int .u64 (fadd P x y)] 31) (Nat.le_refl _)).drew
            obtain ⟨q1, q2, q3, q4, q5, q6⟩ := HT _ (hbr'.trans (hB1.mono hbr'.size))
            clear hx hy hrow hcx hcy
            go_wp2_with fail
            go_region_held3 (fun w' => w'.cell? ⟨w.heap.size, 0, none⟩ = some (.int .u64 P) ∧ w'.cell? ⟨w.heap.size, 1, none⟩ = some (.slice (some ⟨bS, oS, none⟩) (m + 1) cb) ∧ w'.cell? ⟨bS, oS + k, none⟩ = some (.slice (some ⟨b5, o5, none⟩) (m + 1) c3) ∧ w'.cell? ⟨b5, o5 + j, none⟩ = some (.int .u64 x) ∧ w'.cell? ⟨b4, o4 + k, none⟩ = some (.slice (some ⟨b6, o6, none⟩) (m + 1) c4) ∧ w'.cell? ⟨b6, o6 + j, none⟩ = some (.int .u64 y))
              (first | (refine ⟨?_, ?_, ?_, ?_, ?_, ?_⟩ <;> assumption) | exact ⟨d1, d2, d3, d4, d5, d6⟩ | exact ⟨q1, q2, q3, q4, q5, q6⟩)
              (first | (go_at_call 33; (with_reducible refine (add_any P x y hp hxb.1 hxb.2 hyb.1 hyb.2 _).mono ?_); rintro e w' ⟨rfl, rfl⟩) | (refine step_append_own _ (by rfl) _ _ _ (by rfl) W0.heap.size 31 i0 _ 1 8 Try.underlying22 hi hz0 hz1 hz2 rfl (by omega) _ j _ (by rfl) hO1.out ⟨W2.heap.size, 0, none⟩ 1 1 [.int .u64 (fadd P x y)] (by rfl) (by rfl) (cell_one_new _ _ _) (by simp [Value.oneCell']) (by simp only [maxLen]; omega) (by omega) (by first | omega | (simp; done) | (simp; omega)) ?_; intro v7 w7 hown7 hgrow7; have hB7 : Below W0.heap.size W0 w7 := hB1.grown hgrow7 (by first | omega | (simp; done) | (simp; omega)) (fun x e => (World.ownsRow.lt hO1.out x e).1); obtain ⟨r1, r2, r3, r4, r5, r6⟩ := HT w7 (hbr'.trans (hB7.mono hbr'.size)); have HO7 := Lib.hid hown7; obtain ⟨A7, c7, hv7⟩ := row_form hown7; subst hv7; clear hown7 hgrow7))
            all_goals
              go_wp2
              go_roundw
              case rel => exact ⟨j + 1, by omega, by simp, own_next (f := fun j => fadd P (mx S k j) (mx other k j)) (by show World.ownsRow _ _ _ _ _ _ (_ ++ [.int .u64 (fadd P (mx S k j) (mx other k j))]); rw [hXE.out, hYE.out] at *; exact HO7.out), hB7⟩
              case measure => simp [intOf]; omega
          · obtain rfl : j = m + 1 := by omega
            rw [(HFK k).out] at hrow
            have HFL : Hid ((f k).length = m + 1) := Lib.hid (by rw [← (HFK k).out]; simp)
            clear hs3 hs4
            obtain ⟨A2, c2, hv, hs2⟩ := own_form hrow
            have hty : Ty W2 A2 := by rw [hv] at hrow; exact Ty.of_own hrow
            have hlen : (f k).length = m + 1 := HFL.out
            rw [hlen] at hv
            subst hv
            have t2 := HC W2 hb2' 1 _ rfl
            obtain ⟨vs, h1, h2⟩ := hL.next hB2
            have hs3 := hs2.push (.cells #[.slice A2 (m + 1) c2] 22)
            have ht3 := hty.next ((Below.refl _ W2).alloc (Nat.le_refl _) (.cells #[.slice A2 (m + 1) c2] 22))
            have h1' := own_below h1 ((Below.refl _ W2).alloc (Nat.le_refl _) (.cells #[.slice A2 (m + 1) c2] 22))
            have h2' : ∀ (i : Nat) (r : List Int), ((List.range k).map f)[i]? = some r → ∃ A c, vs[i]? = some (Value.slice A r.length c) ∧ Sl (W2.alloc (.cells #[.slice A2 (m + 1) c2] 22)) A c r ∧ Ty (W2.alloc (.cells #[.slice A2 (m + 1) c2] 22)) A := fun i r hr => by
              obtain ⟨A', c', q1, q2, q3⟩ := h2 i r hr
              exact ⟨A', c', q1, q2.push _, q3.next ((Below.refl _ W2).alloc (Nat.le_refl _) _)⟩
            have hadd := fun (v' : Value) (w2 : World) (hown) (hg) => LOwn.add (v' := v') (w2 := w2) h1' h2' hs3 ht3 hown hg
            have hBB := hBr.trans (hB2.mono hsz)
            have hszB := hBB.size
            have hADD := Lib.hid hadd
            have HLE := Lib.hid hlen
            clear hadd hs3 h2' h2 hs2 hrow hlen
            rw [rows_len] at h1'
            go_wp2_with (at_builtin; refine wpList_append_own _ rfl _ _ 24 rfl wz.heap.size 22 j0 (.slice none 0 0) 1 24 Try.underlying24 hj hy0 hy1 hy2 rfl (by decide) _ _ _ rfl h1' ⟨W2.heap.size, 0, none⟩ 1 1 [.slice A2 (m + 1) c2] rfl rfl (cell_one_new _ _ _) (by simp [Value.oneCell']) (by simp only [maxLen]; omega) (by omega) (by simp; omega) ?_; intro v' w2 hown' hgrow _)
            have hB4 : Below wz.heap.size wz w2 := (hBB.alloc hszB _).grown hgrow (by simp; omega) (fun k e => (World.ownsRow.lt h1' k e).1)
            have hLL := hADD.out v' w2 (by rw [HLE.out, rows_len]; exact hown') hgrow
            rw [← HNX.out] at hLL
            go_roundw
            case rel => exact ⟨k + 1, by omega, by simp, hLL, hB4⟩
            case measure => simp [intOf]; omega
      · obtain rfl : k = m + 1 := by omega
        rw [hEnd.out] at hL
        obtain ⟨A2, c2, hv, hs2⟩ := hL.form
        rw [HGL.out] at hv
        subst hv
        obtain ⟨d0, d1, d4, d5, d6⟩ := HS W0 hbr'
        have f1 := k2 W0.drew hbr'.drew
        have hs2' := hs2.next (Below.refl _ W0).drew
        clear hL hEnd HFK HLS HLO hroS hroO hs2 t1 d5 d6
        go_wp2_with fail
        go_region_held3 (fun w' => w'.cell? ⟨w.heap.size, 0, none⟩ = some (.int .u64 P) ∧ w'.cell? ⟨w.heap.size, 1, none⟩ = some (.slice (some ⟨bS, oS, none⟩) (m + 1) cb) ∧ w'.cell? ⟨w.heap.size, 4, none⟩ = some (.int .u64 X))
          (first | (refine ⟨?_, ?_, ?_⟩ <;> assumption) | exact ⟨d0, d1, d4⟩)
          (first | (go_at_call 20; (with_reducible refine f1.mono ?_); rintro e w7 ⟨g7, rfl, hO7, hb7⟩; have hK7 := hbr'.drew.trans (hb7.mono hbr'.drew.size); obtain ⟨e0, e1, e4, e5, e6⟩ := HS w7 hK7; have f3 := k3 w7 hK7; have hs7 := hs2'.next hb7; have hR7 := hO7; clear hb7 hO7 e5 e6) | (go_at_call 20; (with_reducible refine f3.mono ?_); rintro e w8 ⟨g8, rfl, hO8, hb8⟩; have hK8 := hK7.trans (hb8.mono hK7.size); obtain ⟨u0, u1, u4, u5, u6⟩ := HS w8 hK8; have f6 := k6 A2 c2 w8 (hs7.next hb8); have hR8 := own_below hR7 hb8; have hQ8 := hO8; clear hb8 hO8 u5 u6) | (go_at_call 20; (with_reducible refine f6.mono ?_); rintro e w9 ⟨g9, rfl, hO9, hb9⟩; have hK9 := hK8.trans (hb9.mono hK8.size); obtain ⟨y0, y1, y4, y5, y6⟩ := HS w9 hK9; have hR9 := own_below hR8 hb9; have hQ9 := own_below hQ8 hb9; have hT9 := hO9; clear hb9 hO9 y5 y6))
        all_goals
          have HR9 := Lib.hid hR9
          have HQ9 := Lib.hid hQ9
          have HT9 := Lib.hid hT9
          clear hR7 hR8 hR9 hQ8 hQ9 hT9 hs7 hs2' f1 f3 f6 k2 k3 k6 d0 d1 d4 e0 e1 e4 u0 u1 u4 y0 y1 y4
          go_wp2
          go_loopw [13] (fun i wR => ∃ k : Nat, k ≤ m + 1 ∧ i = .int .i64 k ∧ Below w9.heap.size w9 wR) (fun i _ => m + 1 - (intOf i).toNat)
          case atStart => exact ⟨0, Nat.zero_le _, rfl, Below.refl _ _⟩
          case round =>
            obtain ⟨k, hk, rfl, hBk⟩ := hrel
            rename World => W5
            have hbk' := hK9.trans (hBk.mono hK9.size)
            have t1 := HC W5 hbk' 1 _ rfl
            by_cases hlt : k < m + 1
            · have hkm : (k : Int) < ((m + 1 : Nat) : Int) := by omega
              have c7 := OwnAt.cell (OwnAt.next HR9.out hBk) (HGR.out k hlt)
              have c8 := OwnAt.cell (OwnAt.next HQ9.out hBk) (HGQ.out k hlt)
              have c9 := OwnAt.cell (OwnAt.next HT9.out hBk) (HGT.out k hlt)
              have t0 := HC W5 hbk' 0 _ rfl
              have hrb := HBR.out k
              have hqb := HBQ.out k
              have ka := add_any P (co R k) (co Q k) hp hrb.1 hrb.2 hqb.1 hqb.2
              generalize co R k = x7 at c7 c9 ka hrb
              generalize co Q k = x8 at c8 c9 ka hqb
              generalize fadd P x7 x8 = x9 at c9 ka
              have h99 : (x9 != x9) = false := by simp
              go_wp2
              go_quiet (first | (go_at_call 33; exact quiet_left (ka _)))
              go_wp2
              go_roundw
              case rel => exact ⟨k + 1, by omega, by simp, below_drewN hBk _⟩
              case measure => simp [intOf]; omega
            · obtain rfl : k = m + 1 := by omega
              go_wp2_with fail
              refine (awake10 _).mono ?_
              rintro e w10 ⟨rfl, hb10⟩
              have HF := Lib.hid (tow w10 (hbk'.trans (hb10.mono hbk'.size)))
              go_wp2
              go_ret
              exact ⟨rfl, HF.out⟩

theorem lifted (os : Os) (started : os.Started) (H : Type) (enc : TypeId × Value → H) :
    ReturnsInHanded {} Try.checked os 10 .any (Rows.bivariateSharesAndSumsSpec.pre6 enc Try.prog Try.f10 Rows.bivariateSharesAndSumsRow.domain false) (Rows.bivariateSharesAndSumsSpec.post enc Try.prog Try.f10 false true false false) := by
  refine returnsInHanded_of_change (C := Try.checked) own started (by kernel_rfl) Try.func10
    (ChangeSpec.witness6 (enc := enc) (C := Try.checked) false ⟨#[], #[.agg #[.int .u64 0, .slice none 0 0, .slice none 0 0, .int .u64 0, .int .u64 0], .slice none 0 0], []⟩ 8 (by kernel_rfl) (by kernel_rfl) (by kernel_rfl) (by kernel_rfl)) ?_
  intro W base args ds gs before hval0 hW hcnd _
  have hval : ∀ (j : Nat) t v, Try.f10.params[j]? = some t → args[j]? = some v → Value.okWide Try.prog W .any base t v := hval0
  have hW' := hW
  obtain ⟨p, q, hA0, hV, rfl, hfz, hnd⟩ := hW
  have hA : DataW.TrodAll enc Try.prog W 0 (fun _ => true) true Try.f10.params.toList args.toList ds p := hA0
  rw [Try.params10] at hA hval
  obtain ⟨v0, v1, d0, d1, p0, p1, rfl, rfl, rfl, t0, t1⟩ := trodAll_two hA
  obtain ⟨rfl, rfl⟩ := trodVars_none hV
  clear hA0 hval0
  simp only [List.append_nil] at hW'
  have l0 : ∀ x ∈ p0, x.block < W.heap.size := fun x hx => hW'.lt x (by simp [hx])
  obtain ⟨x0, B0, u0, k0, A0, v0, c0, y0, z0, rfl, b0, e0, f0, r0, g0, m0, h0⟩ := arg_trc (hval 0 43 v0 rfl rfl) t0 l0
  have l1 : ∀ x ∈ p1, x.block < W.heap.size := fun x hx => hW'.lt x (by simp [hx])
  obtain ⟨A1, x1, c1, rfl, r1, b1, e1⟩ := arg_ll (hval 1 24 v1 rfl rfl) t1 l1
  refine (walk x0 B0 k0 u0 A0 c0 v0 y0 z0 A1 c1 x1 b0 e0 f0 g0 h0 b1 e1 W r0 m0 r1).mono fun e W' ⟨he, hb⟩ => ?_
  subst he
  exact ⟨_, rfl, post_of_below (pa := p0 ++ p1) (pv := []) hW' (fun _ _ _ => (trodAll_cons_mk (shut_bool Try.underlying4 _) trodAll_mk0)) (fun sp hsp => trodAll_mk2 (stay_trc t0 hb l0 sp (fun x hx => hsp x (by simp [hx]))) (stay_ll t1 hb l1 sp (fun x hx => hsp x (by simp [hx])))) (fun _ _ => rfl) (by simp)
    hb (ok_one (by kernel_rfl) rfl (okWide_bool_mk Try.underlying4 _))⟩

theorem over : Rows.bivariateSharesAndSumsRow.holds Try.pinned (OpenSpec.ofChange Rows.bivariateSharesAndSumsSpec) :=
  OpenClaim.holds_of_wide 10 Try.f10 rfl rfl rfl rfl rfl rfl rfl ⟨rfl, rfl, rfl, rfl, rfl⟩ rfl rfl rfl rfl rfl (by kernel_rfl) Try.func10 (by kernel_rfl)
    (of_decide_eq_true (by kernel_rfl)) (by unfold Func.isWrapper; first | (rw [if_pos (by decide +kernel)]; kernel_rfl) | (rw [if_neg (by decide +kernel)]; exact ⟨rfl, rfl⟩))
    (fun os started H enc _ => lifted os started H enc)

theorem proved : Rows.BivariateSharesAndSumsSaid := over
end Go.Proofs.Ytkhiiiggmhncbaa.bivariateSharesAndSums
