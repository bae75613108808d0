/- Row, Eval and Translate of the reference of layer 10: new memory. Conditions: a supported prime, a square matrix of at most 100 rows over its field, elements. -/
import Derived.Test.YtkhiiiggmhncbaaERef
import Derived.Test.YtkhiiiggmhncbaaEShift
import Derived.Test.YtkhiiiggmhncbaaMB
import Derived.Test.YtkhiiiggmhncbaaMC
import Derived.Test.YtkhiiiggmhncbaaMD
namespace Go.Proofs.Ytkhiiiggmhncbaa
set_option maxRecDepth 100000
open Go.RowKit PolyMath FieldMath MatMath

theorem rows_next (f : Nat → List Int) (k : Nat) : (List.range (k + 1)).map f = (List.range k).map f ++ [f k] := by rw [List.range_succ, List.map_append]; rfl
theorem rows_len (f : Nat → List Int) (k : Nat) : ((List.range k).map f).length = k := by simp

set_option maxHeartbeats 4000000 in
theorem rRow_any (p x : Int) (hp : OkP p) (hx : 0 ≤ x ∧ x < p) (A : Option Addr) (c N : Nat) (S : List (List Int)) (hS : Mat p N N S) (hN : N ≤ 100) (w : World) (h : Sll w A c S) :
    Calls Try.prog 21 #[.int .u64 p, .slice A N c, .int .u64 x] w fun e w' => ∃ A' c', e = .returned (.slice A' N c') ∧ Sl w' A' c' (brow p S x) ∧ Below w.heap.size w w' := by
  obtain ⟨i0, hi, hz0, hz1, hz2⟩ := info_parts info_u64
  have hbd := hp.bd
  have hl := Lib.hid hS.rows
  have hro := Lib.hid fun i (hi : i < N) => hS.ro hi
  have hce := Lib.hid fun k => hS.colm_el (by omega) k
  have hcol : ∀ k, Hid (((List.range N).map fun t => mx S t k) = colm S k) := fun k => Lib.hid (by unfold colm; rw [hl.out])
  have hEnd : Hid (((List.range N).map fun j => pev p (colm S j) x) = brow p S x) := Lib.hid (by unfold brow; rw [hl.out])
  clear hS
  go_enter Try.func21, Try.ntmps21
  go_wp2
  go_loopw [7, 8] (fun o i wr => ∃ k : Nat, k ≤ N ∧ i = .int .i64 k ∧ wr.ownsRow w.heap.size 31 1 o k (((List.range k).map fun j => pev p (colm S j) x).map (Value.int .u64)) ∧ Below w.heap.size w wr) (fun _ i _ => N - (intOf i).toNat)
  case atStart => exact ⟨0, Nat.zero_le _, rfl, World.ownsRow_nil _ _ _ _, Below.refl _ _⟩
  case round =>
    obtain ⟨k, hk, rfl, hO, hB⟩ := hrel
    have hsz := hB.size
    rename World => W0
    by_cases hlt : k < N
    · have hkN : (k : Int) < N := by omega
      obtain ⟨Ao, co', ho⟩ := row_form hO
      subst ho
      have HO := Lib.hid hO
      clear hO
      go_wp2
      go_loopw [9, 10] (fun v i wr => ∃ j : Nat, j ≤ N ∧ i = .int .i64 j ∧ wr.ownsRow W0.heap.size 31 1 v j (((List.range j).map fun t => mx S t k).map (Value.int .u64)) ∧ Below W0.heap.size W0 wr) (fun _ i _ => N - (intOf i).toNat)
      case atStart => exact ⟨0, Nat.zero_le _, rfl, World.ownsRow_nil _ _ _ _, Below.refl _ _⟩
      case round =>
        obtain ⟨j, hj9, rfl, hrow, hB2⟩ := hrel
        have hsz2 := hB2.size
        by_cases hlj : j < N
        · have hjn : (j : Int) < N := by omega
          obtain ⟨b1, o1, A1, c1, hA1, hbl1, hc1, hs1⟩ := h.rowAt (i := j) (L := N) (by rw [hl.out]; exact hlj) (hro.out j hlj).1
          obtain ⟨b3, o3, y, hA3, hbl3, hy, hcy⟩ := hs1.at_ (k := k) (by rw [(hro.out j hlj).1]; exact hlt)
          subst hA1 hA3
          have hY := Lib.hid (mx_at2 hy)
          have d1 := ((hB.trans (hB2.mono hsz)).cell (p := ⟨b1, o1 + j, none⟩) hbl1).trans hc1
          have d3 := ((hB.trans (hB2.mono hsz)).cell (p := ⟨b3, o3 + k, none⟩) hbl3).trans hcy
          obtain ⟨Av, cv, hv⟩ := row_form hrow
          subst hv
          have hO1 := Lib.hid (hrow.alloc (.cells #[.int .u64 y] 31))
          have hB1 := bnew hB2 (.cells #[.int .u64 y] 31) (Nat.le_refl _)
          clear hy hrow
          go_wp2_with (at_builtin; refine wpList_append_own _ rfl _ _ 22 rfl W0.heap.size 31 i0 (.int .u64 0) 1 8 Try.underlying22 hi hz0 hz1 hz2 rfl (by decide) _ _ _ rfl hO1.out ⟨wr.heap.size, 0, none⟩ 1 1 [.int .u64 y] rfl rfl (cell_one_new _ _ _) (by simp [Value.oneCell']) (by simp only [maxLen]; omega) (by omega) (by simp; omega) ?_; intro v6 w6 hown6 hgrow6 _)
          have hB6 := hB1.grown hgrow6 (by simp; omega) (fun x e => (World.ownsRow.lt hO1.out x e).1)
          go_roundw
          case rel => exact ⟨j + 1, by omega, by simp, own_next (f := fun t => mx S t k) (by show World.ownsRow _ _ _ _ _ _ (_ ++ [.int .u64 (mx S j k)]); rw [hY.out]; exact hown6), hB6⟩
          case measure => simp [intOf]; omega
        · obtain rfl : j = N := by omega
          rw [(hcol k).out] at hrow
          obtain ⟨A2, c2, hv, hs2⟩ := own_form hrow
          have hlc : (colm S k).length = j := by rw [colm_len, hl.out]
          rw [hlc] at hv
          subst hv
          have hval := rVal_any p x hp hx A2 c2 (colm S k) (hce.out k) (by omega) wr hs2
          rw [hlc] at hval
          have hOw := own_below HO.out hB2
          have hBB := hB.trans (hB2.mono hsz)
          clear hs2 hrow hlc
          go_wp2_with fail
          refine hval.mono ?_; rintro e w5 ⟨rfl, m, hm⟩
          have hb5 : Below wr.heap.size wr w5 := by rw [hm]; exact below_drewN (Below.refl _ wr) m
          have hO5 := own_below hOw hb5
          have hB5 := hBB.trans (hb5.mono hBB.size)
          have hsz5 := hB5.size
          have hO6 := Lib.hid (hO5.alloc (.cells #[.int .u64 (pev p (colm S k) x)] 31))
          have hB6 := bnew hB5 (.cells #[.int .u64 (pev p (colm S k) x)] 31) (Nat.le_refl _)
          clear hm hb5 hO5 hOw hBB hval
          go_wp2_with (at_builtin; refine wpList_append_own _ rfl _ _ 22 rfl w.heap.size 31 i0 (.int .u64 0) 1 8 Try.underlying22 hi hz0 hz1 hz2 rfl (by decide) _ _ _ rfl hO6.out ⟨w5.heap.size, 0, none⟩ 1 1 [.int .u64 (pev p (colm S k) x)] rfl rfl (cell_one_new _ _ _) (by simp [Value.oneCell']) (by simp only [maxLen]; omega) (by omega) (by simp; omega) ?_; intro v7 w7 hown7 hgrow7 _)
          have hB7 := hB6.grown hgrow7 (by simp; omega) (fun x e => (World.ownsRow.lt hO6.out x e).1)
          go_roundw
          case rel => exact ⟨k + 1, by omega, by simp, own_next (f := fun j => pev p (colm S j) x) hown7, hB7⟩
          case measure => simp [intOf]; omega
    · obtain rfl : k = N := by omega
      rw [hEnd.out] at hO
      obtain ⟨A2, c2, hv, hs2⟩ := own_form hO
      rw [brow_len, hl.out] at hv
      subst hv
      have HS2 := Lib.hid hs2
      clear hs2 hO
      go_wp2
      go_ret
      exact ⟨A2, c2, rfl, HS2.out, hB⟩
theorem rEval_bi (p x y : Int) (hp : OkP p) (hx : 0 ≤ x ∧ x < p) (hy : 0 ≤ y ∧ y < p) (A : Option Addr) (c N : Nat) (S : List (List Int)) (hS : Mat p N N S) (hN : N ≤ 100) (w : World) (h : Sll w A c S) :
    Calls Try.prog 23 #[.int .u64 p, .slice A N c, .int .u64 x, .int .u64 y] w fun e w' => e = .returned (.int .u64 (pev p (brow p S x) y)) ∧ Below w.heap.size w w' := by
  have hbd := hp.bd
  have hrow := rRow_any p x hp hx A c N S hS hN w h
  have hev := fun (A' : Option Addr) (c' : Nat) (W : World) (hs : Sl W A' c' (brow p S x)) => rVal_any p y hp hy A' c' (brow p S x) (brow_el (by omega) S x) (by rw [brow_len, hS.rows]; omega) W hs
  rw [brow_len, hS.rows] at hev
  clear hS h
  go_enter Try.func23, Try.ntmps23
  go_wp2_with fail
  refine hrow.mono ?_; rintro e w1 ⟨A', c', rfl, hs, hb⟩
  go_wp2_with fail
  refine (hev A' c' w1 hs).mono ?_; rintro e w2 ⟨rfl, m, rfl⟩
  go_wp2
  go_ret
  exact ⟨rfl, below_drewN hb m⟩

set_option maxHeartbeats 8000000 in
theorem rTrl_any (p d : Int) (hp : OkP p) (hd : 0 ≤ d ∧ d < p) (A B : Option Addr) (c cb N : Nat) (S : List (List Int)) (Z : List Int) (hS : Mat p N N S) (hN : N ≤ 100) (hZ : El p Z) (hZl : Z.length = N) (w : World) (h : Sll w A c S) (hz : Sl w B cb Z) :
    Calls Try.prog 31 #[.int .u64 p, .slice A N c, .int .u64 d, .slice B N cb] w fun e w' => MatN w e w' N (trl p S d Z) := by
  obtain ⟨i0, hi, hz0, hz1, hz2⟩ := info_parts info_u64
  obtain ⟨j0, hj, hy0, hy1, hy2⟩ := info_parts info_sl
  have hbd := hp.bd
  have hl := Lib.hid hS.rows
  have LZ := Lib.hid hZl
  have hro := Lib.hid fun i (hi : i < N) => hS.ro hi
  obtain ⟨f, hf⟩ : ∃ f : Nat → List Int, f = fun i => (List.range N).map fun j => fadd p (mx S i j) (fmul p d (fmul p (co Z i) (co Z j))) := ⟨_, rfl⟩
  have hEnd : Hid ((List.range N).map f = trl p S d Z) := Lib.hid (by
    rw [hf]; unfold trl; rw [hl.out]
    refine List.map_congr_left fun i _ => List.map_congr_left fun j _ => trl_sum2 _ _ _ _ _)
  have HFK : ∀ k, Hid ((List.range N).map (fun j => fadd p (mx S k j) (fmul p d (fmul p (co Z k) (co Z j)))) = f k) := fun k => Lib.hid (by rw [hf])
  clear hf hS hZl
  go_enter Try.func31, Try.ntmps31
  go_wp2
  go_loopw [9, 10] (fun v i wr => ∃ k : Nat, k ≤ N ∧ i = .int .i64 k ∧ LOwn w.heap.size wr v ((List.range k).map f) ∧ Below w.heap.size w wr) (fun _ i _ => N - (intOf i).toNat)
  case atStart => exact ⟨0, Nat.zero_le _, rfl, LOwn.none _ _, Below.refl _ _⟩
  case round =>
    obtain ⟨k, hk, rfl, hL, hB⟩ := hrel
    have hsz := hB.size
    rename World => W0
    by_cases hlt : k < N
    · have hkN : (k : Int) < N := by omega
      obtain ⟨b1, o1, A1, c1, hA1, hbl1, hc1, hs1⟩ := h.rowAt (i := k) (L := N) (by rw [hl.out]; exact hlt) (hro.out k hlt).1
      obtain ⟨bz, oz, zk, hAz, hblz, hzk, hczk⟩ := hz.at_ (k := k) (by rw [LZ.out]; exact hlt)
      subst hA1 hAz
      have hzkb := hZ zk (List.mem_of_getElem? hzk)
      have hZK := Lib.hid (co_at hzk)
      have hln1 := Lib.hid (hro.out k hlt).1
      have hel1 := (hro.out k hlt).2
      have HNX := Lib.hid (rows_next f k)
      clear hzk
      go_wp2
      go_loopw [11, 12] (fun v i wr => ∃ j : Nat, j ≤ N ∧ i = .int .i64 j ∧ wr.ownsRow W0.heap.size 31 1 v j (((List.range j).map fun j => fadd p (mx S k j) (fmul p d (fmul p (co Z k) (co Z j)))).map (Value.int .u64)) ∧ Below W0.heap.size W0 wr) (fun _ i _ => N - (intOf i).toNat)
      case atStart => exact ⟨0, Nat.zero_le _, rfl, World.ownsRow_nil _ _ _ _, Below.refl _ _⟩
      case round =>
        obtain ⟨j, hj9, rfl, hrow, hB2⟩ := hrel
        have hsz2 := hB2.size
        by_cases hlj : j < N
        · have hjn : (j : Int) < N := by omega
          obtain ⟨b3, o3, x, hA3, hbl3, hx, hcx⟩ := hs1.at_ (k := j) (by rw [hln1.out]; exact hlj)
          obtain ⟨bz', oz', y, hAy, hbly, hy, hcy⟩ := hz.at_ (k := j) (by rw [LZ.out]; exact hlj)
          injection hAy with hAy
          injection hAy with e1 e2
          subst e1 e2 hA3
          have hxb := hel1 x (List.mem_of_getElem? hx)
          have hyb := hZ y (List.mem_of_getElem? hy)
          have hX := Lib.hid (mx_at2 hx)
          have hY := Lib.hid (co_at hy)
          have hm1 := fmul_bd p zk y (by omega)
          have hm2 := fmul_bd p d (fmul p zk y) (by omega)
          have HS : ∀ (W : World), Below W0.heap.size W0 W → W.cell? ⟨b1, o1 + k, none⟩ = some (.slice (some ⟨b3, o3, none⟩) N c1) ∧ W.cell? ⟨b3, o3 + j, none⟩ = some (.int .u64 x) ∧ W.cell? ⟨bz, oz + k, none⟩ = some (.int .u64 zk) ∧ W.cell? ⟨bz, oz + j, none⟩ = some (.int .u64 y) := fun W hW => ⟨((hB.trans (hW.mono hsz)).cell (p := ⟨b1, o1 + k, none⟩) hbl1).trans hc1, ((hB.trans (hW.mono hsz)).cell (p := ⟨b3, o3 + j, none⟩) hbl3).trans hcx, ((hB.trans (hW.mono hsz)).cell (p := ⟨bz, oz + k, none⟩) hblz).trans hczk, ((hB.trans (hW.mono hsz)).cell (p := ⟨bz, oz + j, none⟩) hbly).trans hcy⟩
          obtain ⟨d1, d2, d3, d4⟩ := HS _ hB2
          obtain ⟨Av, cv, hv⟩ := row_form hrow
          subst hv
          have hO1 := Lib.hid (hrow.alloc (.cells #[.int .u64 (fadd p x (fmul p d (fmul p zk y)))] 31))
          have hB1 := (bnew hB2 (.cells #[.int .u64 (fadd p x (fmul p d (fmul p zk y)))] 31) (Nat.le_refl _)).drew
          obtain ⟨q1, q2, q3, q4⟩ := HS _ hB1
          clear hx hy hrow hcx hcy
          go_wp2_with fail
          go_region_held3 (fun w' => w'.cell? ⟨b1, o1 + k, none⟩ = some (.slice (some ⟨b3, o3, none⟩) N c1) ∧ w'.cell? ⟨b3, o3 + j, none⟩ = some (.int .u64 x) ∧ w'.cell? ⟨bz, oz + k, none⟩ = some (.int .u64 zk) ∧ w'.cell? ⟨bz, oz + j, none⟩ = some (.int .u64 y))
            (first | (refine ⟨?_, ?_, ?_, ?_⟩ <;> assumption) | exact ⟨d1, d2, d3, d4⟩ | exact ⟨q1, q2, q3, q4⟩)
            (first | (go_at_call 50; (with_reducible refine (rMul_any p zk y hp hzkb.1 hzkb.2 hyb.1 hyb.2 _).mono ?_); rintro e w' ⟨rfl, rfl⟩) | (go_at_call 50; (with_reducible refine (rMul_any p d (fmul p zk y) hp hd.1 hd.2 hm1.1 hm1.2 _).mono ?_); rintro e w' ⟨rfl, rfl⟩) | (go_at_call 49; (with_reducible refine (rAdd_any p x (fmul p d (fmul p zk y)) hp hxb.1 hxb.2 hm2.1 hm2.2 _).mono ?_); rintro e w' ⟨rfl, rfl⟩) | (refine step_append_own _ (by rfl) _ _ _ (by rfl) W0.heap.size 31 i0 _ 1 8 Try.underlying22 hi hz0 hz1 hz2 rfl (by omega) _ j _ (by rfl) hO1.out ⟨wr.heap.size, 0, none⟩ 1 1 [.int .u64 (fadd p x (fmul p d (fmul p zk y)))] (by rfl) (by rfl) (cell_one_new _ _ _) (by simp [Value.oneCell']) (by simp only [maxLen]; omega) (by omega) (by first | omega | (simp; done) | (simp; omega)) ?_; intro v7 w7 hown7 hgrow7; have hB7 : Below W0.heap.size W0 w7 := hB1.grown hgrow7 (by first | omega | (simp; done) | (simp; omega)) (fun x e => (World.ownsRow.lt hO1.out x e).1); obtain ⟨r1, r2, r3, r4⟩ := HS w7 hB7; have HO7 := Lib.hid hown7; obtain ⟨A7, c7, hv7⟩ := row_form hown7; subst hv7; clear hown7 hgrow7))
          all_goals
            go_wp2
            go_roundw
            case rel => exact ⟨j + 1, by omega, by simp, own_next (f := fun j => fadd p (mx S k j) (fmul p d (fmul p (co Z k) (co Z j)))) (by show World.ownsRow _ _ _ _ _ _ (_ ++ [.int .u64 (fadd p (mx S k j) (fmul p d (fmul p (co Z k) (co Z j))))]); rw [hX.out, hY.out, hZK.out] at *; exact HO7.out), hB7⟩
            case measure => simp [intOf]; omega
        · obtain rfl : j = N := by omega
          rw [(HFK k).out] at hrow
          have HFL : Hid ((f k).length = j) := Lib.hid (by rw [← (HFK k).out]; simp)
          clear hs1
          obtain ⟨A2, c2, hv, hs2⟩ := own_form hrow
          have hty : Ty wr A2 := by rw [hv] at hrow; exact Ty.of_own hrow
          have hlen : (f k).length = j := HFL.out
          rw [hlen] at hv
          subst hv
          obtain ⟨vs, h1, h2⟩ := hL.next hB2
          have hs3 := hs2.push (.cells #[.slice A2 j c2] 22)
          have ht3 := hty.next ((Below.refl _ wr).alloc (Nat.le_refl _) (.cells #[.slice A2 j c2] 22))
          have h1' := own_below h1 ((Below.refl _ wr).alloc (Nat.le_refl _) (.cells #[.slice A2 j c2] 22))
          have h2' : ∀ (i : Nat) (r : List Int), ((List.range k).map f)[i]? = some r → ∃ A c, vs[i]? = some (Value.slice A r.length c) ∧ Sl (wr.alloc (.cells #[.slice A2 j c2] 22)) A c r ∧ Ty (wr.alloc (.cells #[.slice A2 j c2] 22)) A := fun i r hr => by
            obtain ⟨A', c', q1, q2, q3⟩ := h2 i r hr
            exact ⟨A', c', q1, q2.push _, q3.next ((Below.refl _ wr).alloc (Nat.le_refl _) _)⟩
          have hadd := fun (v' : Value) (w2 : World) (hown) (hg) => LOwn.add (v' := v') (w2 := w2) h1' h2' hs3 ht3 hown hg
          have hBB := hB.trans (hB2.mono hsz)
          have hszB := hBB.size
          have hADD := Lib.hid hadd
          have HLE := Lib.hid hlen
          clear hadd hs3 h2' h2 hs2 hrow hlen
          rw [rows_len] at h1'
          go_wp2_with (at_builtin; refine wpList_append_own _ rfl _ _ 24 rfl w.heap.size 22 j0 (.slice none 0 0) 1 24 Try.underlying24 hj hy0 hy1 hy2 rfl (by decide) _ _ _ rfl h1' ⟨wr.heap.size, 0, none⟩ 1 1 [.slice A2 j c2] rfl rfl (cell_one_new _ _ _) (by simp [Value.oneCell']) (by simp only [maxLen]; omega) (by omega) (by simp; omega) ?_; intro v' w2 hown' hgrow _)
          have hB4 : Below w.heap.size w w2 := (hBB.alloc hszB _).grown hgrow (by simp; omega) (fun k e => (World.ownsRow.lt h1' k e).1)
          have hLL := hADD.out v' w2 (by rw [HLE.out, rows_len]; exact hown') hgrow
          rw [← HNX.out] at hLL
          go_roundw
          case rel => exact ⟨k + 1, by omega, by simp, hLL, hB4⟩
          case measure => simp [intOf]; omega
    · obtain rfl : k = N := by omega
      rw [hEnd.out] at hL
      obtain ⟨A2, c2, hv, hs2⟩ := hL.form
      rw [trl_len, hl.out] at hv
      subst hv
      go_wp2
      go_ret
      exact ⟨A2, c2, rfl, hs2, hB⟩
end Go.Proofs.Ytkhiiiggmhncbaa
