/- Texts joined: WRefO, WPolO, WRefC, WRefS, WRefF. Each says its own conditions. -/
import Derived.Test.YtddbdjhgmeeakaaMF
import Derived.Test.YtddbdjhgmeeakaaMC
import Derived.Deep.RegionHeld3
import Derived.Test.YtddbdjhgmeeakaaME
/- Add, Scale, Sub, Constant and LocalShares of the reference of layer 9: new matrices. Conditions: a supported prime, words of its field, sharings of one shape, at most 100 rows and words in a row. -/
namespace Go.Proofs.Ytddbdjhgmeeakaa
set_option maxRecDepth 100000
open Go.RowKit PolyMath FieldMath MatMath

theorem rows_next (f : Nat → List Int) (k : Nat) : (List.range (k + 1)).map f = (List.range k).map f ++ [f k] := by rw [List.range_succ, List.map_append]; rfl
theorem rows_len (f : Nat → List Int) (k : Nat) : ((List.range k).map f).length = k := by simp

set_option maxHeartbeats 8000000 in
theorem rAdd_mat (p : Int) (hp : OkP p) (n N : Nat) (hn : n ≤ 100) (hN : N ≤ 100) (A B : Option Addr) (ca cb : Nat) (ra rb : List (List Int)) (ha : Msh p n ra) (hb : Msh p n rb) (la : ra.length = N) (lb : rb.length = N) (w : World) (sa : Sll w A ca ra) (sb : Sll w B cb rb) :
    Calls Try.prog 32 #[.int .u64 p, .slice A N ca, .slice B N cb] w fun e w' => Rows2 w e w' N ((List.range N).map fun i => zipF (fadd p) (ro ra i) (ro rb i) n) := by
  obtain ⟨i0, hi, hz0, hz1, hz2⟩ := info_parts info_u64
  obtain ⟨j0, hj, hy0, hy1, hy2⟩ := info_parts info_sl
  have hbd := hp.bd
  have LA := Lib.hid la
  have LB := Lib.hid lb
  obtain ⟨f, hf⟩ : ∃ f : Nat → List Int, f = fun i => zipF (fadd p) (ro ra i) (ro rb i) n := ⟨_, rfl⟩
  have HFK : ∀ k, Hid ((List.range n).map (fun j => fadd p (co (ro ra k) j) (co (ro rb k) j)) = f k) := fun k => Lib.hid (by rw [hf]; rfl)
  rw [← hf]
  clear la lb hf
  go_enter Try.func32, Try.ntmps32
  go_wp2
  go_loopw [7, 8] (fun v i wr => ∃ k : Nat, k ≤ N ∧ i = .int .i64 k ∧ LOwn w.heap.size wr v ((List.range k).map f) ∧ Below w.heap.size w wr) (fun _ i _ => N - (intOf i).toNat)
  case atStart => exact ⟨0, Nat.zero_le _, rfl, LOwn.none _ _, Below.refl _ _⟩
  case round =>
    obtain ⟨k, hk, rfl, hL, hB⟩ := hrel
    have hsz := hB.size
    rename World => W0
    by_cases hlt : k < N
    · have hkN : (k : Int) < N := by omega
      obtain ⟨b1, o1, A1, c1, hA1, hbl1, hc1, hs1⟩ := sa.rowAt (i := k) (L := n) (by rw [LA.out]; exact hlt) (ha k (by rw [LA.out]; exact hlt)).1
      obtain ⟨b2, o2, A2, c2, hA2, hbl2, hc2, hs2⟩ := sb.rowAt (i := k) (L := n) (by rw [LB.out]; exact hlt) (hb k (by rw [LB.out]; exact hlt)).1
      subst hA1 hA2
      have hln1 := Lib.hid (ha k (by rw [LA.out]; exact hlt)).1
      have hln2 := Lib.hid (hb k (by rw [LB.out]; exact hlt)).1
      have hel1 := (ha k (by rw [LA.out]; exact hlt)).2
      have hel2 := (hb k (by rw [LB.out]; exact hlt)).2
      have HNX := Lib.hid (rows_next f k)
      go_wp2
      go_loopw [9, 10] (fun v i wr => ∃ j : Nat, j ≤ n ∧ i = .int .i64 j ∧ wr.ownsRow W0.heap.size 22 1 v j (((List.range j).map fun j => fadd p (co (ro ra k) j) (co (ro rb k) j)).map (Value.int .u64)) ∧ Below W0.heap.size W0 wr) (fun _ i _ => n - (intOf i).toNat)
      case atStart => exact ⟨0, Nat.zero_le _, rfl, World.ownsRow_nil _ _ _ _, Below.refl _ _⟩
      case round =>
        obtain ⟨j, hj9, rfl, hrow, hB2⟩ := hrel
        have hsz2 := hB2.size
        have d1 := ((hB.trans (hB2.mono hsz)).cell (p := ⟨b1, o1 + k, none⟩) hbl1).trans hc1
        by_cases hlj : j < n
        · have hjn : (j : Int) < n := by omega
          have d2 := ((hB.trans (hB2.mono hsz)).cell (p := ⟨b2, o2 + k, none⟩) hbl2).trans hc2
          obtain ⟨b3, o3, x, hA3, hbl3, hx, hcx⟩ := hs1.at_ (k := j) (by rw [hln1.out]; exact hlj)
          obtain ⟨b4, o4, y, hA4, hbl4, hy, hcy⟩ := hs2.at_ (k := j) (by rw [hln2.out]; exact hlj)
          subst hA3 hA4
          have hxb := hel1 x (List.mem_of_getElem? hx)
          have hyb := hel2 y (List.mem_of_getElem? hy)
          have d3 := ((hB.trans (hB2.mono hsz)).cell (p := ⟨b3, o3 + j, none⟩) hbl3).trans hcx
          have d4 := ((hB.trans (hB2.mono hsz)).cell (p := ⟨b4, o4 + j, none⟩) hbl4).trans hcy
          have hX := Lib.hid (co_at hx)
          have hY := Lib.hid (co_at hy)
          have HS : ∀ (W : World), Below W0.heap.size W0 W → W.cell? ⟨b1, o1 + k, none⟩ = some (.slice (some ⟨b3, o3, none⟩) n c1) ∧ W.cell? ⟨b2, o2 + k, none⟩ = some (.slice (some ⟨b4, o4, none⟩) n c2) ∧ W.cell? ⟨b3, o3 + j, none⟩ = some (.int .u64 x) ∧ W.cell? ⟨b4, o4 + j, none⟩ = some (.int .u64 y) := fun W hW => ⟨((hB.trans (hW.mono hsz)).cell (p := ⟨b1, o1 + k, none⟩) hbl1).trans hc1, ((hB.trans (hW.mono hsz)).cell (p := ⟨b2, o2 + k, none⟩) hbl2).trans hc2, ((hB.trans (hW.mono hsz)).cell (p := ⟨b3, o3 + j, none⟩) hbl3).trans hcx, ((hB.trans (hW.mono hsz)).cell (p := ⟨b4, o4 + j, none⟩) hbl4).trans hcy⟩
          obtain ⟨Av, cv, rfl⟩ := row_form11 hrow
          have hO1 := Lib.hid (hrow.alloc (.cells #[.int .u64 (fadd p x y)] 22))
          have hB1 := (bnew hB2 (.cells #[.int .u64 (fadd p x y)] 22) (Nat.le_refl _)).drew
          obtain ⟨q1, q2, q3, q4⟩ := HS _ hB1
          clear hx hy hrow
          go_wp2_with fail
          go_region_held3 (fun w' => w'.cell? ⟨b1, o1 + k, none⟩ = some (.slice (some ⟨b3, o3, none⟩) n c1) ∧ w'.cell? ⟨b2, o2 + k, none⟩ = some (.slice (some ⟨b4, o4, none⟩) n c2) ∧ w'.cell? ⟨b3, o3 + j, none⟩ = some (.int .u64 x) ∧ w'.cell? ⟨b4, o4 + j, none⟩ = some (.int .u64 y))
            (first | (refine ⟨?_, ?_, ?_, ?_⟩ <;> assumption) | exact ⟨d1, d2, d3, d4⟩ | exact ⟨q1, q2, q3, q4⟩)
            (first | (go_at_call 60; (with_reducible refine (rAdd_any _ _ _ hp hxb.1 hxb.2 hyb.1 hyb.2 _).mono ?_); rintro e w' ⟨rfl, rfl⟩) | (refine step_append_own _ (by rfl) _ _ _ (by rfl) W0.heap.size 22 i0 _ 1 8 Try.underlying23 hi hz0 hz1 hz2 rfl (by omega) _ j _ (by rfl) hO1.out ⟨wr.heap.size, 0, none⟩ 1 1 [.int .u64 (fadd p x y)] (by rfl) (by rfl) (cell_one_new _ _ _) (by simp [Value.oneCell']) (by simp only [maxLen]; omega) (by omega) (by first | omega | (simp; done) | (simp; omega)) ?_; intro v7 w7 hown7 hgrow7; have hB7 : Below W0.heap.size W0 w7 := hB1.grown hgrow7 (by first | omega | (simp; done) | (simp; omega)) (fun x e => (World.ownsRow.lt hO1.out x e).1); obtain ⟨r1, r2, r3, r4⟩ := HS w7 hB7; have HO7 := Lib.hid hown7; obtain ⟨A7, c7, rfl⟩ := row_form11 hown7; clear hown7 hgrow7))
          all_goals
            go_wp2
            go_roundw
            case rel => exact ⟨j + 1, by omega, by simp, own_next (f := fun j => fadd p (co (ro ra k) j) (co (ro rb k) j)) (by show World.ownsRow _ _ _ _ _ _ (_ ++ [.int .u64 (fadd p (co (ro ra k) j) (co (ro rb k) j))]); rw [hX.out, hY.out]; exact HO7.out), hB7⟩
            case measure => simp [intOf]; omega
        · obtain rfl : j = n := by omega
          rw [(HFK k).out] at hrow
          have HFL : Hid ((f k).length = j) := Lib.hid (by rw [← (HFK k).out]; simp)
          clear hs1 hs2
          obtain ⟨A2, c2, hv, hs2⟩ := own_form hrow
          have hty : Ty wr A2 := by rw [hv] at hrow; exact Ty.of_own hrow
          have hlen : (f k).length = j := HFL.out
          rw [hlen] at hv
          subst hv
          obtain ⟨vs, h1, h2⟩ := hL.next hB2
          have hs3 := hs2.push (.cells #[.slice A2 j c2] 23)
          have ht3 := hty.next ((Below.refl _ wr).alloc (Nat.le_refl _) (.cells #[.slice A2 j c2] 23))
          have h1' := own_below h1 ((Below.refl _ wr).alloc (Nat.le_refl _) (.cells #[.slice A2 j c2] 23))
          have h2' : ∀ (i : Nat) (r : List Int), ((List.range k).map f)[i]? = some r → ∃ A c, vs[i]? = some (Value.slice A r.length c) ∧ Sl (wr.alloc (.cells #[.slice A2 j c2] 23)) A c r ∧ Ty (wr.alloc (.cells #[.slice A2 j c2] 23)) A := fun i r hr => by
            obtain ⟨A', c', q1, q2, q3⟩ := h2 i r hr
            exact ⟨A', c', q1, q2.push _, q3.next ((Below.refl _ wr).alloc (Nat.le_refl _) _)⟩
          have hadd := fun (v' : Value) (w2 : World) (hown) (hg) => LOwn.add (v' := v') (w2 := w2) h1' h2' hs3 ht3 hown hg
          have hBB := hB.trans (hB2.mono hsz)
          have hszB := hBB.size
          have hADD := Lib.hid hadd
          have HLE := Lib.hid hlen
          clear hadd hs3 h2' h2 hs2 hrow hlen
          rw [rows_len] at h1'
          go_wp2_with (at_builtin; refine wpList_append_own _ rfl _ _ 57 rfl w.heap.size 23 j0 (.slice none 0 0) 1 24 Try.underlying57 hj hy0 hy1 hy2 rfl (by decide) _ _ _ rfl h1' ⟨wr.heap.size, 0, none⟩ 1 1 [.slice A2 j c2] rfl rfl (cell_one_new _ _ _) (by simp [Value.oneCell']) (by simp only [maxLen]; omega) (by omega) (by simp; omega) ?_; intro v' w2 hown' hgrow _)
          have hB4 : Below w.heap.size w w2 := (hBB.alloc hszB _).grown hgrow (by simp; omega) (fun k e => (World.ownsRow.lt h1' k e).1)
          have hLL := hADD.out v' w2 (by rw [HLE.out, rows_len]; exact hown') hgrow
          rw [← HNX.out] at hLL
          go_roundw
          case rel => exact ⟨k + 1, by omega, by simp, hLL, hB4⟩
          case measure => simp [intOf]; omega
    · obtain rfl : k = N := by omega
      obtain ⟨A2, c2, hv, hs2⟩ := hL.form
      rw [rows_len] at hv
      subst hv
      go_wp2
      go_ret
      exact ⟨A2, c2, rfl, rows_len _ _, hs2, hB⟩

set_option maxHeartbeats 8000000 in
theorem rScale_mat (p K : Int) (hp : OkP p) (hK : 0 ≤ K ∧ K < p) (n N : Nat) (hn : n ≤ 100) (hN : N ≤ 100) (A : Option Addr) (ca : Nat) (ra : List (List Int)) (ha : Msh p n ra) (la : ra.length = N) (w : World) (sa : Sll w A ca ra) :
    Calls Try.prog 36 #[.int .u64 p, .int .u64 K, .slice A N ca] w fun e w' => Rows2 w e w' N ((List.range N).map fun i => mapF (fmul p K) (ro ra i) n) := by
  obtain ⟨i0, hi, hz0, hz1, hz2⟩ := info_parts info_u64
  obtain ⟨j0, hj, hy0, hy1, hy2⟩ := info_parts info_sl
  have hbd := hp.bd
  have LA := Lib.hid la
  obtain ⟨f, hf⟩ : ∃ f : Nat → List Int, f = fun i => mapF (fmul p K) (ro ra i) n := ⟨_, rfl⟩
  have HFK : ∀ k, Hid ((List.range n).map (fun j => fmul p K (co (ro ra k) j)) = f k) := fun k => Lib.hid (by rw [hf]; rfl)
  rw [← hf]
  clear la hf
  go_enter Try.func36, Try.ntmps36
  go_wp2
  go_loopw [7, 8] (fun v i wr => ∃ k : Nat, k ≤ N ∧ i = .int .i64 k ∧ LOwn w.heap.size wr v ((List.range k).map f) ∧ Below w.heap.size w wr) (fun _ i _ => N - (intOf i).toNat)
  case atStart => exact ⟨0, Nat.zero_le _, rfl, LOwn.none _ _, Below.refl _ _⟩
  case round =>
    obtain ⟨k, hk, rfl, hL, hB⟩ := hrel
    have hsz := hB.size
    rename World => W0
    by_cases hlt : k < N
    · have hkN : (k : Int) < N := by omega
      obtain ⟨b1, o1, A1, c1, hA1, hbl1, hc1, hs1⟩ := sa.rowAt (i := k) (L := n) (by rw [LA.out]; exact hlt) (ha k (by rw [LA.out]; exact hlt)).1
      subst hA1
      have hln1 := Lib.hid (ha k (by rw [LA.out]; exact hlt)).1
      have hel1 := (ha k (by rw [LA.out]; exact hlt)).2
      have HNX := Lib.hid (rows_next f k)
      go_wp2
      go_loopw [9, 10] (fun v i wr => ∃ j : Nat, j ≤ n ∧ i = .int .i64 j ∧ wr.ownsRow W0.heap.size 22 1 v j (((List.range j).map fun j => fmul p K (co (ro ra k) j)).map (Value.int .u64)) ∧ Below W0.heap.size W0 wr) (fun _ i _ => n - (intOf i).toNat)
      case atStart => exact ⟨0, Nat.zero_le _, rfl, World.ownsRow_nil _ _ _ _, Below.refl _ _⟩
      case round =>
        obtain ⟨j, hj9, rfl, hrow, hB2⟩ := hrel
        have hsz2 := hB2.size
        have d1 := ((hB.trans (hB2.mono hsz)).cell (p := ⟨b1, o1 + k, none⟩) hbl1).trans hc1
        by_cases hlj : j < n
        · have hjn : (j : Int) < n := by omega
          obtain ⟨b3, o3, x, hA3, hbl3, hx, hcx⟩ := hs1.at_ (k := j) (by rw [hln1.out]; exact hlj)
          subst hA3
          have hxb := hel1 x (List.mem_of_getElem? hx)
          have d3 := ((hB.trans (hB2.mono hsz)).cell (p := ⟨b3, o3 + j, none⟩) hbl3).trans hcx
          have hX := Lib.hid (co_at hx)
          have hmu := rMul_any p K x hp hK.1 hK.2 hxb.1 hxb.2 wr
          clear hx
          go_wp2_with (first | (go_at_call 62; refine hmu.mono ?_; rintro e w' ⟨rfl, rfl⟩) | (at_builtin; refine wpList_append_own _ rfl _ _ 23 rfl W0.heap.size 22 i0 (.int .u64 0) 1 8 Try.underlying23 hi hz0 hz1 hz2 rfl (by decide) _ _ _ rfl (hrow.alloc _) ⟨wr.heap.size, 0, none⟩ 1 1 [.int .u64 (fmul p K x)] rfl rfl (cell_one_new _ _ _) (by simp [Value.oneCell']) (by simp only [maxLen]; omega) (by omega) (by simp; omega) ?_; intro v' w3 hown' hgrow _; have hB3 : Below W0.heap.size W0 w3 := (hB2.alloc hsz2 _).grown hgrow (by simp; omega) (fun k e => (hrow.lt k e).1)))
          go_roundw
          case rel => exact ⟨j + 1, by omega, by simp, own_next (f := fun j => fmul p K (co (ro ra k) j)) (by show World.ownsRow _ _ _ _ _ _ (_ ++ [.int .u64 (fmul p K (co (ro ra k) j))]); rw [hX.out]; exact hown'), hB3⟩
          case measure => simp [intOf]; omega
        · obtain rfl : j = n := by omega
          rw [(HFK k).out] at hrow
          have HFL : Hid ((f k).length = j) := Lib.hid (by rw [← (HFK k).out]; simp)
          clear hs1
          obtain ⟨A2, c2, hv, hs2⟩ := own_form hrow
          have hty : Ty wr A2 := by rw [hv] at hrow; exact Ty.of_own hrow
          have hlen : (f k).length = j := HFL.out
          rw [hlen] at hv
          subst hv
          obtain ⟨vs, h1, h2⟩ := hL.next hB2
          have hs3 := hs2.push (.cells #[.slice A2 j c2] 23)
          have ht3 := hty.next ((Below.refl _ wr).alloc (Nat.le_refl _) (.cells #[.slice A2 j c2] 23))
          have h1' := own_below h1 ((Below.refl _ wr).alloc (Nat.le_refl _) (.cells #[.slice A2 j c2] 23))
          have h2' : ∀ (i : Nat) (r : List Int), ((List.range k).map f)[i]? = some r → ∃ A c, vs[i]? = some (Value.slice A r.length c) ∧ Sl (wr.alloc (.cells #[.slice A2 j c2] 23)) A c r ∧ Ty (wr.alloc (.cells #[.slice A2 j c2] 23)) A := fun i r hr => by
            obtain ⟨A', c', q1, q2, q3⟩ := h2 i r hr
            exact ⟨A', c', q1, q2.push _, q3.next ((Below.refl _ wr).alloc (Nat.le_refl _) _)⟩
          have hadd := fun (v' : Value) (w2 : World) (hown) (hg) => LOwn.add (v' := v') (w2 := w2) h1' h2' hs3 ht3 hown hg
          have hBB := hB.trans (hB2.mono hsz)
          have hszB := hBB.size
          have hADD := Lib.hid hadd
          have HLE := Lib.hid hlen
          clear hadd hs3 h2' h2 hs2 hrow hlen
          rw [rows_len] at h1'
          go_wp2_with (at_builtin; refine wpList_append_own _ rfl _ _ 57 rfl w.heap.size 23 j0 (.slice none 0 0) 1 24 Try.underlying57 hj hy0 hy1 hy2 rfl (by decide) _ _ _ rfl h1' ⟨wr.heap.size, 0, none⟩ 1 1 [.slice A2 j c2] rfl rfl (cell_one_new _ _ _) (by simp [Value.oneCell']) (by simp only [maxLen]; omega) (by omega) (by simp; omega) ?_; intro v' w2 hown' hgrow _)
          have hB4 : Below w.heap.size w w2 := (hBB.alloc hszB _).grown hgrow (by simp; omega) (fun k e => (World.ownsRow.lt h1' k e).1)
          have hLL := hADD.out v' w2 (by rw [HLE.out, rows_len]; exact hown') hgrow
          rw [← HNX.out] at hLL
          go_roundw
          case rel => exact ⟨k + 1, by omega, by simp, hLL, hB4⟩
          case measure => simp [intOf]; omega
    · obtain rfl : k = N := by omega
      obtain ⟨A2, c2, hv, hs2⟩ := hL.form
      rw [rows_len] at hv
      subst hv
      go_wp2
      go_ret
      exact ⟨A2, c2, rfl, rows_len _ _, hs2, hB⟩

set_option maxHeartbeats 8000000 in
theorem rLocal_mat (n N : Nat) (hn0 : 0 < n) (hn : n ≤ 100) (hN : N ≤ 100) (A : Option Addr) (ca : Nat) (ms : List (List (List Int))) (la : ms.length = n) (hlong : ∀ (j : Nat) m i, ms[j]? = some m → i < N → 0 < (ro m i).length) (w : World) (sa : S3 w A ca N ms) :
    Calls Try.prog 41 #[.slice A n ca] w fun e w' => Rows2 w e w' N ((List.range N).map (locR ms)) := by
  obtain ⟨i0, hi, hz0, hz1, hz2⟩ := info_parts info_u64
  obtain ⟨j0, hj, hy0, hy1, hy2⟩ := info_parts info_sl
  have LA := Lib.hid la
  obtain ⟨f, hf⟩ : ∃ f : Nat → List Int, f = locR ms := ⟨_, rfl⟩
  have HFK : ∀ k, Hid ((List.range n).map (fun j => co (ro (ms[j]?.getD []) k) 0) = f k) := fun k => Lib.hid (by rw [hf, ← la]; rfl)
  obtain ⟨b0, o0, m0, A0, c0, hA0, hbl0, hm0, hl0, hc0, hs0⟩ := sa.at_ (k := 0) (by omega)
  subst hA0
  rw [Nat.add_zero] at hc0
  rw [← hf]
  have hn0I : ¬ (n : Int) = 0 := by omega
  have hn0b : ((n : Int) == 0) = false := beq_eq_false_iff_ne.2 hn0I
  have hn0N : ¬ n = 0 := by omega
  have hn0p : (0 : Int) < n := by omega
  clear la hf hm0 hl0 hs0
  go_enter Try.func41, Try.ntmps41
  go_wp2
  go_loopw [3, 4] (fun v i wr => ∃ k : Nat, k ≤ N ∧ i = .int .i64 k ∧ LOwn w.heap.size wr v ((List.range k).map f) ∧ Below w.heap.size w wr) (fun _ i _ => N - (intOf i).toNat)
  case atStart => exact ⟨0, Nat.zero_le _, rfl, LOwn.none _ _, Below.refl _ _⟩
  case round =>
    obtain ⟨k, hk, rfl, hL, hB⟩ := hrel
    have hsz := hB.size
    rename World => W0
    have d0 := (hB.cell (p := ⟨b0, o0, none⟩) hbl0).trans hc0
    by_cases hlt : k < N
    · have hkN : (k : Int) < N := by omega
      have HNX := Lib.hid (rows_next f k)
      go_wp2
      go_loopw [5, 6] (fun v i wr => ∃ j : Nat, j ≤ n ∧ i = .int .i64 j ∧ wr.ownsRow W0.heap.size 22 1 v j (((List.range j).map fun j => co (ro (ms[j]?.getD []) k) 0).map (Value.int .u64)) ∧ Below W0.heap.size W0 wr) (fun _ i _ => n - (intOf i).toNat)
      case atStart => exact ⟨0, Nat.zero_le _, rfl, World.ownsRow_nil _ _ _ _, Below.refl _ _⟩
      case round =>
        obtain ⟨j, hj9, rfl, hrow, hB2⟩ := hrel
        have hsz2 := hB2.size
        by_cases hlj : j < n
        · have hjn : (j : Int) < n := by omega
          obtain ⟨b2, o2, m, A2, c2, hA2, hbl2, hm, hml, hcx, hsm⟩ := (sa.next (hB.trans (hB2.mono hsz))).at_ (k := j) (by rw [LA.out]; exact hlj)
          injection hA2 with hA2
          injection hA2 with e1 e2
          subst e1 e2
          have hpos := hlong j m k hm hlt
          obtain ⟨b3, o3, A3, c3, hA3, hbl3, hc3, hs3⟩ := hsm.rowAt (i := k) (by omega) rfl
          subst hA3
          obtain ⟨b4, o4, x, hA4, hbl4, hx, hcx4⟩ := hs3.at_ (k := 0) hpos
          subst hA4
          rw [Nat.add_zero] at hcx4
          have hX : Hid (co (ro (ms[j]?.getD []) k) 0 = x) := Lib.hid (by rw [hm, Option.getD_some]; exact co_at hx)
          have hp0 : (0 : Int) < (ro m k).length := by omega
          clear hx hm hml hlong
          go_wp2_with (at_builtin; refine wpList_append_own _ rfl _ _ 23 rfl W0.heap.size 22 i0 (.int .u64 0) 1 8 Try.underlying23 hi hz0 hz1 hz2 rfl (by decide) _ _ _ rfl (hrow.alloc _) ⟨wr.heap.size, 0, none⟩ 1 1 [.int .u64 x] rfl rfl (cell_one_new _ _ _) (by simp [Value.oneCell']) (by simp only [maxLen]; omega) (by omega) (by simp; omega) ?_; intro v' w3 hown' hgrow _; have hB3 : Below W0.heap.size W0 w3 := (hB2.alloc hsz2 _).grown hgrow (by simp; omega) (fun k e => (hrow.lt k e).1))
          go_roundw
          case rel => exact ⟨j + 1, by omega, by simp, own_next (f := fun j => co (ro (ms[j]?.getD []) k) 0) (by show World.ownsRow _ _ _ _ _ _ (_ ++ [.int .u64 (co (ro (ms[j]?.getD []) k) 0)]); rw [hX.out]; exact hown'), hB3⟩
          case measure => simp [intOf]; omega
        · obtain rfl : j = n := by omega
          rw [(HFK k).out] at hrow
          have HFL : Hid ((f k).length = j) := Lib.hid (by rw [← (HFK k).out]; simp)
          obtain ⟨A2, c2, hv, hs2⟩ := own_form hrow
          have hty : Ty wr A2 := by rw [hv] at hrow; exact Ty.of_own hrow
          have hlen : (f k).length = j := HFL.out
          rw [hlen] at hv
          subst hv
          obtain ⟨vs, h1, h2⟩ := hL.next hB2
          have hs3 := hs2.push (.cells #[.slice A2 j c2] 23)
          have ht3 := hty.next ((Below.refl _ wr).alloc (Nat.le_refl _) (.cells #[.slice A2 j c2] 23))
          have h1' := own_below h1 ((Below.refl _ wr).alloc (Nat.le_refl _) (.cells #[.slice A2 j c2] 23))
          have h2' : ∀ (i : Nat) (r : List Int), ((List.range k).map f)[i]? = some r → ∃ A c, vs[i]? = some (Value.slice A r.length c) ∧ Sl (wr.alloc (.cells #[.slice A2 j c2] 23)) A c r ∧ Ty (wr.alloc (.cells #[.slice A2 j c2] 23)) A := fun i r hr => by
            obtain ⟨A', c', q1, q2, q3⟩ := h2 i r hr
            exact ⟨A', c', q1, q2.push _, q3.next ((Below.refl _ wr).alloc (Nat.le_refl _) _)⟩
          have hadd := fun (v' : Value) (w2 : World) (hown) (hg) => LOwn.add (v' := v') (w2 := w2) h1' h2' hs3 ht3 hown hg
          have hBB := hB.trans (hB2.mono hsz)
          have hszB := hBB.size
          have hADD := Lib.hid hadd
          have HLE := Lib.hid hlen
          clear hadd hs3 h2' h2 hs2 hrow hlen
          rw [rows_len] at h1'
          go_wp2_with (at_builtin; refine wpList_append_own _ rfl _ _ 56 rfl w.heap.size 23 j0 (.slice none 0 0) 1 24 Try.underlying56 hj hy0 hy1 hy2 rfl (by decide) _ _ _ rfl h1' ⟨wr.heap.size, 0, none⟩ 1 1 [.slice A2 j c2] rfl rfl (cell_one_new _ _ _) (by simp [Value.oneCell']) (by simp only [maxLen]; omega) (by omega) (by simp; omega) ?_; intro v' w2 hown' hgrow _)
          have hB4 : Below w.heap.size w w2 := (hBB.alloc hszB _).grown hgrow (by simp; omega) (fun k e => (World.ownsRow.lt h1' k e).1)
          have hLL := hADD.out v' w2 (by rw [HLE.out, rows_len]; exact hown') hgrow
          rw [← HNX.out] at hLL
          go_roundw
          case rel => exact ⟨k + 1, by omega, by simp, hLL, hB4⟩
          case measure => simp [intOf]; omega
    · obtain rfl : k = N := by omega
      obtain ⟨A2, c2, hv, hs2⟩ := hL.form
      rw [rows_len] at hv
      subst hv
      go_wp2
      go_ret
      exact ⟨A2, c2, rfl, rows_len _ _, hs2, hB⟩
end Go.Proofs.Ytddbdjhgmeeakaa

/- Polynomial of the reference of layer 5, and what it calls: the words lie in new memory. Conditions: a supported prime, coordinates in its field, at most 100 points. -/
namespace Go.Proofs.Ytddbdjhgmeeakaa
set_option maxRecDepth 100000
open Go.RowKit PolyMath FieldMath

set_option maxHeartbeats 1000000 in
theorem rTrim_own (A : Option Addr) (c : Nat) (xs : List Int) (w : World) (h : Sl w A c xs) (hl : xs.length ≤ 1000) :
    Calls Try.prog 92 #[.slice A xs.length c] w fun e w' => Fresh w e w' (trim xs) := by
  obtain ⟨i0, hi, hz0, hz1, hz2⟩ := info_parts info_u64
  have hcap := h.cap
  have hlit := own_lit0 w
  go_enter Try.func92, Try.ntmps92
  go_wp2
  go_loop [3] (fun i => ∃ k : Nat, k ≤ xs.length ∧ i = .int .i64 k ∧ Hid (Fin (co xs) k)) (fun i => (intOf i).toNat)
  case atStart => exact ⟨xs.length, Nat.le_refl _, rfl, Lib.hid (co_fin xs)⟩
  case round =>
    obtain ⟨k, hk, rfl, hF⟩ := hrel
    cases k with
    | zero =>
      have hT := Lib.hid (tn_eq hF.out (fun h => absurd h (by omega)))
      clear hF
      have hend := Lib.hid ((trim_nil_iff xs).2 hT.out)
      cases A with
      | none =>
        obtain ⟨rfl, rfl⟩ := h.empty rfl
        go_wp2_with (at_builtin; refine wpList_append_own_none rfl _ _ 23 rfl w.heap.size 22 i0 1 Try.underlying23 hi _ _ _ rfl hlit.out rfl ?_)
        go_ret
        rw [hend.out]
        exact ⟨_, rfl, hlit.out, (Below.refl _ w).alloc (Nat.le_refl _) _⟩
      | some ad =>
        have hnw := Lib.hid (h.news (.cells #[] 22) 0)
        clear h
        go_wp2_with (at_builtin; refine wpList_append_own _ rfl _ _ 23 rfl w.heap.size 22 i0 (.int .u64 0) 1 8 Try.underlying23 hi hz0 hz1 hz2 rfl (by decide) _ _ _ rfl hlit.out ad 0 c [] rfl rfl hnw.out (fun _ h => absurd h (by simp)) (by simp only [maxLen]; omega) (by omega) (by simp) ?_; intro v' w1 hown hgrow _)
        go_ret
        rw [hend.out]
        exact ⟨v', rfl, by simpa using hown, ((Below.refl _ w).alloc (Nat.le_refl _) _).grown hgrow (by simp) (fun k e => (hlit.out.lt k e).1)⟩
    | succ m =>
      obtain ⟨b, off, x, hA, _, hx, hc⟩ := h.at_ (k := m) (by omega)
      subst hA
      have hm : (m : Int) < xs.length := by omega
      by_cases hz : x = 0
      · subst hz
        have hN : Hid (Fin (co xs) m) := Lib.hid fun n hn => by
          by_cases e : n = m
          · subst e; exact co_at hx
          · exact hF.out n (by omega)
        clear hF hx
        go_wp2
        go_round
        case rel => exact ⟨m, by omega, by simp, hN⟩
        case measure => simp [intOf]
      · have ht : tn xs = m + 1 := tn_eq hF.out (fun _ => by rw [Nat.add_sub_cancel, co_at hx]; exact hz)
        have hT : Hid (trim xs = xs.take (m + 1)) := Lib.hid (by unfold trim; rw [ht])
        have hne : (x == 0) = false := beq_eq_false_iff_ne.2 hz
        have hnw := Lib.hid (h.news (.cells #[] 22) (m + 1))
        have hln := Lib.hid (take_len hk)
        have hon := Lib.hid (one_cells (xs.take (m + 1)))
        clear hF hx hz ht h
        go_wp2_with (at_builtin; refine wpList_append_own _ rfl _ _ 23 rfl w.heap.size 22 i0 (.int .u64 0) 1 8 Try.underlying23 hi hz0 hz1 hz2 rfl (by decide) _ _ _ rfl hlit.out ⟨b, off, none⟩ (m + 1) c ((xs.take (m + 1)).map (Value.int .u64)) rfl hln.out hnw.out hon.out (by simp only [maxLen]; omega) (by omega) (by simp) ?_; intro v' w1 hown hgrow _)
        go_ret
        refine ⟨v', rfl, ?_, ((Below.refl _ w).alloc (Nat.le_refl _) _).grown hgrow (by simp) (fun k e => (hlit.out.lt k e).1)⟩
        rw [hT.out, List.length_take, Nat.min_eq_left hk]
        simpa using hown

set_option maxHeartbeats 1000000 in
theorem rAddP_own (p : Int) (hp : OkP p) (A B : Option Addr) (ca cb : Nat) (a b : List Int) (ha : El p a) (hb : El p b) (la : a.length ≤ 400) (lb : b.length ≤ 400) (w : World)
    (hra : Sl w A ca a) (hrb : Sl w B cb b) :
    Calls Try.prog 77 #[.int .u64 p, .slice A a.length ca, .slice B b.length cb] w fun e w' => Fresh w e w' (padd p a b) := by
  obtain ⟨i0, hi, hz0, hz1, hz2⟩ := info_parts info_u64
  have hbd := hp.bd
  go_enter Try.func77, Try.ntmps77
  go_wp2
  go_loopw [7, 8] (fun v i wr => ∃ k : Nat, k ≤ max a.length b.length ∧ i = .int .i64 k ∧ wr.ownsRow w.heap.size 22 1 v k (((List.range k).map fun n => fadd p (co a n) (co b n)).map (Value.int .u64)) ∧ Below w.heap.size w wr) (fun _ i _ => max a.length b.length - (intOf i).toNat)
  case atStart => exact ⟨0, Nat.zero_le _, rfl, World.ownsRow_nil _ _ _ _, Below.refl _ _⟩
  case round =>
    obtain ⟨k, hk, rfl, hrow, hB⟩ := hrel
    have hsz := hB.size
    by_cases hlt : k < max a.length b.length
    · have hbx := rCoef_any A ca a k wr (hra.next hB)
      have hby := rCoef_any B cb b k wr (hrb.next hB)
      rw [coI_nat] at hbx hby
      have hxb := ha.co (p := p) (by omega) k
      have hyb := hb.co (p := p) (by omega) k
      obtain ⟨x, hx⟩ : ∃ x, co a k = x := ⟨_, rfl⟩
      obtain ⟨y, hy⟩ : ∃ y, co b k = y := ⟨_, rfl⟩
      rw [hx] at hbx hxb
      rw [hy] at hby hyb
      have hX := Lib.hid hx
      have hY := Lib.hid hy
      clear hx hy
      have hAB : (k : Int) < a.length ∨ ((a.length : Int) ≤ k ∧ (k : Int) < b.length) := by omega
      rcases hAB with hA | ⟨hA, hBB⟩
      all_goals
        go_wp2_with (first | (go_at_call 91; refine hbx.mono ?_; clear hbx; rintro e w' ⟨rfl, rfl⟩) | (go_at_call 91; refine hby.mono ?_; clear hby; rintro e w' ⟨rfl, rfl⟩) | (go_at_call 60; refine (rAdd_any _ _ _ hp hxb.1 hxb.2 hyb.1 hyb.2 _).mono ?_; rintro e w' ⟨rfl, rfl⟩) | (at_builtin; refine wpList_append_own _ rfl _ _ 23 rfl w.heap.size 22 i0 (.int .u64 0) 1 8 Try.underlying23 hi hz0 hz1 hz2 rfl (by decide) _ _ _ rfl (hrow.alloc _) ⟨wr.heap.size, 0, none⟩ 1 1 [.int .u64 (fadd p x y)] rfl rfl (cell_one_new _ _ _) (by simp [Value.oneCell']) (by simp only [maxLen]; omega) (by omega) (by simp; omega) ?_; intro v' w2 hown' hgrow _))
        have hB2 : Below w.heap.size w w2 := (hB.alloc hsz _).grown hgrow (by simp; omega) (fun k e => (hrow.lt k e).1)
        go_roundw
        case rel => exact ⟨k + 1, by omega, by simp, own_next (f := fun n => fadd p (co a n) (co b n)) (by show World.ownsRow _ _ _ _ _ _ (_ ++ [.int .u64 (fadd p (co a k) (co b k))]); rw [hX.out, hY.out]; exact hown'), hB2⟩
        case measure => simp [intOf]; omega
    · obtain rfl : k = max a.length b.length := by omega
      have hA' : (a.length : Int) ≤ (max a.length b.length : Nat) := by omega
      have hB' : (b.length : Int) ≤ (max a.length b.length : Nat) := by omega
      obtain ⟨A2, c2, hv, hs2⟩ := own_form hrow
      have ht := rTrim_own A2 c2 _ wr hs2 (by simp; omega)
      rw [List.length_map, List.length_range] at hv ht
      subst hv
      have hE : trim ((List.range (max a.length b.length)).map fun n => fadd p (co a n) (co b n)) = padd p a b := rfl
      rw [hE] at ht
      clear hE hrow hs2
      go_wp2_with (go_at_call 92; refine ht.mono ?_; rintro e w3 ⟨v3, rfl, ho3, hb3⟩)
      go_ret
      exact ⟨v3, rfl, own_base ho3 hsz, hB.trans (hb3.mono hsz)⟩


/-- What Polynomial hands back. -/
def PolO (p : Int) (ps : List (Int × Int)) (w : World) (e : Ending) (w' : World) : Prop :=
  ((px ps).Nodup ∧ ∃ A c, e = .returned (.tuple #[.slice A (thru p ps).length c, .int .i64 0]) ∧ Sl w' A c (thru p ps) ∧ w'.ownsRow w.heap.size 22 1 (.slice A (thru p ps).length c) (thru p ps).length ((thru p ps).map (Value.int .u64)) ∧ Below w.heap.size w w') ∨
  (¬ (px ps).Nodup ∧ e = .returned (.tuple #[.slice none 0 0, .int .i64 1]) ∧ Below w.heap.size w w')

set_option maxHeartbeats 2000000 in
theorem rPol_own (p : Int) (hp : OkP p) (A : Option Addr) (c : Nat) (ps : List (Int × Int)) (hx : El p (px ps)) (hy : El p (py ps)) (hl : ps.length ≤ 100) (w : World) (h : Pt w A c ps) :
    Calls Try.prog 52 #[.int .u64 p, .slice A ps.length c] w fun e w' => PolO p ps w e w' := by
  have hbd := hp.bd
  have hab := places_row A c ps hl w h
  have hxl := px_len ps
  have hun := fun W A' c' (h' : Sl W A' c' (px ps)) => unlike_any A' c' (px ps) W h' (by omega)
  rw [hxl] at hun
  go_enter Try.func52, Try.ntmps52
  go_wp2_with fail
  refine hab.mono ?_
  rintro e w1 ⟨A1, c1, rfl, hs1, hb1⟩
  rw [hxl]
  clear hab
  go_wp2_with fail
  refine (hun _ _ _ hs1).mono ?_
  clear hun
  rintro e w2 ⟨rfl, m, rfl⟩
  have hB2 := below_drewN hb1 m
  by_cases hnd : (px ps).Nodup
  · rw [decide_eq_true hnd]
    have hND := Lib.hid hnd
    clear hnd
    go_wp2
    go_loopw [7, 8] (fun v i wr => ∃ (k : Nat) (A' : Option Addr) (c' : Nat), k ≤ ps.length ∧ i = .int .i64 k ∧ v = .slice A' (lag p (px ps) (py ps) k).length c' ∧ Sl wr A' c' (lag p (px ps) (py ps) k) ∧ wr.ownsRow w1.heap.size 22 1 v (lag p (px ps) (py ps) k).length ((lag p (px ps) (py ps) k).map (Value.int .u64)) ∧ Below w1.heap.size w1 wr) (fun _ i _ => ps.length - (intOf i).toNat)
    case atStart => exact ⟨0, none, 0, Nat.zero_le _, rfl, rfl, Sl.nothing _, World.ownsRow_nil _ _ _ _, below_drewN (Below.refl _ _) _⟩
    case round =>
      obtain ⟨k, A', c', hk, rfl, rfl, hf, hOw, hBr⟩ := hrel
      by_cases hlt : k < ps.length
      · obtain ⟨b, off, x, y, hA, hbl, hxy, hcx, hcy⟩ := (h.next (hb1.trans (hBr.mono hb1.size))).at_ hlt
        subst hA
        have hy1 := py_at hxy
        have hyb := hy.co (p := p) (by omega) k
        have hfe := lag_el (p := p) (by omega) (px ps) (py ps) k
        have hfl := lag_len p (px ps) (py ps) k (by omega)
        have hnext : lag p (px ps) (py ps) (k + 1) = padd p (lag p (px ps) (py ps) k) (pscl p (co (py ps) k) (base p (px ps) k)) := rfl
        rw [hy1] at hyb hnext
        have hbe := base_el (p := p) (by omega) (px ps) k
        have hbn := base_len p (px ps) (i := k) (by omega)
        have hba := rBase_row p hp A1 c1 (px ps) hND.out hx (by omega) k (by omega) wr.drew (hs1.next hBr).drew
        rw [hxl] at hba hbn
        have hsc := fun W A7 c7 (h7 : Sl W A7 c7 (base p (px ps) k)) => rScale_row p y hp hyb A7 c7 _ hbe (by omega) W h7
        have hsl := pscl_len p y (base p (px ps) k)
        have hadd := fun W A8 c8 (h8 : Sl W A8 c8 (pscl p y (base p (px ps) k))) (h9 : Sl W A' c' (lag p (px ps) (py ps) k)) => rAddP_own p hp A' A8 c' c8 _ _ hfe (pscl_el (by omega) _ _) (by omega) (by omega) W h9 h8
        rw [← hnext] at hadd
        generalize lag p (px ps) (py ps) k = F at *
        generalize hFe : lag p (px ps) (py ps) (k + 1) = F' at *
        generalize pscl p y (base p (px ps) k) = Q at *
        generalize base p (px ps) k = G at *
        have hFF := Lib.hid hFe
        have hkN : (k : Int) < ps.length := by omega
        have hdr : Below wr.heap.size wr wr.drew := (Below.refl _ wr).drew
        clear hFe hy1 hxy hnext hOw
        go_wp2_with fail
        go_region_held3 (fun w' => w'.cell? ⟨b, off + k * 2 + 1, none⟩ = some (.int .u64 y))
          (first | exact hcy | assumption)
          (first
            | (go_at_call 79; (with_reducible refine hba.mono ?_); rintro e w5 ⟨A5, c5, rfl, hs5, hb5⟩; have hB5 := hdr.trans (hb5.mono hdr.size); have cy5 := (hB5.cell (p := ⟨b, off + k * 2 + 1, none⟩) hbl).trans hcy; have hsc5 := Lib.hid (hsc w5 A5 c5 hs5); clear hb5 hs5 hsc)
            | (go_at_call 78; (with_reducible refine (hsc5.out).mono ?_); rintro e w6 ⟨A6, c6, rfl, hs6, hb6⟩; have hB6 := hB5.trans (hb6.mono hB5.size); have cy6 := (hB6.cell (p := ⟨b, off + k * 2 + 1, none⟩) hbl).trans hcy; have had6 := Lib.hid (hadd w6 A6 c6 hs6 (hf.next hB6)); clear hb6 hs6 hadd)
            | (go_at_call 77; (with_reducible refine (had6.out).mono ?_); rintro e w7 ⟨v7, rfl, ho7, hb7⟩; obtain ⟨A7, c7, hv7, hs7⟩ := own_form ho7; subst hv7; have ho8 := own_base ho7 (Nat.le_trans hBr.size hB6.size); have hB7 := hB6.trans (hb7.mono hB6.size); have cy7 := (hB7.cell (p := ⟨b, off + k * 2 + 1, none⟩) hbl).trans hcy; clear hb7))
        all_goals
          go_wp2_with fail
          go_roundw
          case rel => exact ⟨k + 1, A7, c7, by omega, by simp, by rw [hFF.out], by rw [hFF.out]; exact hs7, by rw [hFF.out]; exact ho8, hBr.trans (hB7.mono hBr.size)⟩
          case measure => simp [intOf]; omega
      · obtain rfl : k = ps.length := by omega
        go_wp2_with fail
        go_ret2
        exact .inl ⟨hND.out, _, _, rfl, hf, own_base hOw hb1.size, hb1.trans (hBr.mono hb1.size)⟩
  · rw [decide_eq_false hnd]
    go_wp2_with fail
    go_ret2
    exact .inr ⟨hnd, rfl, hB2⟩


end Go.Proofs.Ytddbdjhgmeeakaa

/- Constant and Sub of the reference of layer 9: new matrices. Conditions: a supported prime, words of its field, sharings of one shape, at most 100 rows and words in a row. -/
namespace Go.Proofs.Ytddbdjhgmeeakaa
set_option maxRecDepth 100000
open Go.RowKit PolyMath FieldMath MatMath


set_option maxHeartbeats 8000000 in
theorem rConst_mat (P K : Int) (N T : Nat) (hN : N ≤ 100) (hT : T ≤ 100) (w : World) :
    Calls Try.prog 38 #[.agg #[.int .u64 P, .int .i64 N, .int .i64 T], .int .u64 K] w fun e w' => Rows2 w e w' N ((List.range N).map fun _ => conR K T) := by
  obtain ⟨i1, hi1, hx0, hx1, hx2⟩ := info_parts info_u64
  obtain ⟨j0, hj, hy0, hy1, hy2⟩ := info_parts info_sl
  have hB8 : Hid (i1.bytes * (T + 1) ≤ 281474976710656) := Lib.hid (by rw [hx2]; omega)
  obtain ⟨f, hf⟩ : ∃ f : Nat → List Int, f = fun _ => conR K T := ⟨_, rfl⟩
  have HFK : ∀ k, Hid (f k = conR K T) := fun k => Lib.hid (by rw [hf])
  rw [← hf]
  clear hf
  obtain ⟨w0, hw0⟩ : ∃ w0, w0 = w.alloc (.cells #[.int .u64 P, .int .i64 N, .int .i64 T] 55) := ⟨_, rfl⟩
  have hB0 : Below w.heap.size w w0 := by rw [hw0]; exact (Below.refl _ w).alloc (Nat.le_refl _) _
  have k1 : w0.cell? ⟨w.heap.size, 1, none⟩ = some (.int .i64 N) := by rw [hw0]; go_simp
  have k2 : w0.cell? ⟨w.heap.size, 2, none⟩ = some (.int .i64 T) := by rw [hw0]; go_simp
  have hl0 : w.heap.size < w0.heap.size := by rw [hw0]; simp
  have hs0 : w.heap.size ≤ w0.heap.size := by omega
  have HW0 := Lib.hid hw0
  have wT : IntKind.i64.wrap ((T : Int) + 1) = (T : Int) + 1 := IntWalk.i64_in _ (by omega)
  clear hw0
  suffices H : ∀ w9, w9 = w0 → Calls Try.prog 38 #[.agg #[.int .u64 P, .int .i64 N, .int .i64 T], .int .u64 K] w fun e w' => ∃ A c, e = .returned (.slice A N c) ∧ Sll w' A c ((List.range N).map f) ∧ Below w9.heap.size w9 w' by
    refine (H w0 rfl).mono ?_
    rintro e w' ⟨A, c, h1, h2, h3⟩
    exact ⟨A, c, h1, rows_len _ _, h2, hB0.trans (h3.mono hs0)⟩
  intro w9 h9
  subst h9
  go_enter Try.func38, Try.ntmps38
  go_upto_region 1 with fail
  rw [← HW0.out]
  go_wp2
  go_loopw [5, 6] (fun v i wr => ∃ k : Nat, k ≤ N ∧ i = .int .i64 k ∧ LOwn w9.heap.size wr v ((List.range k).map f) ∧ Below w9.heap.size w9 wr) (fun _ i _ => N - (intOf i).toNat)
  case atStart => exact ⟨0, Nat.zero_le _, rfl, LOwn.none _ _, Below.refl _ _⟩
  case round =>
    obtain ⟨k, hk, rfl, hL, hB⟩ := hrel
    have hsz := hB.size
    rename World => W0
    have d1 := (hB.cell (p := ⟨w.heap.size, 1, none⟩) hl0).trans k1
    have d2 := (hB.cell (p := ⟨w.heap.size, 2, none⟩) hl0).trans k2
    by_cases hlt : k < N
    · have hkN : (k : Int) < N := by omega
      have HNX := Lib.hid (rows_next f k)
      go_upto_region 7 with (at_make; refine wpList_make_full _ rfl _ _ 23 rfl W0.heap.size 22 i1 (.int .u64 0) 1 Try.underlying23 hi1 hx0 hx1 .i64 .i64 _ _ (T + 1) rfl rfl (by omega) (by omega) hB8.out (by simp only [maxLen]; omega) (Nat.le_refl _) ?_; intro w3 hown3 hgrow3; have hb3 : Below W0.heap.size W0 w3 := (Below.refl _ W0).grown hgrow3 (Nat.le_refl _) (fun k e => by cases e); simp only [Value.cells, toList_madeCells_one, Nat.mul_one] at hown3; have hO3 : OwnAt w3 W0.heap.size W0.heap.size (T + 1) (T + 1) (List.replicate (T + 1) 0) := (by unfold OwnAt; simpa using hown3); have hcell3 := hO3.cell (i := 0) (x := 0) (by simp); have hfz3 := hO3.frozen 0; have hput := Lib.hid (hO3.put 0 K); have hB3 := Lib.hid (hb3.setCell (p := ⟨W0.heap.size, 0, none⟩) (Nat.le_refl _) (.int .u64 K)); clear hown3 hgrow3 hO3)
      obtain ⟨wr, hwr⟩ : ∃ wr, wr = w3.setCell ⟨W0.heap.size, 0, none⟩ (.int .u64 K) := ⟨_, rfl⟩
      rw [← hwr] at hput hB3 ⊢
      have hrow : wr.ownsRow W0.heap.size 22 1 (.slice (some ⟨W0.heap.size, 0, none⟩) (T + 1) (T + 1)) (T + 1) ((f k).map (Value.int .u64)) := by
        have h := hput.out
        rw [(HFK k).out]
        have e : (List.replicate (T + 1) (0 : Int)).set 0 K = conR K T := rfl
        rw [e] at h
        exact h
      have hB2 := hB3.out
      have hlen : (f k).length = T + 1 := by rw [(HFK k).out]; exact conR_len K T
      clear hwr hput hB3 hb3
      have hs2 : Sl wr (some ⟨W0.heap.size, 0, none⟩) (T + 1) (f k) := Sl.of_own hrow
      have hty : Ty wr (some ⟨W0.heap.size, 0, none⟩) := Ty.of_own hrow
      obtain ⟨vs, h1, h2⟩ := hL.next hB2
      have hs3 := hs2.push (.cells #[.slice (some ⟨W0.heap.size, 0, none⟩) (T + 1) (T + 1)] 23)
      have ht3 := hty.next ((Below.refl _ wr).alloc (Nat.le_refl _) (.cells #[.slice (some ⟨W0.heap.size, 0, none⟩) (T + 1) (T + 1)] 23))
      have h1' := own_below h1 ((Below.refl _ wr).alloc (Nat.le_refl _) (.cells #[.slice (some ⟨W0.heap.size, 0, none⟩) (T + 1) (T + 1)] 23))
      have h2' : ∀ (i : Nat) (r : List Int), ((List.range k).map f)[i]? = some r → ∃ A c, vs[i]? = some (Value.slice A r.length c) ∧ Sl (wr.alloc (.cells #[.slice (some ⟨W0.heap.size, 0, none⟩) (T + 1) (T + 1)] 23)) A c r ∧ Ty (wr.alloc (.cells #[.slice (some ⟨W0.heap.size, 0, none⟩) (T + 1) (T + 1)] 23)) A := fun i r hr => by
        obtain ⟨A', c', q1, q2, q3⟩ := h2 i r hr
        exact ⟨A', c', q1, q2.push _, q3.next ((Below.refl _ wr).alloc (Nat.le_refl _) _)⟩
      have hadd := fun (v' : Value) (w2 : World) (hown) (hg) => LOwn.add (v' := v') (w2 := w2) h1' h2' hs3 ht3 hown hg
      have hBB := hB.trans (hB2.mono hsz)
      have hszB := hBB.size
      have hADD := Lib.hid hadd
      have HLE := Lib.hid hlen
      clear hadd hs3 h2' h2 hs2 hrow hlen
      rw [rows_len] at h1'
      go_wp2_with (at_builtin; refine wpList_append_own _ rfl _ _ 57 rfl w9.heap.size 23 j0 (.slice none 0 0) 1 24 Try.underlying57 hj hy0 hy1 hy2 rfl (by decide) _ _ _ rfl h1' ⟨wr.heap.size, 0, none⟩ 1 1 [.slice (some ⟨W0.heap.size, 0, none⟩) (T + 1) (T + 1)] rfl rfl (cell_one_new _ _ _) (by simp [Value.oneCell']) (by simp only [maxLen]; omega) (by omega) (by simp; omega) ?_; intro v' w2 hown' hgrow _)
      have hB4 : Below w9.heap.size w9 w2 := (hBB.alloc hszB _).grown hgrow (by simp; omega) (fun k e => (World.ownsRow.lt h1' k e).1)
      have hLL := hADD.out v' w2 (by rw [HLE.out, rows_len]; exact hown') hgrow
      rw [← HNX.out] at hLL
      go_roundw
      case rel => exact ⟨k + 1, by omega, by simp, hLL, hB4⟩
      case measure => simp [intOf]; omega
    · obtain rfl : k = N := by omega
      obtain ⟨A2, c2, hv, hs2⟩ := hL.form
      rw [rows_len] at hv
      subst hv
      go_wp2
      go_ret
      exact ⟨A2, c2, rfl, hs2, hB⟩

theorem sub_neg {p x y : Int} : fadd p x (fmul p (p - 1) y) = fsub p x y := by
  unfold fadd fmul fsub
  rw [Int.add_emod, Int.emod_emod_of_dvd _ (Int.dvd_refl p), ← Int.add_emod, show x + (p - 1) * y = x - y + p * y by rw [Int.sub_mul, Int.one_mul]; omega, Int.add_mul_emod_self_left]
theorem rSub_mat (p : Int) (hp : OkP p) (n N : Nat) (hn : n ≤ 100) (hN : N ≤ 100) (A B : Option Addr) (ca cb : Nat) (ra rb : List (List Int)) (ha : Msh p n ra) (hb : Msh p n rb) (la : ra.length = N) (lb : rb.length = N) (w : World) (sa : Sll w A ca ra) (sb : Sll w B cb rb) :
    Calls Try.prog 34 #[.int .u64 p, .slice A N ca, .slice B N cb] w fun e w' => Rows2 w e w' N ((List.range N).map fun i => zipF (fsub p) (ro ra i) (ro rb i) n) := by
  have hbd := hp.bd
  have hsc := rScale_mat p (p - 1) hp ⟨by omega, by omega⟩ n N hn hN B cb rb hb lb w sb
  have hroz : ∀ i, i < N → ro ((List.range N).map fun i => mapF (fmul p (p - 1)) (ro rb i) n) i = mapF (fmul p (p - 1)) (ro rb i) n := fun i hi => ro_at (by rw [List.getElem?_map, List.getElem?_range hi]; rfl)
  have hz : Msh p n ((List.range N).map fun i => mapF (fmul p (p - 1)) (ro rb i) n) := fun i hi => by
    rw [List.length_map, List.length_range] at hi
    rw [hroz i hi]
    refine ⟨mapF_len _ _ _, fun z hz => ?_⟩
    obtain ⟨j, _, rfl⟩ := List.mem_map.1 hz
    exact fmul_bd p _ _ (by omega)
  have had := fun A' c' W h1 h2 => rAdd_mat p hp n N hn hN A A' ca c' ra _ ha hz la (by simp) W h1 h2
  have hE : Hid (((List.range N).map fun i => zipF (fadd p) (ro ra i) (ro ((List.range N).map fun i => mapF (fmul p (p - 1)) (ro rb i) n) i) n) = (List.range N).map fun i => zipF (fsub p) (ro ra i) (ro rb i) n) := Lib.hid (List.map_congr_left fun i hi => by
    have hi' := List.mem_range.1 hi
    rw [hroz i hi']
    refine List.map_congr_left fun j hj => ?_
    have hj' := List.mem_range.1 hj
    have e : co (mapF (fmul p (p - 1)) (ro rb i) n) j = fmul p (p - 1) (co (ro rb i) j) := co_at (by unfold mapF; rw [List.getElem?_map, List.getElem?_range hj']; rfl)
    rw [e]
    exact sub_neg)
  have wp1 : IntKind.u64.wrap (p - 1) = p - 1 := IntWalk.u64_in _ (by omega)
  generalize ((List.range N).map fun i => mapF (fmul p (p - 1)) (ro rb i) n) = Z at *
  generalize ((List.range N).map fun i => zipF (fsub p) (ro ra i) (ro rb i) n) = Y at *
  clear la lb
  go_enter Try.func34, Try.ntmps34
  go_wp2_with fail
  refine hsc.mono ?_
  rintro e w1 ⟨A1, c1, rfl, _, hs1, hb1⟩
  go_wp2_with fail
  refine (had A1 c1 w1 (sa.next hb1) hs1).mono ?_
  rintro e w2 ⟨A2, c2, rfl, hl2, hs2, hb2⟩
  rw [hE.out] at hl2 hs2
  have HL := Lib.hid hl2
  have HS := Lib.hid hs2
  clear hl2 hs2
  go_wp2
  go_ret
  exact ⟨A2, c2, rfl, HL.out, HS.out, hb1.trans (hb2.mono hb1.size)⟩
end Go.Proofs.Ytddbdjhgmeeakaa

/- Shares, Places, FitSecret of the reference of layer 9. Conditions: a supported prime, coordinates in its field, as said. -/
namespace Go.Proofs.Ytddbdjhgmeeakaa
set_option maxRecDepth 100000
open Go.RowKit PolyMath FieldMath MatMath

set_option maxHeartbeats 2000000 in
theorem rShares_row (p : Int) (hp : OkP p) (n : Int) (N : Nat) (hN : N = n.toNat) (hN9 : N ≤ 100) (hn : (N : Int) < p) (A : Option Addr) (c : Nat) (q : List Int) (hq : El p q) (hl : q.length ≤ 400) (w : World) (h : Sl w A c q) :
    Calls Try.prog 16 #[.int .u64 p, .int .i64 n, .slice A q.length c] w fun e w' => ∃ A' c', e = .returned (.slice A' N c') ∧ Sl w' A' c' (shr p q N) ∧ Below w.heap.size w w' := by
  obtain ⟨i0, hi, hz0, hz1, hz2⟩ := info_parts info_u64
  have hbd := hp.bd
  have hmx : (n ≤ 0 ∧ N = 0) ∨ (1 ≤ n ∧ n = (N : Int)) := by omega
  clear hN
  rcases hmx with ⟨hneg, rfl⟩ | ⟨hpos, rfl⟩
  · have h1 : ¬ (1 : Int) ≤ n := by omega
    go_enter Try.func16, Try.ntmps16
    go_wp2
    go_loopw [7, 8] (fun v i wr => v = .slice none 0 0 ∧ i = .int .i64 1 ∧ wr = w) (fun _ _ _ => 0)
    case atStart => exact ⟨rfl, rfl, rfl⟩
    case round =>
      obtain ⟨rfl, rfl, rfl⟩ := hrel
      go_wp2
      go_ret
      exact ⟨_, _, rfl, Sl.nothing _, Below.refl _ _⟩
  · go_enter Try.func16, Try.ntmps16
    go_wp2
    go_loopw [7, 8] (fun v i wr => ∃ k : Nat, k ≤ N ∧ i = .int .i64 ((k : Int) + 1) ∧ wr.ownsRow w.heap.size 22 1 v k ((shr p q k).map (Value.int .u64)) ∧ Below w.heap.size w wr) (fun _ i _ => N + 1 - (intOf i).toNat)
    case atStart => exact ⟨0, Nat.zero_le _, rfl, World.ownsRow_nil _ _ _ _, Below.refl _ _⟩
    case round =>
      obtain ⟨k, hk, rfl, hrow, hB⟩ := hrel
      have hsz := hB.size
      by_cases hlt : k < N
      · have hkN : (k : Int) + 1 ≤ N := by omega
        have HNX := Lib.hid (shr_next p q k)
        have wk : IntKind.u64.wrap ((k : Int) + 1) = (k : Int) + 1 := IntWalk.u64_in _ (by omega)
        have wk2 : IntKind.i64.wrap ((k : Int) + 1 + 1) = (k : Int) + 1 + 1 := IntWalk.i64_in _ (by omega)
        have hev := rEval_any p ((k : Int) + 1) hp (by omega) A c q hq hl wr (h.next hB)
        generalize pev p q ((k : Int) + 1) = y at *
        go_wp2_with (first | (go_at_call 45; refine hev.mono ?_; rintro e w' ⟨rfl, rfl⟩) | (at_builtin; refine wpList_append_own _ rfl _ _ 23 rfl w.heap.size 22 i0 (.int .u64 0) 1 8 Try.underlying23 hi hz0 hz1 hz2 rfl (by decide) _ _ _ rfl (hrow.alloc _) ⟨wr.heap.size, 0, none⟩ 1 1 [.int .u64 y] rfl rfl (cell_one_new _ _ _) (by simp [Value.oneCell']) (by simp only [maxLen]; omega) (by omega) (by simp; omega) ?_; intro v' w3 hown' hgrow _; have hB3 : Below w.heap.size w w3 := (hB.alloc hsz _).grown hgrow (by simp; omega) (fun k e => (hrow.lt k e).1)))
        go_roundw
        case rel => exact ⟨k + 1, by omega, by simp, by rw [HNX.out, List.map_append]; exact hown', hB3⟩
        case measure => simp [intOf]; omega
      · obtain rfl : k = N := by omega
        obtain ⟨A2, c2, hv, hs2⟩ := own_form hrow
        rw [shr_len] at hv
        subst hv
        have hkN : ¬ (k : Int) + 1 ≤ k := by omega
        go_wp2
        go_ret
        exact ⟨A2, c2, rfl, hs2, hB⟩

set_option maxHeartbeats 2000000 in
theorem rPlaces_any (A : Option Addr) (c : Nat) (ps : List (Int × Int)) (hl : ps.length ≤ 100) (w : World) (h : Pt w A c ps) :
    Calls Try.prog 51 #[.slice A ps.length c] w fun e w' => e = .returned (.bool (decide (Shr ps))) ∧ Below w.heap.size w w' := by
  have hpl := places_row A c ps hl w h
  have hxl := px_len ps
  have hun := fun W A' c' (h' : Sl W A' c' (px ps)) => unlike_any A' c' (px ps) W h' (by omega)
  rw [hxl] at hun
  have HX := Lib.hid hxl
  clear hxl
  go_enter Try.func51, Try.ntmps51
  go_wp2
  go_loopw [3] (fun i wr => ∃ k : Nat, k ≤ ps.length ∧ i = .int .i64 k ∧ wr = w ∧ Hid (∀ j, j < k → co (px ps) j ≠ 0)) (fun i _ => ps.length - (intOf i).toNat)
  case atStart => exact ⟨0, Nat.zero_le _, rfl, rfl, Lib.hid (fun j h => by omega)⟩
  case round =>
    obtain ⟨k, hk, rfl, rfl, hZ⟩ := hrel
    by_cases hlt : k < ps.length
    · have hkN : (k : Int) < ps.length := by omega
      obtain ⟨b, off, x, y, hA, hbl, hxy, hcx, hcy⟩ := h.at_ hlt
      subst hA
      have hX := Lib.hid (px_at hxy)
      by_cases hz : x = 0
      · have hN : Hid (decide (Shr ps) = false) := Lib.hid (decide_eq_false fun hs => hs.zero (by
          rw [← hz, ← hX.out, co_get (by rw [HX.out]; exact hlt)]; exact List.getElem_mem _))
        subst hz
        clear hxy
        go_wp2
        go_ret
        exact ⟨by rw [hN.out]; rfl, Below.refl _ _⟩
      · have hzb : (x == 0) = false := beq_eq_false_iff_ne.2 hz
        have hZ2 : Hid (∀ j, j < k + 1 → co (px ps) j ≠ 0) := Lib.hid fun j hj => by
          by_cases e : j = k
          · subst e; rw [hX.out]; exact hz
          · exact hZ.out j (by omega)
        clear hxy
        go_wp2
        go_roundw
        case rel => exact ⟨k + 1, by omega, by simp, by first | rfl | trivial, hZ2⟩
        case measure => simp [intOf]; omega
    · obtain rfl : k = ps.length := by omega
      have hE : Hid (decide (px ps).Nodup = decide (Shr ps)) := Lib.hid (by
        have : (px ps).Nodup ↔ Shr ps := ⟨fun h => List.nodup_cons.2 ⟨fun hm => by
          obtain ⟨i, hi, e⟩ := mem_co hm
          exact hZ.out i (by rw [← HX.out]; exact hi) e, h⟩, fun h => h.nodup⟩
        exact decide_eq_decide.2 this)
      go_wp2_with fail
      refine hpl.mono ?_
      rintro e w1 ⟨A1, c1, rfl, hs1, hb1⟩
      rw [HX.out]
      go_wp2_with fail
      refine (hun _ _ _ hs1).mono ?_
      rintro e w2 ⟨rfl, m, rfl⟩
      have hB2 := below_drewN hb1 m
      rw [hE.out]
      go_wp2
      go_ret
      exact ⟨rfl, hB2⟩
end Go.Proofs.Ytddbdjhgmeeakaa

/- FitSecret of the reference of layer 9. Conditions: a supported prime, coordinates in its field, at most 30 points, t at most 30. -/
namespace Go.Proofs.Ytddbdjhgmeeakaa
set_option maxRecDepth 100000
open Go.RowKit PolyMath FieldMath MatMath

theorem rfit_neg (p s : Int) (A : Option Addr) (c : Nat) (t : Int) (ps : List (Int × Int)) (ht : t < 0) (w : World) :
    Calls Try.prog 22 #[.int .u64 p, .int .i64 t, .slice A ps.length c, .int .u64 s] w fun e w' => e = .returned (.tuple #[.slice none 0 0, .int .i64 1]) ∧ Below w.heap.size w w' := by
  go_enter Try.func22, Try.ntmps22
  go_wp2_with fail
  go_ret2
  exact ⟨rfl, Below.refl _ _⟩
theorem rfit_bad (p s : Int) (A : Option Addr) (c t : Nat) (ps : List (Int × Int)) (hl : ps.length ≤ 100) (hb : ¬ Shr ps ∨ t < ps.length) (w : World) (h : Pt w A c ps) :
    Calls Try.prog 22 #[.int .u64 p, .int .i64 t, .slice A ps.length c, .int .u64 s] w fun e w' => e = .returned (.tuple #[.slice none 0 0, .int .i64 1]) ∧ Below w.heap.size w w' := by
  have hsh := rPlaces_any A c ps hl w h
  have h1 : ¬ (t : Int) < 0 := by omega
  by_cases hs : Shr ps
  · rw [decide_eq_true hs] at hsh
    have hlt : (t : Int) < ps.length := by rcases hb with h | h; exact absurd hs h; omega
    clear hb
    go_enter Try.func22, Try.ntmps22
    go_wp2_with fail
    refine hsh.mono ?_
    rintro e w1 ⟨rfl, b1⟩
    go_wp2_with fail
    go_ret2
    exact ⟨rfl, b1⟩
  · rw [decide_eq_false hs] at hsh
    clear hb
    go_enter Try.func22, Try.ntmps22
    go_wp2_with fail
    refine hsh.mono ?_
    rintro e w1 ⟨rfl, b1⟩
    go_wp2_with fail
    go_ret2
    exact ⟨rfl, b1⟩

theorem own_litP1 (w : World) (x y : Int) : (w.alloc (.cells #[.int .u64 x, .int .u64 y] 34)).ownsRow w.heap.size 34 2 (.slice (some ⟨w.heap.size, 0, none⟩) 1 1) 1 (pcells [(x, y)]) := World.ownsRow_lit w #[.int .u64 x, .int .u64 y] 1 (Nat.le_refl _) (by decide) rfl
theorem pcells_app : ∀ (a b : List (Int × Int)), pcells (a ++ b) = pcells a ++ pcells b
  | [], _ => rfl
  | q :: a, b => by rw [List.cons_append, pcells, pcells, pcells_app a b]; rfl
/-- The points of the reference when k places have been looked at. -/
def fitK (ps : List (Int × Int)) (s : Int) (k : Nat) : List (Int × Int) := (0, s) :: (ps ++ zp (upTo (px ps) k))
theorem fitK_len (ps : List (Int × Int)) (s : Int) (k : Nat) : (fitK ps s k).length = 1 + ps.length + (upTo (px ps) k).length := by unfold fitK; rw [List.length_cons, List.length_append, zp_len]; omega

set_option maxHeartbeats 8000000 in
theorem rfit_any (p s : Int) (hp : OkP p) (hs : 0 ≤ s ∧ s < p) (A : Option Addr) (c t : Nat) (ps : List (Int × Int)) (hx : El p (px ps)) (hy : El p (py ps)) (hl : ps.length ≤ t) (ht : t ≤ 30) (hsh : Shr ps) (w : World) (h : Pt w A c ps) :
    Calls Try.prog 22 #[.int .u64 p, .int .i64 t, .slice A ps.length c, .int .u64 s] w fun e w' => ∃ A' c', e = .returned (.tuple #[.slice A' (t + 1) c', .int .i64 0]) ∧ Sl w' A' c' (fitS p ps t s) ∧ Below w.heap.size w w' := by
  obtain ⟨i0, hi, hz0, hz1, hz2⟩ := info_parts info_pt
  obtain ⟨i1, hi1, hy0, hy1, hy2⟩ := info_parts info_u64
  have hbd := hp.bd
  have htp : (t : Int) < p := by omega
  have hare := rPlaces_any A c ps (by omega) w h
  rw [decide_eq_true hsh] at hare
  have hlL := fitL_len hl s
  have hI := fit_itp hp.good hsh.nodup hsh.zero hx hy hl htp hs
  have hpol := fun A c W (hW : Pt W A c (fitL ps t s)) => rPol_own p hp A c (fitL ps t s) (fitL_x hx hl htp s) (fitL_y (p := p) (by omega) hy t hs) (by omega) W hW
  rw [hlL] at hpol
  have HLN := Lib.hid (fitL_nodup hsh.nodup hsh.zero t s)
  have hFl0 : (thru p (fitL ps t s)).length ≤ t + 1 := by rw [← hlL, ← px_len]; exact hI.fl
  have hEnd : ∀ k, (upTo (px ps) k).length = t - ps.length → fitK ps s k = fitL ps t s := fun k hk => by unfold fitK fitL; rw [spare_of hk]; rfl
  have HEND := Lib.hid hEnd
  have HLL := Lib.hid hlL
  obtain ⟨F, hF⟩ : ∃ F, F = thru p (fitL ps t s) := ⟨_, rfl⟩
  have HFF : Hid (fitS p ps t s = padN F (t + 1)) := Lib.hid (by rw [hF]; rfl)
  rw [← hF] at hFl0
  have HFL := Lib.hid hFl0
  have HTH : Hid (thru p (fitL ps t s) = F) := Lib.hid hF.symm
  have h1 : ¬ (t : Int) < 0 := by omega
  have h2 : ¬ p ≤ (t : Int) := by omega
  have h3 : ¬ (t : Int) < ps.length := by omega
  have h3b : decide (t < ps.length) = false := decide_eq_false (by omega)
  have h2b : decide (p ≤ (t : Int)) = false := decide_eq_false (by omega)
  have wt : IntKind.u64.wrap (t : Int) = (t : Int) := IntWalk.u64_in _ (by omega)
  have wt1 : IntKind.i64.wrap ((t : Int) + 1) = (t : Int) + 1 := IntWalk.i64_in _ (by omega)
  have HXL := Lib.hid (px_len ps)
  have hxw : ∀ x ∈ px ps, 0 ≤ x ∧ x ≤ 18446744073709551615 := fun x hxx => by have := hx x hxx; omega
  have HW := Lib.hid hxw
  clear hlL hI hEnd hF hFl0 hxw
  go_enter Try.func22, Try.ntmps22
  go_wp2_with fail
  refine hare.mono ?_
  rintro e w1 ⟨rfl, b1⟩
  have hP1 := h.next b1
  have hlit := own_litP1 w1 0 s
  have hba := (Below.refl w1.heap.size w1).alloc (Nat.le_refl _) (.cells #[.int .u64 0, .int .u64 s] 34)
  have hP2 := hP1.next hba
  clear hare
  go_upto_region 3 with fail
  go_cut [10] from 35 to 39 (fun v wx => wx.ownsRow w1.heap.size 34 2 v (1 + ps.length) (pcells (fitK ps s 0)) ∧ Below w1.heap.size w1 wx)
  case first =>
    have hE0 : Hid (pcells [((0 : Int), s)] ++ pcells ps = pcells (fitK ps s 0)) := Lib.hid (by rw [← pcells_app]; unfold fitK; rw [show upTo (px ps) 0 = [] from rfl]; simp [zp])
    cases A with
    | none =>
      obtain ⟨rfl, rfl⟩ := hP1.empty
      go_wp2
      go_meet
      exact ⟨hlit, hba⟩
    | some ad =>
      have hnw := Lib.hid hP2.news
      have hln := Lib.hid (pcells_len ps)
      have hon := Lib.hid (pc_one ps)
      go_wp2_with (at_builtin; refine wpList_append_own _ rfl _ _ 31 rfl w1.heap.size 34 i0 _ 2 16 Try.underlying31 hi hz0 hz1 hz2 rfl (by decide) _ _ _ rfl hlit ad ps.length c (pcells ps) rfl hln.out hnw.out hon.out (by simp only [maxLen]; omega) (by omega) (by simp) ?_; intro v' w3 hown hgrow _; rw [hE0.out] at hown)
      go_meet
      exact ⟨hown, hba.grown hgrow (by simp) (fun k e => by cases e; exact Nat.le_refl _)⟩
  case rest =>
    obtain ⟨hrow, hB⟩ := hcut
    have hrow2 : wc.ownsRow w1.heap.size 34 2 u10 (1 + ps.length + (upTo (px ps) 0).length) (pcells (fitK ps s 0)) := hrow
    clear hrow hlit hba hP2
    go_wp2
    go_loopw [10, 11] (fun v x wr => ∃ k : Nat, x = .int .u64 ((k : Int) + 1) ∧ 1 + ps.length + (upTo (px ps) k).length ≤ t + 1 ∧ wr.ownsRow w1.heap.size 34 2 v (1 + ps.length + (upTo (px ps) k).length) (pcells (fitK ps s k)) ∧ Below w1.heap.size w1 wr) (fun _ x _ => t + 2 - (intOf x).toNat)
    case atStart => exact ⟨0, rfl, by rw [show upTo (px ps) 0 = [] from rfl]; simp; omega, hrow2, hB⟩
    case round =>
      clear hrow2 hB
      obtain ⟨k, rfl, hkt, hrow, hB⟩ := hrel
      have hsz := hB.size
      obtain ⟨A2, c2, rfl⟩ := row_form22 hrow
      have hup := upTo_len (px ps) k
      rw [HXL.out] at hup
      obtain ⟨N, hN⟩ : ∃ N, N = 1 + ps.length + (upTo (px ps) k).length := ⟨_, rfl⟩
      rw [← hN] at hkt hrow ⊢
      have HN := Lib.hid hN
      rename World => W0
      by_cases hlt : N < t + 1
      · have hkt2 : k < t := by omega
        have hNI : (N : Int) < t + 1 := by omega
        have wk : IntKind.u64.wrap ((k : Int) + 1 + 1) = (k : Int) + 1 + 1 := IntWalk.u64_in _ (by omega)
        obtain ⟨x, hx9⟩ : ∃ x : Int, x = (k : Int) + 1 := ⟨_, rfl⟩
        have HK := Lib.hid hx9
        rw [← hx9] at wk ⊢
        clear hx9 hN hup
        have hrowH := Lib.hid hrow
        clear hrow
        go_wp2
        go_loopw [12, 13] (fun b i wr => ∃ j : Nat, j ≤ ps.length ∧ i = .int .i64 j ∧ wr = W0 ∧ ∃ bb : Bool, b = .bool bb ∧ Hid (bb = decide (x ∈ (px ps).take j))) (fun _ i _ => ps.length - (intOf i).toNat)
        case atStart => exact ⟨0, Nat.zero_le _, rfl, rfl, false, rfl, Lib.hid (by simp)⟩
        case round =>
          obtain ⟨j, hj, rfl, rfl, bb, rfl, hb⟩ := hrel
          by_cases hlj : j < ps.length
          · have hjN : (j : Int) < ps.length := by omega
            obtain ⟨b3, o3, x3, y3, hA3, hbl3, hxy, hcx, _⟩ := (hP1.next hB).at_ hlj
            subst hA3
            have hmem : Hid (x ∈ (px ps).take (j + 1) ↔ x ∈ (px ps).take j ∨ x = x3) := Lib.hid (by
              rw [List.take_add_one, show (px ps)[j]? = some x3 by unfold px; rw [List.getElem?_map, hxy]; rfl, Option.toList_some, List.mem_append, List.mem_singleton])
            clear hxy
            cases bb with
            | true =>
              have hb2 : Hid (true = decide (x ∈ (px ps).take (j + 1))) := Lib.hid (by rw [decide_eq_true (hmem.out.2 (.inl (of_decide_eq_true hb.out.symm)))])
              go_wp2
              go_roundw
              case rel => exact ⟨j + 1, by omega, by simp, by first | rfl | trivial, true, rfl, hb2⟩
              case measure => simp [intOf]; omega
            | false =>
              have hb2 : Hid ((x3 == x) = decide (x ∈ (px ps).take (j + 1))) := Lib.hid (by
                have hno := of_decide_eq_false hb.out.symm
                by_cases e : x3 = x
                · rw [decide_eq_true (hmem.out.2 (.inr e.symm)), e]; simp
                · rw [decide_eq_false fun h => (hmem.out.1 h).elim hno fun h => e h.symm]; exact beq_eq_false_iff_ne.2 e)
              generalize hbq : (x3 == x) = bq at *
              clear hmem
              go_wp2
              go_roundw
              case rel => exact ⟨j + 1, by omega, by simp, by first | rfl | trivial, bq, by first | rfl | (rw [← hbq]), hb2⟩
              case measure => simp [intOf]; omega
          · obtain rfl : j = ps.length := by omega
            have hbE : Hid (bb = decide (x ∈ px ps)) := Lib.hid (by rw [hb.out, ← HXL.out, List.take_length])
            by_cases hmem : x ∈ px ps
            · have hUp := upTo_no (xs := px ps) (k := k) (by rw [← HK.out]; exact hmem)
              have hbt : bb = true := by rw [hbE.out]; exact decide_eq_true hmem
              subst hbt
              have hEL : Hid (N = 1 + ps.length + (upTo (px ps) (k + 1)).length) := Lib.hid (by rw [hUp]; exact HN.out)
              have hRW : Hid (wr.ownsRow w1.heap.size 34 2 (.slice A2 N c2) N (pcells (fitK ps s (k + 1)))) := Lib.hid (by have := hrowH.out; unfold fitK at this ⊢; rw [hUp]; exact this)
              clear hUp hmem
              go_wp2
              go_roundw
              case rel => exact ⟨k + 1, by rw [HK.out]; simp, by rw [← hEL.out]; exact hkt, by rw [← hEL.out]; exact hRW.out, hB⟩
              case measure => simp [intOf]; have := HK.out; omega
            · have hUp := upTo_yes (xs := px ps) (k := k) (by rw [← HK.out]; exact hmem)
              have hbt : bb = false := by rw [hbE.out]; exact decide_eq_false hmem
              subst hbt
              have hEL : Hid (N + 1 = 1 + ps.length + (upTo (px ps) (k + 1)).length) := Lib.hid (by rw [hUp, List.length_append, List.length_singleton]; have := HN.out; omega)
              have hEC : Hid (pcells (fitK ps s (k + 1)) = pcells (fitK ps s k) ++ [.int .u64 x, .int .u64 0]) := Lib.hid (by unfold fitK; rw [hUp, zp_next, ← List.append_assoc, ← List.cons_append, pcells_snoc, HK.out])
              have hro := hrowH.out.alloc (.cells #[.int .u64 x, .int .u64 0] 34)
              have hB1 := bnew hB (.cells #[.int .u64 x, .int .u64 0] 34) (Nat.le_refl _)
              have HB := Lib.hid (fun k e => World.ownsRow.lt hrowH.out k e)
              clear hUp hmem
              go_wp2_with (at_builtin; refine wpList_append_own _ rfl _ _ 31 rfl w1.heap.size 34 i0 _ 2 16 Try.underlying31 hi hz0 hz1 hz2 rfl (by decide) _ _ _ rfl hro ⟨wr.heap.size, 0, none⟩ 1 1 [.int .u64 x, .int .u64 0] rfl rfl (World.news_of_block (cs := #[.int .u64 x, .int .u64 0]) (t := 34) (fr := (0, 0)) (World.alloc_heap_new wr _)) (by simp [Value.oneCell']) (by simp only [maxLen]; omega) (by omega) (by simp; omega) ?_; intro v' w3 hown' hgrow _)
              have hB3 := hB1.grown hgrow hB1.size (fun k e => (HB.out k e).1)
              go_roundw
              case rel => exact ⟨k + 1, by rw [HK.out]; simp, by rw [← hEL.out]; omega, by rw [← hEL.out, hEC.out]; exact hown', hB3⟩
              case measure => simp [intOf]; have := HK.out; omega
      · have hNt : N = t + 1 := by omega
        have hEn := HEND.out k (by omega)
        rw [hEn] at hrow
        have hrow3 : W0.ownsRow w1.heap.size 34 2 (.slice A2 N c2) (fitL ps t s).length (pcells (fitL ps t s)) := by rw [HLL.out, ← hNt]; exact hrow
        obtain ⟨A3, c3, hv3, hP3⟩ := pown_form hrow3
        rw [HLL.out] at hv3
        have hpo := hpol A3 c3 W0 hP3
        rw [← hv3] at hpo
        have hNI : ¬ (N : Int) < t + 1 := by omega
        have hBB := b1.trans (hB.mono b1.size)
        clear hrow hrow3 hv3 hP3 hEn hN hup hpol
        subst hNt
        go_wp2_with fail
        refine hpo.mono ?_
        rintro e w4 (⟨_, A4, c4, rfl, hs4, ho4, b4⟩ | ⟨hno, _, _⟩)
        case inr => exact absurd HLN.out hno
        rw [HTH.out] at ho4 ⊢
        have hB4 := hBB.trans (b4.mono hBB.size)
        have ho5 := own_base ho4 hBB.size
        clear hs4 ho4 hpo b4
        have ho6 : w4.ownsRow w.heap.size 22 1 (.slice A4 F.length c4) (F.length + 0) ((F ++ List.replicate 0 0).map (Value.int .u64)) := by simpa using ho5
        have wt2 : IntKind.i64.wrap ((t : Int) + 1) = ((t + 1 : Nat) : Int) := by rw [wt1]; omega
        clear ho5
        go_wp2
        go_loopw [14] (fun v wr => ∃ m : Nat, F.length + m ≤ t + 1 ∧ wr.ownsRow w.heap.size 22 1 v (F.length + m) ((F ++ List.replicate m 0).map (Value.int .u64)) ∧ Below w.heap.size w wr ∧ ∃ A c, v = .slice A (F.length + m) c) (fun v _ => t + 1 - (match v with | .slice _ n _ => n | _ => 0))
        case atStart => exact ⟨0, HFL.out, ho6, hB4, _, _, rfl⟩
        case round =>
          clear ho6 hB4
          obtain ⟨m, hm, hrow, hB9, A9, c9, rfl⟩ := hrel
          have hsz9 := hB9.size
          obtain ⟨N, hN⟩ : ∃ N, N = F.length + m := ⟨_, rfl⟩
          have HN := Lib.hid hN
          rw [← hN] at hm hrow ⊢
          have hrowH := Lib.hid hrow
          have hro := hrow.alloc (.cells #[.int .u64 0] 22)
          clear hN hrow
          by_cases hlt9 : N < t + 1
          · have hNI9 : (N : Int) < t + 1 := by omega
            go_wp2_with (at_builtin; refine wpList_append_own _ rfl _ _ 23 rfl w.heap.size 22 i1 (.int .u64 0) 1 8 Try.underlying23 hi1 hy0 hy1 hy2 rfl (by decide) _ _ _ rfl hro ⟨wr.heap.size, 0, none⟩ 1 1 [.int .u64 0] rfl rfl (cell_one_new _ _ _) (by simp [Value.oneCell']) (by simp only [maxLen]; omega) (by omega) (by simp; omega) ?_; intro v' w5 hown' hgrow _; obtain ⟨A6, c6, hv6⟩ := row_form11 hown'; subst hv6; have hB6 : Below w.heap.size w w5 := (hB9.alloc hsz9 _).grown hgrow (by simp; omega) (fun k e => (World.ownsRow.lt hrowH.out k e).1))
            go_roundw
            case rel => exact ⟨m + 1, by have := HN.out; omega, by rw [← Nat.add_assoc, ← HN.out, List.replicate_succ', ← List.append_assoc, List.map_append]; exact hown', hB6, A6, c6, by rw [← Nat.add_assoc, ← HN.out]⟩
            case measure => simp; omega
          · have hNI9 : ¬ (N : Int) < t + 1 := by omega
            have hNt9 : N = t + 1 := by omega
            have hE9 : (fitS p ps t s).map (Value.int .u64) = (F ++ List.replicate m 0).map (Value.int .u64) := by
              rw [HFF.out]
              unfold padN
              rw [show t + 1 - F.length = m by have := HN.out; omega]
            have h9 : wr.ownsRow w.heap.size 22 1 (.slice A9 (t + 1) c9) (t + 1) ((fitS p ps t s).map (Value.int .u64)) := by rw [hE9, ← hNt9]; exact hrowH.out
            have HS9 := Lib.hid (Sl.of_own h9)
            clear h9 hE9 hro
            subst hNt9
            go_wp2
            go_ret2
            exact ⟨A9, c9, rfl, HS9.out, hB9⟩
end Go.Proofs.Ytddbdjhgmeeakaa
