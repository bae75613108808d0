/- Eval and Translate of package bivariate; nothing that lay is changed. Conditions: a supported prime, a square matrix of at most 100 rows over its field, elements. -/
import Derived.Test.YtkhiiiggmhncbaaGreatERow
import Derived.Test.YtkhiiiggmhncbaaGreatERws
import Derived.Test.YtkhiiiggmhncbaaGreatEShift
import Derived.Test.YtkhiiiggmhncbaaGreatMA
import Derived.Test.YtkhiiiggmhncbaaGreatESym
namespace Go.Proofs.YtkhiiiggmhncbaaGreat
set_option maxRecDepth 100000
open Go.RowKit PolyMath FieldMath MatMath

theorem beval_any (p x y : Int) (hp : OkP p) (hx : 0 ≤ x ∧ x < p) (hy : 0 ≤ y ∧ y < p) (A : Option Addr) (c N : Nat) (S : List (List Int)) (hl : S.length = N) (hN : N ≤ 100) (hE : ∀ r ∈ S, El p r) (w : World) (h : Sll w A c S) :
    Calls Tryz.prog 15 #[.int .u64 p, .slice A N c, .int .u64 x, .int .u64 y] w fun e w' => e = .returned (.int .u64 (pev p (brow p S x) y)) ∧ Below w.heap.size w w' := by
  have hbd := hp.bd
  have hrow := row_any p x hp hx A c N S hl hN hE w h
  have hev := fun (g : Nat) (W : World) (hO : OwnAt W w.heap.size g N N (brow p S x)) => eval_any p y hp hy (some ⟨g, 0, none⟩) N (brow p S x) (brow_el (by omega) S x) (by rw [brow_len]; omega) W hO.sl
  rw [brow_len, hl] at hev
  clear hl hE h
  go_enter Tryz.func15, Tryz.ntmps15
  go_wp2_with fail
  refine hrow.mono ?_; rintro e w1 ⟨g, rfl, hO, hb⟩
  go_wp2_with fail
  refine (hev g w1 hO).mono ?_; rintro e w2 ⟨rfl, hb2⟩
  go_wp2
  go_ret
  exact ⟨rfl, hb.trans (hb2.mono hb.size)⟩

/-- Row i of the translated matrix. -/
def trF (p : Int) (S : List (List Int)) (d : Int) (Z : List Int) (i j : Nat) : Int := fadd p (mx S i j) (fmul p (fmul p d (co Z i)) (co Z j))
theorem trl_rws (p : Int) (S : List (List Int)) (d : Int) (Z : List Int) {N : Nat} (h : S.length = N) : rws (fun i => (List.range N).map (trF p S d Z i)) N N = trl p S d Z := by rw [rws_all]; unfold trl trF; rw [h]

set_option maxHeartbeats 4000000 in
theorem trl_any (p d : Int) (hp : OkP p) (hd : 0 ≤ d ∧ d < p) (A B : Option Addr) (c cb N : Nat) (S : List (List Int)) (Z : List Int) (hS : Mat p N N S) (hN : N ≤ 100) (hZ : El p Z) (w : World) (h : Sll w A c S) (hz : Sl w B cb Z) :
    Calls Tryz.prog 16 #[.int .u64 p, .slice A N c, .int .u64 d, .slice B Z.length cb] w fun e w' => MatN w e w' N (trl p S d Z) := by
  obtain ⟨i0, hi0, hz0, hz1, hz2⟩ := info_parts info_u64
  obtain ⟨j0, hj0, hy0, hy1, hy2⟩ := info_parts info_sl
  have hbd := hp.bd
  have hb24 : Hid (j0.bytes * N ≤ 281474976710656) := Lib.hid (by rw [hy2]; omega)
  have hb8 : Hid (i0.bytes * N ≤ 281474976710656) := Lib.hid (by rw [hz2]; omega)
  have hEnd := Lib.hid (trl_rws p S d Z hS.rows)
  have hl := Lib.hid hS.rows
  have hro := Lib.hid fun i (hi : i < N) => hS.ro hi
  have hcf := fun (j : Nat) W (h : Below w.heap.size w W) => coef_any B cb Z j W (hz.next h)
  simp only [coI_nat] at hcf
  clear hS hz
  go_enter Tryz.func16, Tryz.ntmps16
  go_wp2_with (at_make; refine wpList_make_full _ rfl _ _ 24 rfl w.heap.size 23 j0 (.slice none 0 0) 1 Tryz.underlying24 hj0 hy0 hy1 .i64 .i64 _ _ N rfl rfl (by omega) (by omega) hb24.out (by simp only [maxLen]; omega) (Nat.le_refl _) ?_; intro w3 hown3 hgrow3; simp only [Value.cells, toList_madeCells_one, Nat.mul_one] at hown3; have hM3 := MP.begin (fun i => (List.range N).map (trF p S d Z i)) hown3; have hb3 : Below w.heap.size w w3 := (Below.refl _ w).grown hgrow3 (Nat.le_refl _) (fun k e => by cases e); clear hown3 hgrow3)
  go_loopw [20] (fun i wr => ∃ (k : Nat) (vs : List Value), k ≤ N ∧ i = .int .i64 k ∧ MP w.heap.size wr (.slice (some ⟨w.heap.size, 0, none⟩) N N) N k vs (rws (fun i => (List.range N).map (trF p S d Z i)) N k) ∧ Below w.heap.size w wr) (fun i _ => N - (intOf i).toNat)
  case atStart => exact ⟨0, _, Nat.zero_le _, rfl, hM3, hb3⟩
  case round =>
    obtain ⟨k, vs, hk, rfl, hM, hBr⟩ := hrel
    by_cases hlt : k < N
    · obtain ⟨ba, oa, A', c', hA, hba, hca, hsa⟩ := h.rowAt (i := k) (L := N) (by rw [hl.out]; exact hlt) (hro.out k hlt).1
      subst hA
      have hcaw := (hBr.cell (p := ⟨ba, oa + k, none⟩) hba).trans hca
      obtain ⟨u, hu⟩ : ∃ u, vs[k]? = some u := ⟨_, List.getElem?_eq_getElem (by rw [hM.vlen]; exact hlt)⟩
      have hgl := World.ownsRow.lt hM.head _ rfl
      have hkn : (k : Int) < N := by omega
      have hMH := Lib.hid hM
      have hsz : w.heap.size ≤ wr.heap.size := hBr.size
      have hZk := hZ.co (p := p) (by omega) k
      have hfb := fmul_bd p d (co Z k) (by omega)
      clear hM
      rename World => W0
      go_wp2_with (at_make; refine wpList_make_full _ rfl _ _ 23 rfl w.heap.size 22 i0 (.int .u64 0) 1 Tryz.underlying23 hi0 hz0 hz1 .i64 .i64 _ _ N rfl rfl (by omega) (by omega) hb8.out (by simp only [maxLen]; omega) (by omega) ?_; intro w5 hown5 hgrow5; simp only [Value.cells, toList_madeCells_one, Nat.mul_one] at hown5; have hO5 : OwnAt w5 w.heap.size W0.heap.size N N (List.replicate N 0) := (by unfold OwnAt; simpa using hown5); have hb5 : Below W0.heap.size W0 w5 := (Below.refl _ W0).grown hgrow5 (Nat.le_refl _) (fun k e => by cases e); have hM5 := hMH.out.next hb5; have hfz5 := World.ownsRow.frozenAt hM5.head k; have hcell5 := hM5.cell hlt hu; have hgl5 : w.heap.size < w5.heap.size := Nat.lt_of_lt_of_le hgl.2 hb5.size; have hM5H := Lib.hid hM5; clear hM5 hown5; obtain ⟨w6, hw6⟩ : ∃ w6, w6 = w5.setCell ⟨w.heap.size, k, none⟩ (.slice (some ⟨W0.heap.size, 0, none⟩) N N) := ⟨_, rfl⟩)
      rw [← hw6]
      have hB6 : Below w.heap.size w w6 := by rw [hw6]; exact (hBr.trans (hb5.mono hsz)).setCell (p := ⟨w.heap.size, k, none⟩) (Nat.le_refl _) _
      have hO6 : OwnAt w6 w.heap.size W0.heap.size N N (fillL (trF p S d Z k) N 0) := by
        rw [fillL_start, hw6]
        exact hO5.kept (World.ownsRow.stored hM5H.out.head k (.slice (some ⟨W0.heap.size, 0, none⟩) N N)).2 (by have := hgl.2; simp; omega)
      have hv6 : (vs.set k (.slice (some ⟨W0.heap.size, 0, none⟩) N N))[k]? = some (.slice (some ⟨W0.heap.size, 0, none⟩) N N) := List.getElem?_set_self (by rw [hMH.out.vlen]; exact hlt)
      have hM6 : MP w.heap.size w6 (.slice (some ⟨w.heap.size, 0, none⟩) N N) N (k + 1) (vs.set k (.slice (some ⟨W0.heap.size, 0, none⟩) N N)) ((rws (fun i => (List.range N).map (trF p S d Z i)) N k).set k (List.replicate N 0)) := by
        rw [hw6]
        exact hMH.out.lay (w' := w5) (i := k) (k' := k + 1) (row := none) (by omega) hlt (by omega) hgrow5 (fun b e => by cases e) (by rw [List.length_replicate]; exact hO5) (fun b e => .inl (Nat.le_of_eq (by simpa [Value.ownBlock] using e)))
      have hh6 := hM6.cell hlt hv6
      have hsz6 : W0.heap.size ≠ w.heap.size := by have := hgl.2; omega
      have hSet := Lib.hid (rws_next (fun i => (List.range N).map (trF p S d Z i)) hlt)
      have hMH6 := Lib.hid hM6
      have hFD := Lib.hid (fillL_done (trF p S d Z k) N)
      generalize vs.set k (.slice (some ⟨W0.heap.size, 0, none⟩) N N) = vs6 at *
      clear hM6 hO5 hM5H hcell5 hfz5 hMH hw6 hgrow5 hb5 hu hcaw
      refine (hcf k w6 hB6).mono ?_; rintro e w' ⟨rfl, rfl⟩
      go_wp2_with fail
      refine (mul_any _ _ _ hp hd.1 hd.2 hZk.1 hZk.2 _).mono ?_; rintro e w' ⟨rfl, rfl⟩
      go_wp2
      go_loopw [39] (fun j wr => ∃ J : Nat, J ≤ N ∧ j = .int .i64 J ∧ OwnAt wr w.heap.size W0.heap.size N N (fillL (trF p S d Z k) N J) ∧ w6.grownBy wr (some W0.heap.size)) (fun j _ => N - (intOf j).toNat)
      case atStart => exact ⟨0, Nat.zero_le _, rfl, hO6, World.grownBy.refl _ _⟩
      case round =>
        obtain ⟨J, hJ, rfl, hOJ, hGJ⟩ := hrel
        have hBJ := hB6.grown hGJ hB6.size (fun k e => by injection e with e; omega)
        by_cases hltj : J < N
        · obtain ⟨b7, o7, y, hA7, hb7, hy7, hcy7⟩ := hsa.at_ (k := J) (by rw [(hro.out k hlt).1]; exact hltj)
          subst hA7
          have hcy := (hBJ.cell (p := ⟨b7, o7 + J, none⟩) hb7).trans hcy7
          have hyb := (hro.out k hlt).2 y (List.mem_of_getElem? hy7)
          have hZJ := hZ.co (p := p) (by omega) J
          have hmb := fmul_bd p (fmul p d (co Z k)) (co Z J) (by omega)
          have hget := hOJ.cell (fillL_get (trF p S d Z k) N J J hltj)
          have hfz := hOJ.frozen J
          have hhd := hGJ.cell hh6 (by simp; omega)
          have hset : (fillL (trF p S d Z k) N J).set J (fadd p y (fmul p (fmul p d (co Z k)) (co Z J))) = fillL (trF p S d Z k) N (J + 1) := by
            rw [← mx_at2 hy7]
            exact fillL_set (trF p S d Z k) N J
          have hSS := Lib.hid hset
          have hput := Lib.hid (hOJ.put J (fadd p y (fmul p (fmul p d (co Z k)) (co Z J))))
          have hgr2 := Lib.hid (hOJ.grow J (fadd p y (fmul p (fmul p d (co Z k)) (co Z J))))
          have hcj := hcf J
          have wj : (J : Int) < N := by omega
          clear hy7 hcy7 hset
          go_wp2
          refine wp_region_still_tail 15 (by kernel_rfl) (by kernel_rfl) ?_
          simp only [List.take_succ_cons, List.take_zero, List.drop_succ_cons, List.drop_zero]
          change wpStill _ _ (World.drew _) (fun a' => wpList _ _ _ _ a' (World.drew _)) _ _
          repeat still_step
          still_call (still_of (hcj _ hBJ.drew))
          repeat still_step
          still_call (still_of (mul_any _ _ _ hp hfb.1 hfb.2 hZJ.1 hZJ.2 _))
          repeat still_step
          still_call (still_of (add_any _ _ _ hp hyb.1 hyb.2 hmb.1 hmb.2 _))
          repeat still_step
          refine wpStill_nil ?_
          go_wp2
          go_roundw
          case rel => exact ⟨J + 1, by omega, by simp, by rw [← hSS.out]; exact hput.out.drew, grown_drew (grown_trans hGJ hgr2.out)⟩
          case measure => simp [intOf]; omega
        · obtain rfl : J = N := by omega
          rw [hFD.out] at hOJ
          have hM9 := hMH6.out.change (Nat.lt_succ_self k) hv6 hOJ hGJ
          rw [List.set_set, hSet.out] at hM9
          have hMJ := Lib.hid hM9
          clear hM9
          go_wp2
          go_roundw
          case rel => exact ⟨k + 1, vs6, by omega, by simp, hMJ.out, hBJ⟩
          case measure => simp [intOf]; omega
    · obtain rfl : k = N := by omega
      rw [hEnd.out] at hM
      have hs9 := hM.sll
      go_wp2
      go_ret
      exact ⟨_, _, rfl, hs9, hBr⟩
end Go.Proofs.YtkhiiiggmhncbaaGreat
