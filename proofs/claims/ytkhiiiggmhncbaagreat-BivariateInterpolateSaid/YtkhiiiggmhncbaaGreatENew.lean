/- New of package bivariate: the symmetric matrix of the given entries, or an error; nothing that lay is changed. Conditions: at most 20 words in the first row, at most 1000 in the rest. -/
import Derived.Test.YtkhiiiggmhncbaaGreatECat
import Derived.Test.YtkhiiiggmhncbaaGreatENewM
import Derived.Test.YtkhiiiggmhncbaaGreatERws
import Derived.BigRegion
namespace Go.Proofs.YtkhiiiggmhncbaaGreat
set_option maxRecDepth 100000
open Go.RowKit PolyMath FieldMath MatMath

/-- What a pair's two places are in memory, and what becomes of the matrix when they are set. -/
theorem MP.pair {base g c n i j : Nat} {w : World} {vs : List Value} {v : Nat → Nat → Int} {D : Nat → Nat → Bool} (h : MP base w (.slice (some ⟨g, 0, none⟩) n c) n n vs (mkL n v D)) (hij : i ≤ j) (hj : j < n) :
    ∃ bi ci bj cj x y, vs[i]? = some (.slice (some ⟨bi, 0, none⟩) n ci) ∧ vs[j]? = some (.slice (some ⟨bj, 0, none⟩) n cj) ∧ w.cell? ⟨g, i, none⟩ = some (.slice (some ⟨bi, 0, none⟩) n ci) ∧ w.cell? ⟨g, j, none⟩ = some (.slice (some ⟨bj, 0, none⟩) n cj) ∧
      w.cell? ⟨bi, j, none⟩ = some (.int .u64 x) ∧ w.cell? ⟨bj, i, none⟩ = some (.int .u64 y) ∧ w.frozen? ⟨bi, j, none⟩ = false ∧ w.frozen? ⟨bj, i, none⟩ = false ∧ (i ≠ j → bi ≠ bj) ∧ (i = j → bi = bj ∧ ci = cj) ∧ bi ≠ g ∧ bj ≠ g ∧ base ≤ bi ∧ base ≤ bj ∧
      ∀ u, u = v i j → MP base ((w.setCell ⟨bi, j, none⟩ (.int .u64 u)).setCell ⟨bj, i, none⟩ (.int .u64 u)) (.slice (some ⟨g, 0, none⟩) n c) n n vs (mkL n v (more D i j)) := by
  have hi : i < n := by omega
  obtain ⟨bi, ci, hvi, hci, hOi, hgi, _⟩ := h.hd hi (mkL_row v D hi) (by omega)
  obtain ⟨bj, cj, hvj, hcj, hOj, hgj, _⟩ := h.hd hj (mkL_row v D hj) (by omega)
  have hxi : (ro (mkL n v D) i)[j]? = some ((ro (mkL n v D) i)[j]'(by rw [mkL_row v D hi]; exact hj)) := List.getElem?_eq_getElem _
  have hxj : (ro (mkL n v D) j)[i]? = some ((ro (mkL n v D) j)[i]'(by rw [mkL_row v D hj]; exact hi)) := List.getElem?_eq_getElem _
  refine ⟨bi, ci, bj, cj, _, _, hvi, hvj, hci, hcj, hOi.cell hxi, hOj.cell hxj, hOi.frozen j, hOj.frozen i, fun e e2 => e (h.apart i j _ _ bi hi hj hvi hvj rfl (by rw [e2]; rfl)), fun e => ?_, hgi, hgj, hOi.lt.1, hOj.lt.1, fun u hu => ?_⟩
  · subst e
    rw [hvi] at hvj
    injection hvj with hvj
    injection hvj with h1 _ h2
    injection h1 with h1
    injection h1 with h1
    exact ⟨h1, h2⟩
  · have h1 := h.change hi hvi (hOi.put j u) (hOi.grow j u)
    have hO2 := h1.open_ hj hvj (by
      rw [ro_set (by rw [mkL_len]; exact hi)]
      split
      · rw [List.length_set]; exact mkL_row v D hi
      · exact mkL_row v D hj)
    have h2 := h1.change hj hvj (hO2.2.1.put i u) (hO2.2.1.grow i u)
    rw [hu, mkL_put v D hij hj] at h2
    rw [hu]
    exact h2
theorem newSize (n : Nat) (h : n ≤ 20) : IntKind.i64.wrap ((n : Int) * ((n : Int) - 1)) = (n : Int) * ((n : Int) - 1) ∧ ((n : Int) * ((n : Int) - 1)).tdiv 2 = ((n * (n - 1) / 2 : Nat) : Int) ∧ n * (n - 1) / 2 ≤ 200 := by
  have h3 : ∀ k : Nat, k ≤ 20 → IntKind.i64.wrap ((k : Int) * ((k : Int) - 1)) = (k : Int) * ((k : Int) - 1) ∧ ((k : Int) * ((k : Int) - 1)).tdiv 2 = ((k * (k - 1) / 2 : Nat) : Int) ∧ k * (k - 1) / 2 ≤ 200 := by decide
  exact h3 n h

/-- A tuple of a matrix and no error. -/
def MatT (w : World) (e : Ending) (w' : World) (N : Nat) (rows : List (List Int)) : Prop := ∃ A c, e = .returned (.tuple #[.slice A N c, .int .i64 0]) ∧ Sll w' A c rows ∧ Below w.heap.size w w'

theorem new_none (A B : Option Addr) (ca cb m : Nat) (w : World) : Calls Tryz.prog 11 #[.slice A 0 ca, .slice B m cb] w fun e w' => e = .returned (.tuple #[.slice none 0 0, .int .i64 1]) ∧ Below w.heap.size w w' := by
  go_enter Tryz.func11, Tryz.ntmps11
  go_wp2
  go_ret2
  exact ⟨rfl, Below.refl _ _⟩
set_option maxHeartbeats 1000000 in
theorem new_bad (A B : Option Addr) (ca cb n m : Nat) (h0 : 0 < n) (hn : n ≤ 20) (hm : m ≠ n * (n - 1) / 2) (w : World) : Calls Tryz.prog 11 #[.slice A n ca, .slice B m cb] w fun e w' => e = .returned (.tuple #[.slice none 0 0, .int .i64 1]) ∧ Below w.heap.size w w' := by
  obtain ⟨s1, s2, s3⟩ := newSize n hn
  have hz : ((n : Int) == 0) = false := beq_eq_false_iff_ne.2 (by omega)
  have hne : ((m : Int) != ((n * (n - 1) / 2 : Nat) : Int)) = true := bne_iff_ne.2 (by omega)
  have w1 : IntKind.i64.wrap ((n : Int) - 1) = (n : Int) - 1 := IntWalk.i64_in _ (by omega)
  generalize n * (n - 1) / 2 = T at s2 s3 hne hm
  go_enter Tryz.func11, Tryz.ntmps11
  go_wp2
  go_ret2
  exact ⟨rfl, Below.refl _ _⟩

set_option maxHeartbeats 4000000 in
theorem new_ok (A B : Option Addr) (ca cb n m : Nat) (xs ys : List Int) (hx : xs.length = n) (hy : ys.length = m) (h0 : 0 < n) (hn : n ≤ 20) (hm : m = n * (n - 1) / 2) (w : World) (sx : Sl w A ca xs) (sy : Sl w B cb ys) :
    Calls Tryz.prog 11 #[.slice A n ca, .slice B m cb] w fun e w' => MatT w e w' n (newL xs ys) := by
  obtain ⟨i0, hi0, hz0, hz1, hz2⟩ := info_parts info_u64
  obtain ⟨j0, hj0, hy0, hy1, hy2⟩ := info_parts info_sl
  obtain ⟨s1, s2, s3⟩ := newSize n hn
  have hT : Hid (tri n n = n + m) := Lib.hid (by rw [tri_all n hn, hm])
  have hm2 : m ≤ 200 := by omega
  have hz : ((n : Int) == 0) = false := beq_eq_false_iff_ne.2 (by omega)
  rw [← hm] at s2
  have hne : ((m : Int) != (m : Int)) = false := by simp
  have w1 : IntKind.i64.wrap ((n : Int) - 1) = (n : Int) - 1 := IntWalk.i64_in _ (by omega)
  have hb24 : Hid (j0.bytes * n ≤ 281474976710656) := Lib.hid (by rw [hy2]; omega)
  have hb8 : Hid (i0.bytes * n ≤ 281474976710656) := Lib.hid (by rw [hz2]; omega)
  have HX := Lib.hid hx
  have HY := Lib.hid hy
  have hNL : Hid (newL xs ys = mkL n (valU n (xs ++ ys)) fun _ _ => true) := Lib.hid (by unfold newL; rw [hx])
  have hLU : Hid ((xs ++ ys).length = n + m) := Lib.hid (by rw [List.length_append, hx, hy])
  have hZr : Hid (rws (fun _ => List.replicate n 0) n n = mkL n (valU n (xs ++ ys)) (codeD 0 0)) := Lib.hid (by rw [rws_all, codeD_start, mkL_zero])
  clear hm hx hy s3
  go_enter Tryz.func11, Tryz.ntmps11
  go_wp2_with (at_make; refine wpList_make_full _ rfl _ _ 24 rfl w.heap.size 23 j0 (.slice none 0 0) 1 Tryz.underlying24 hj0 hy0 hy1 .i64 .i64 _ _ n rfl rfl (by omega) (by omega) hb24.out (by simp only [maxLen]; omega) (Nat.le_refl _) ?_; intro w3 hown3 hgrow3; simp only [Value.cells, toList_madeCells_one, Nat.mul_one] at hown3; have hM3 := MP.begin (fun _ => List.replicate n 0) hown3; have hb3 : Below w.heap.size w w3 := (Below.refl _ w).grown hgrow3 (Nat.le_refl _) (fun k e => by cases e); clear hown3 hgrow3)
  clear s1 s2 hne w1
  go_loopw [30] (fun i wr => ∃ (k : Nat) (vs : List Value), k ≤ n ∧ i = .int .i64 k ∧ MP w.heap.size wr (.slice (some ⟨w.heap.size, 0, none⟩) n n) n k vs (rws (fun _ => List.replicate n 0) n k) ∧ Below w.heap.size w wr) (fun i _ => n - (intOf i).toNat)
  case atStart => exact ⟨0, _, Nat.zero_le _, rfl, hM3, hb3⟩
  case round =>
    obtain ⟨k, vs, hk, rfl, hM, hBr⟩ := hrel
    by_cases hlt : k < n
    · obtain ⟨u, hu⟩ : ∃ u, vs[k]? = some u := ⟨_, List.getElem?_eq_getElem (by rw [hM.vlen]; exact hlt)⟩
      have hgl := World.ownsRow.lt hM.head _ rfl
      have hkn : (k : Int) < n := by omega
      have hMH := Lib.hid hM
      have hsz : w.heap.size ≤ wr.heap.size := hBr.size
      clear hM
      rename World => W0
      go_wp2_with (at_make; refine wpList_make_full _ rfl _ _ 23 rfl w.heap.size 22 i0 (.int .u64 0) 1 Tryz.underlying23 hi0 hz0 hz1 .i64 .i64 _ _ n rfl rfl (by omega) (by omega) hb8.out (by simp only [maxLen]; omega) (by omega) ?_; intro w5 hown5 hgrow5; simp only [Value.cells, toList_madeCells_one, Nat.mul_one] at hown5; have hO5 : w5.ownsRow w.heap.size 22 1 (.slice (some ⟨W0.heap.size, 0, none⟩) n n) (List.replicate n (0 : Int)).length ((List.replicate n (0 : Int)).map (Value.int .u64)) := (by simpa using hown5); have hb5 : Below W0.heap.size W0 w5 := (Below.refl _ W0).grown hgrow5 (Nat.le_refl _) (fun k e => by cases e); have hM5 := hMH.out.next hb5; have hfz5 := World.ownsRow.frozenAt hM5.head k; have hcell5 := hM5.cell hlt hu; have hput := Lib.hid (hMH.out.put hlt hb5 hO5 (fun b e => Nat.le_of_eq (by simpa [Value.ownBlock] using e))); have hbp := Lib.hid ((hBr.trans (hb5.mono hsz)).setCell (p := ⟨w.heap.size, k, none⟩) (Nat.le_refl _) (.slice (some ⟨W0.heap.size, 0, none⟩) n n)); clear hM5 hown5)
      go_roundw
      case rel => exact ⟨k + 1, _, by omega, by simp, hput.out, hbp.out⟩
      case measure => simp [intOf]; omega
    · obtain rfl : n = k := by omega
      rw [hZr.out] at hM
      have hgl := World.ownsRow.lt hM.head _ rfl
      have hblk := Lib.hid (show ∀ i b c, i < n → vs[i]? = some (.slice (some ⟨b, 0, none⟩) n c) → b < wr.heap.size from fun i b c hi hv => (World.ownsRow.lt (hM.own hi hv) b rfl).2)
      have hsz : w.heap.size ≤ wr.heap.size := hBr.size
      have hB4 := hBr.alloc hsz (.cells #[.slice A n ca, .slice B m cb] 23)
      have hcc := concat_any wr.heap.size 2 n m ca cb A B xs ys HX.out HY.out (by omega) (by omega) (wr.alloc (.cells #[.slice A n ca, .slice B m cb] 23)) (cell_of_row _ _ 0 _ 23 (0, 0) (World.alloc_heap_new wr _)) (cell_of_row _ _ 1 _ 23 (0, 0) (World.alloc_heap_new wr _)) (by simp) (sx.next hB4) (sy.next hB4)
      have hMH := Lib.hid (hM.next (bnew (Below.refl _ wr) (.cells #[.slice A n ca, .slice B m cb] 23) (Nat.le_refl _)))
      have hs4 : (wr.alloc (.cells #[.slice A n ca, .slice B m cb] 23)).heap.size = wr.heap.size + 1 := World.size_alloc _ _
      have HS4 := Lib.hid hs4
      clear hM hs4 sx sy hZr hb3 hM3
      go_wp2_with fail
      refine hcc.mono ?_; rintro e w5 ⟨v, rfl, hown, hb5⟩
      rw [HS4.out] at hown
      obtain ⟨bu, cu, rfl, hbu⟩ := World.ownsRow.form hown (by omega)
      have hM5 := hMH.out.next hb5
      have hB5 := hB4.trans (hb5.mono hB4.size)
      have hO5 : OwnAt w5 (wr.heap.size + 1) bu (n + m) cu (xs ++ ys) := hown
      have hcu : n + m ≤ cu := by have := hO5.sl.cap; rw [hLU.out] at this; exact this
      have hbu1 : wr.heap.size + 1 ≤ bu := hO5.lt.1
      clear hcc hMH hB4 hb5 hBr hown HS4
      generalize wr.heap.size = s0 at *
      go_wp2
      go_loopw [9, 44] (fun u i W => ∃ (k r q off : Nat), k ≤ n ∧ i = .int .i64 k ∧ tri n k + r = n + m ∧ tri n k + q = cu ∧ (0 < r → off = tri n k) ∧ u = .slice (some ⟨bu, off, none⟩) r q ∧ MP w.heap.size W (.slice (some ⟨w.heap.size, 0, none⟩) n n) n n vs (mkL n (valU n (xs ++ ys)) (codeD k 0)) ∧ OwnAt W (s0 + 1) bu (n + m) cu (xs ++ ys) ∧ Below w.heap.size w W) (fun _ i _ => n - (intOf i).toNat)
      case atStart => exact ⟨0, n + m, cu, 0, Nat.zero_le _, rfl, Nat.zero_add _, Nat.zero_add _, fun _ => rfl, rfl, hM5, hO5, hB5⟩
      case round =>
        clear hM5 hO5 hB5
        obtain ⟨k, r, q, off, hk, rfl, hr, hq, hoff, rfl, hM, hO, hB⟩ := hrel
        by_cases hlt : k < n
        · have hkn : (k : Int) < n := by omega
          rw [← codeD_begin] at hM
          have hRQ := Lib.hid (⟨hr, hq⟩ : tri n k + r = n + m ∧ tri n k + q = cu)
          have hOF := Lib.hid hoff
          clear hr hq hoff
          rename World => W0
          go_wp2
          go_loopw [9, 11] (fun u i W => ∃ (j r q off : Nat), k ≤ j ∧ j ≤ n ∧ i = .int .i64 j ∧ Hid (tri n k + (j - k) + r = n + m ∧ tri n k + (j - k) + q = cu) ∧ Hid (0 < r → off = tri n k + (j - k)) ∧ u = .slice (some ⟨bu, off, none⟩) r q ∧ MP w.heap.size W (.slice (some ⟨w.heap.size, 0, none⟩) n n) n n vs (mkL n (valU n (xs ++ ys)) (codeD k j)) ∧ OwnAt W (s0 + 1) bu (n + m) cu (xs ++ ys) ∧ Below w.heap.size w W) (fun _ i _ => n - (intOf i).toNat)
          case atStart => exact ⟨k, r, q, off, Nat.le_refl _, hk, rfl, by rw [Nat.sub_self]; exact hRQ, by rw [Nat.sub_self]; exact hOF, rfl, hM, hO, hB⟩
          case round =>
            clear hM hO hB hRQ hOF
            obtain ⟨j, r, q, off, hkj, hj, rfl, hRQ, hOF, rfl, hM, hO, hB⟩ := hrel
            by_cases hltj : j < n
            · obtain ⟨bi, ci, bj, cj, x, y, hvi, hvj, hci, hcj, hxi, hxj, hfi, hfj, hne, heq, hgi, hgj, hbi, hbj, hset⟩ := hM.pair hkj hltj
              have htl := tri_lt hkj hltj
              have htl2 : tri n k + (j - k) < n + m := by rw [← hT.out]; exact htl
              have hr0 : 0 < r := by have := hRQ.out.1; omega
              have hrq : r ≤ q := by have := hRQ.out; omega
              have hof := hOF.out hr0
              have hx0 : (xs ++ ys)[tri n k + (j - k)]? = some (valU n (xs ++ ys) k j) := by
                unfold valU
                rw [co_get (by rw [hLU.out]; exact htl2)]
                exact List.getElem?_eq_getElem _
              have hcu0 := hO.cell hx0
              have hnext := codeD_next (n := n) (i := k) (j := j) (valU n (xs ++ ys))
              have hset2 := Lib.hid (hset _ rfl)
              have hbi2 := hblk.out k bi ci hlt hvi
              have hbj2 := hblk.out j bj cj hltj hvj
              generalize valU n (xs ++ ys) k j = z at hcu0 hset2
              rw [← hof] at hcu0
              have hr0i : (0 : Int) < r := by omega
              have hr1i : (1 : Int) ≤ r := by omega
              have hrqi : (r : Int) ≤ q := by omega
              have hjn : (j : Int) < n := by omega
              have hMn : MP w.heap.size ((wr.setCell ⟨bi, j, none⟩ (.int .u64 z)).setCell ⟨bj, k, none⟩ (.int .u64 z)).drew (.slice (some ⟨w.heap.size, 0, none⟩) n n) n n vs (mkL n (valU n (xs ++ ys)) (codeD k (j + 1))) := by
                rw [← hnext]
                exact hset2.out.next (Below.refl _ _).drew
              have hOn : OwnAt ((wr.setCell ⟨bi, j, none⟩ (.int .u64 z)).setCell ⟨bj, k, none⟩ (.int .u64 z)).drew (s0 + 1) bu (n + m) cu (xs ++ ys) :=
                OwnAt.drew (ownsRow_setCell_below (ownsRow_setCell_below hO (a := ⟨bi, j, none⟩) (by show bi < _; omega) _) (a := ⟨bj, k, none⟩) (by show bj < _; omega) _)
              have hBn : Below w.heap.size w ((wr.setCell ⟨bi, j, none⟩ (.int .u64 z)).setCell ⟨bj, k, none⟩ (.int .u64 z)).drew := ((hB.setCell (p := ⟨bi, j, none⟩) hbi _).setCell (p := ⟨bj, k, none⟩) hbj _).drew
              have hRn : Hid (tri n k + (j + 1 - k) + (r - 1) = n + m ∧ tri n k + (j + 1 - k) + (q - 1) = cu) := Lib.hid (by have := hRQ.out; omega)
              have hOF1 : Hid (0 < r - 1 → off + 1 = tri n k + (j + 1 - k)) := Lib.hid (fun _ => by omega)
              have hOF2 : q = 1 → Hid (0 < r - 1 → off = tri n k + (j + 1 - k)) := fun e => Lib.hid (fun h => by omega)
              have HMn := Lib.hid hMn
              have HOn := Lib.hid hOn
              have HBn := Lib.hid hBn
              have hbug : bu ≠ w.heap.size := by omega
              have hbub : bu ≠ bi := by omega
              have hbuc : bu ≠ bj := by omega
              clear hM hO hB hset2 hMn hOn hBn hRQ hOF hof htl htl2 hx0 hnext hset
              by_cases hq1 : q = 1
              · have HF := hOF2 hq1
                clear hOF1 hOF2
                by_cases e : k = j
                · obtain ⟨e1, e2⟩ := heq e
                  subst e e1 e2
                  clear heq hne
                  go_wp2
                  go_region
                  go_wp2
                  go_roundw
                  case rel => exact ⟨k + 1, r - 1, q - 1, off, by omega, by omega, by simp, hRn, HF, by first | rfl | (simp; omega), HMn.out, HOn.out, HBn.out⟩
                  case measure => simp [intOf]; omega
                · have hnb := hne e
                  clear heq hne
                  go_wp2
                  go_region
                  go_wp2
                  go_roundw
                  case rel => exact ⟨j + 1, r - 1, q - 1, off, by omega, by omega, by simp, hRn, HF, by first | rfl | (simp; omega), HMn.out, HOn.out, HBn.out⟩
                  case measure => simp [intOf]; omega
              · clear hOF2
                by_cases e : k = j
                · obtain ⟨e1, e2⟩ := heq e
                  subst e e1 e2
                  clear heq hne
                  go_wp2
                  go_region
                  go_wp2
                  go_roundw
                  case rel => exact ⟨k + 1, r - 1, q - 1, off + 1, by omega, by omega, by simp, hRn, hOF1, by first | rfl | simp, HMn.out, HOn.out, HBn.out⟩
                  case measure => simp [intOf]; omega
                · have hnb := hne e
                  clear heq hne
                  go_wp2
                  go_region
                  go_wp2
                  go_roundw
                  case rel => exact ⟨j + 1, r - 1, q - 1, off + 1, by omega, by omega, by simp, hRn, hOF1, by first | rfl | simp, HMn.out, HOn.out, HBn.out⟩
                  case measure => simp [intOf]; omega
            · obtain rfl : n = j := by omega
              rw [codeD_end] at hM
              have hMH := Lib.hid hM
              have htr : tri n k + (n - k) = tri n (k + 1) := rfl
              have hq1 := hRQ.out
              have hq2 := hOF.out
              rw [htr] at hq1 hq2
              have HQ1 := Lib.hid hq1
              have HQ2 := Lib.hid hq2
              clear hM hq1 hq2 hRQ hOF htr
              go_wp2
              go_roundw
              case rel => exact ⟨k + 1, r, q, off, by omega, by simp, HQ1.out.1, HQ1.out.2, HQ2.out, rfl, hMH.out, hO, hB⟩
              case measure => simp [intOf]; omega
        · obtain rfl : n = k := by omega
          rw [codeD_all, ← hNL.out] at hM
          have hs9 := Lib.hid hM.sll
          clear hM
          go_wp2
          go_ret2
          exact ⟨_, _, rfl, hs9.out, hB⟩
end Go.Proofs.YtkhiiiggmhncbaaGreat
