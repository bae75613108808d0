/- transposedFit of package bivariate: the columns by interpolation, in memory of the call's own. Conditions: a supported prime, at least one and at most 50 points of its field, distinct, as many rows over it. -/
import Derived.Test.YtkhiiiggmhncbaaGreatEPts
import Derived.Test.YtkhiiiggmhncbaaGreatENew
import Derived.Test.YtkhiiiggmhncbaaGreatMC
import Derived.Laws.CopyOwn
namespace Go.Proofs.YtkhiiiggmhncbaaGreat
set_option maxRecDepth 100000
open Go.RowKit PolyMath FieldMath MatMath

theorem size_words : (Tryz.prog.info? 22).map (·.size) = some 1 := by kernel_rfl
theorem row_of_own {w : World} {B t g k : Nat} {xs : List Value} (h : w.ownsRow B t 1 (.slice (some ⟨g, 0, none⟩) k k) k xs) : w.heap[g]? = some (.cells xs.toArray t (0, 0)) := by
  rcases h.2 with ⟨hv, _⟩ | ⟨g', cap, cur, hv, _, hh, h1, h2, h3, h4⟩
  · cases hv
  · cases hv
    rw [hh, ← h4, List.take_of_length_le (by rw [Array.length_toList]; omega)]
theorem own_heap {w : World} {base g n : Nat} {xs : List Int} (h : w.heap[g]? = some (.cells (xs.map (Value.int .u64)).toArray 22 (0, 0))) (hl : xs.length = n) (hb : base ≤ g) (hm : n ≤ maxLen) : OwnAt w base g n n xs :=
  ⟨by rw [List.length_map, hl, Nat.mul_one], .inr ⟨g, n, _, rfl, hb, h, Nat.le_refl _, hm, by simp [hl], by rw [Nat.mul_one, List.take_of_length_le (by simp [hl])]⟩⟩
theorem grown_setRow (w : World) (g : Nat) (cs : Array Value) : w.grownBy (w.setRow g cs) (some g) := ⟨rfl, rfl, rfl, by simp [World.setRow], fun b _ hr => setRow_other w g b cs (fun e => hr (by rw [e]))⟩
theorem padL_nil (n : Nat) : padL n [] = List.replicate n 0 := by unfold padL; show (List.range n).map (fun _ => (0 : Int)) = _; rw [List.map_const', List.length_range]
theorem padL_cells {n : Nat} {F : List Int} (h : F.length ≤ n) : (padL n F).map (Value.int .u64) = F.map (Value.int .u64) ++ (List.replicate (n - F.length) (Value.int .u64 0)) := by
  have e : padL n F = F ++ List.replicate (n - F.length) 0 := by
    refine list_ext (by rw [padL_len]; simp; omega) fun i => ?_
    rw [co_padL h]
    unfold co
    by_cases hi : i < F.length
    · rw [List.getElem?_append_left hi]
    · rw [List.getElem?_append_right (by omega), List.getElem?_eq_none (by omega), List.getElem?_replicate]
      split <;> rfl
  rw [e, List.map_append, List.map_replicate]
theorem zip_cpts (xs : List Int) (rows : List (List Int)) (n j : Nat) : zipL xs (colT rows n j) n = cpts xs rows n j := by
  unfold zipL cpts colT
  refine List.map_congr_left fun i hi => ?_
  rw [co_map, if_pos (List.mem_range.1 hi)]

/-- A store over a cell that holds no word leaves a slice of words as it reads. -/
theorem Sl.poke {w : World} {A : Option Addr} {c : Nat} {xs : List Int} (h : Sl w A c xs) {p : Addr} {u v : Value} (hp : w.cell? p = some u) (hu : ∀ x, u ≠ .int .u64 x) : Sl (w.setCell p v) A c xs :=
  ⟨h.cap, h.nil, fun ad hA hn => by
    obtain ⟨b, off, e, hb, hc⟩ := h.rd ad hA hn
    refine ⟨b, off, e, by simpa [World.setCell] using hb, fun j x hx => ?_⟩
    rw [World.cell?_setCell_other]
    · exact hc j x hx
    · intro e2
      have := hc j x hx
      rw [← e2, hp] at this
      injection this with this
      exact hu x this⟩
/-- From place k on no row is laid yet. -/
def Nils (vs : List Value) (N k : Nat) : Prop := ∀ i, k ≤ i → i < N → vs[i]? = some (.slice none 0 0)
theorem Nils.start (N : Nat) : Nils (List.replicate N (.slice none 0 0)) N 0 := fun i _ hi => by rw [List.getElem?_replicate, if_pos hi]
theorem Nils.put {vs : List Value} {N k : Nat} (h : Nils vs N k) (u : Value) : Nils (vs.set k u) N (k + 1) := fun i h1 h2 => by rw [List.getElem?_set_ne (by omega)]; exact h i (by omega) h2

set_option maxHeartbeats 8000000 in
theorem fit_any (p : Int) (hp : OkP p) (A B : Option Addr) (ca cb N : Nat) (xs : List Int) (rows : List (List Int)) (hx : El p xs) (hn : xs.Nodup) (lx : xs.length = N) (lr : rows.length = N) (hr : ∀ r ∈ rows, El p r) (hN : N ≤ 50) (w : World) (sx : Sl w A ca xs) (sr : Sll w B cb rows) :
    Calls Tryz.prog 19 #[.int .u64 p, .slice A N ca, .slice B N cb] w fun e w' => MatT w e w' N (fitL p xs rows N) := by
  obtain ⟨i0, hi0, hz0, hz1, hz2⟩ := info_parts info_u64
  obtain ⟨j0, hj0, hy0, hy1, hy2⟩ := info_parts info_sl
  have hbd := hp.bd
  have hmb : ∀ i j, 0 ≤ mx rows i j ∧ mx rows i j < p := fun i j => by
    rw [mx_ro]
    by_cases h : i < rows.length
    · exact (hr _ (List.mem_of_getElem? (ro_get h))).co (by omega) j
    · unfold ro; rw [List.getElem?_eq_none (by omega)]; exact (El.nil p).co (by omega) j
  have hpx : ∀ j, px (cpts xs rows N j) = xs := fun j => by rw [px_cpts, range_co xs (by omega), List.take_of_length_le (by omega)]
  have hpy : ∀ j, El p (py (cpts xs rows N j)) := fun j => by rw [py_cpts]; intro z hz; obtain ⟨i, _, rfl⟩ := mem_range_map hz; exact hmb _ _
  have hF : ∀ j, (thru p (cpts xs rows N j)).length ≤ N := fun j => by
    have := (thru_itp hp.good (ps := cpts xs rows N j) (by rw [hpx]; exact hn) (by rw [hpx]; exact hx) (hpy j)).fl
    rw [hpx, lx] at this
    exact this
  have hpol := fun (j : Nat) (A' : Option Addr) (c' : Nat) (W : World) (h : Pt W A' c' (zipL xs (colT rows N j) N)) => pol_any p hp A' c' (cpts xs rows N j) (by rw [hpx]; exact hx) (hpy j) (by rw [cpts_len]; omega) W (by rw [← zip_cpts]; exact h)
  simp only [cpts_len] at hpol
  have hND := Lib.hid fun j => show (px (cpts xs rows N j)).Nodup by rw [hpx]; exact hn
  have hFH := Lib.hid hF
  have HX := Lib.hid lx
  have hCL : ∀ j, Hid ((colT rows N j).length = N) := fun j => Lib.hid (by unfold colT; simp)
  have hEnd : Hid (rws (fun j => padL N (thru p (cpts xs rows N j))) N N = fitL p xs rows N) := Lib.hid (rws_all _ _)
  have hb24 : Hid (j0.bytes * N ≤ 281474976710656) := Lib.hid (by rw [hy2]; omega)
  have hb8 : Hid (i0.bytes * N ≤ 281474976710656) := Lib.hid (by rw [hz2]; omega)
  have LR := Lib.hid lr
  clear hn hx hr hmb hpx hpy hF lx lr
  go_enter Tryz.func19, Tryz.ntmps19
  go_wp2_with (at_make; refine wpList_make_full _ rfl _ _ 24 rfl w.heap.size 23 j0 (.slice none 0 0) 1 Tryz.underlying24 hj0 hy0 hy1 .i64 .i64 _ _ N rfl rfl (by omega) (by omega) hb24.out (by simp only [maxLen]; omega) (Nat.le_refl _) ?_; intro w3 hown3 hgrow3; simp only [Value.cells, toList_madeCells_one, Nat.mul_one] at hown3; have hM3 := MP.begin (fun j => padL N (thru p (cpts xs rows N j))) hown3; have hb3 : Below w.heap.size w w3 := (Below.refl _ w).grown hgrow3 (Nat.le_refl _) (fun k e => by cases e); clear hown3 hgrow3)
  go_loopw [17] (fun i wr => ∃ (k : Nat) (vs : List Value), k ≤ N ∧ i = .int .i64 k ∧ MP w.heap.size wr (.slice (some ⟨w.heap.size, 0, none⟩) N N) N k vs (rws (fun j => padL N (thru p (cpts xs rows N j))) N k) ∧ Nils vs N k ∧ Below w.heap.size w wr) (fun i _ => N - (intOf i).toNat)
  case atStart => exact ⟨0, _, Nat.zero_le _, rfl, hM3, Nils.start N, hb3⟩
  case round =>
    obtain ⟨k, vs, hk, rfl, hM, hNil, hBr⟩ := hrel
    by_cases hlt : k < N
    · have hu := hNil k (Nat.le_refl _) hlt
      have hkn : (k : Int) < N := by omega
      have hMH := Lib.hid hM
      have hsz : w.heap.size ≤ wr.heap.size := hBr.size
      have hcol := column_any B cb N k rows LR.out (by omega) wr (sr.next hBr)
      clear hM hM3 hb3
      rename World => W0
      go_wp2_with fail
      refine hcol.mono ?_; rintro e w4 ⟨g4, rfl, hO4, hb4⟩
      go_wp2_with fail
      refine (pointsOf_any A (some ⟨g4, 0, none⟩) ca N N xs (colT rows N k) HX.out (hCL k).out (by omega) w4 ((sx.next hBr).next hb4) hO4.sl).mono ?_
      rintro e w5 ⟨A5, c5, rfl, hP5, hb5⟩
      have hb5' := hb4.trans (hb5.mono hb4.size)
      go_wp2_with fail
      refine (hpol k A5 c5 w5 hP5).mono ?_
      rintro e w6 (⟨_, A6, c6, rfl, hs6, hb6⟩ | ⟨hno, _, _⟩)
      case inr => exact absurd (hND.out k) hno
      have hb6' := hb5'.trans (hb6.mono hb5'.size)
      have hM6 := hMH.out.next hb6'
      have hB6 := hBr.trans (hb6'.mono hsz)
      have hsz6 := hB6.size
      have hgl := World.ownsRow.lt hM6.head _ rfl
      have hFk := hFH.out k
      have hSet := rws_next (fun j => padL N (thru p (cpts xs rows N j))) hlt
      generalize thru p (cpts xs rows N k) = F at hs6 hFk hSet ⊢
      have hSETH := Lib.hid hSet
      have hM6H := Lib.hid hM6
      clear hcol hO4 hb4 hP5 hb5 hb5' hb6 hb6' hMH hM6 hSet
      have hAll : ∀ (w7 : World), w7.ownsRow w.heap.size 22 1 (.slice (some ⟨w6.heap.size, 0, none⟩) N N) N (List.replicate N (.int .u64 0)) → w6.grownBy w7 none →
          w7.frozen? ⟨w.heap.size, k, none⟩ = false ∧ w7.cell? ⟨w.heap.size, k, none⟩ = some (.slice none 0 0) ∧ w.heap.size < w7.heap.size ∧
          (w7.setCell ⟨w.heap.size, k, none⟩ (.slice (some ⟨w6.heap.size, 0, none⟩) N N)).heap[w6.heap.size]? = some (.cells (List.replicate N (Value.int .u64 0)).toArray 22 (0, 0)) ∧
          Sl (w7.setCell ⟨w.heap.size, k, none⟩ (.slice (some ⟨w6.heap.size, 0, none⟩) N N)) A6 c6 F ∧
          Below w.heap.size w (w7.setCell ⟨w.heap.size, k, none⟩ (.slice (some ⟨w6.heap.size, 0, none⟩) N N)) ∧
          ∀ W, (w7.setCell ⟨w.heap.size, k, none⟩ (.slice (some ⟨w6.heap.size, 0, none⟩) N N)).grownBy W (some w6.heap.size) → OwnAt W w.heap.size w6.heap.size N N (padL N F) →
            MP w.heap.size W (.slice (some ⟨w.heap.size, 0, none⟩) N N) N (k + 1) (vs.set k (.slice (some ⟨w6.heap.size, 0, none⟩) N N)) (rws (fun j => padL N (thru p (cpts xs rows N j))) N (k + 1)) := fun w7 hown7 hgrow7 => by
        have hb7 : Below w6.heap.size w6 w7 := (Below.refl _ w6).grown hgrow7 (Nat.le_refl _) (fun k e => by cases e)
        have hM7 := hM6H.out.next hb7
        have hcell7 := hM7.cell hlt hu
        have hst := World.ownsRow.stored hM7.head k (.slice (some ⟨w6.heap.size, 0, none⟩) N N)
        have hO8 := World.ownsRow.kept hown7 hst.2 (.inr (by have := hgl.2; simp [Value.ownBlock]; omega))
        refine ⟨World.ownsRow.frozenAt hM7.head k, hcell7, Nat.lt_of_lt_of_le hgl.2 hb7.size, row_of_own hO8, (hs6.next hb7).poke hcell7 (fun x e => by cases e), (hB6.trans (hb7.mono hsz6)).setCell (p := ⟨w.heap.size, k, none⟩) (Nat.le_refl _) _, fun W hgW hOW => ?_⟩
        have hO7 : w7.ownsRow w.heap.size 22 1 (.slice (some ⟨w6.heap.size, 0, none⟩) N N) (List.replicate N (0 : Int)).length ((List.replicate N (0 : Int)).map (Value.int .u64)) := by simpa using hown7
        have hM8 := hM6H.out.lay (w' := w7) (i := k) (k' := k + 1) (u := .slice (some ⟨w6.heap.size, 0, none⟩) N N) (row := none) (by omega) hlt (by omega) hgrow7 (fun b e => by cases e) hO7 (fun b e => .inl (Nat.le_of_eq (by simpa [Value.ownBlock] using e)))
        have hv8 : (vs.set k (.slice (some ⟨w6.heap.size, 0, none⟩) N N))[k]? = some (.slice (some ⟨w6.heap.size, 0, none⟩) N N) := List.getElem?_set_self (by rw [hM6H.out.vlen]; exact hlt)
        have hM9 := hM8.change (Nat.lt_succ_self k) hv8 hOW hgW
        rw [List.set_set, hSETH.out] at hM9
        exact hM9
      have hAH := Lib.hid hAll
      have hNP := Lib.hid (hNil.put (.slice (some ⟨w6.heap.size, 0, none⟩) N N))
      have hpad : ∀ (W : World), W.heap[w6.heap.size]? = some (.cells (F.map (Value.int .u64) ++ List.replicate (N - F.length) (Value.int .u64 0)).toArray 22 (0, 0)) → OwnAt W w.heap.size w6.heap.size N N (padL N F) := fun W hW => by
        refine own_heap ?_ (padL_len N F) hsz6 (by simp only [maxLen]; omega)
        rw [hW, padL_cells hFk]
      have hPD := Lib.hid hpad
      have hXn : Hid ((F.map (Value.int .u64)).length = Nat.min F.length N) := Lib.hid (by rw [List.length_map]; exact (Nat.min_eq_left hFk).symm)
      have hone := Lib.hid (one_cells F)
      have hA6 : Hid (0 < F.length → ∃ b o, A6 = some ⟨b, o, none⟩) := Lib.hid (fun h0 => by
        obtain ⟨b, o, _, e, _⟩ := hs6.at_ h0
        exact ⟨b, o, e⟩)
      clear hAll hpad hNil hu hs6 hM6H hSETH
      by_cases hF0 : F.length = 0
      · have hFn : Hid (F = []) := Lib.hid (List.eq_nil_of_length_eq_zero hF0)
        have hmin : Hid (Nat.min F.length N = 0) := Lib.hid (by rw [hF0]; exact Nat.zero_min N)
        clear hF0
        go_wp2_with (first | (at_make; refine wpList_make_full _ rfl _ _ 23 rfl w.heap.size 22 i0 (.int .u64 0) 1 Tryz.underlying23 hi0 hz0 hz1 .i64 .i64 _ _ N rfl rfl (by omega) (by omega) hb8.out (by simp only [maxLen]; omega) hsz6 ?_; intro w7 hown7 hgrow7; simp only [Value.cells, toList_madeCells_one, Nat.mul_one] at hown7; obtain ⟨hfz7, hcell7, hgl7, hh8, hs8, hB8, hfin⟩ := hAH.out w7 hown7 hgrow7; have HH8 := Lib.hid hh8; have HB8 := Lib.hid hB8; have HFIN := Lib.hid hfin; clear hh8 hs8 hB8 hfin hown7) | (with_reducible refine wpList_copy_nothing rfl (.tmp 42) (.tmp 43) 23 23 rfl 22 Tryz.underlying23 size_words _ _ N N F.length c6 rfl rfl hmin.out ?_))
        have hPN := hPD.out (w7.setCell ⟨w.heap.size, k, none⟩ (.slice (some ⟨w6.heap.size, 0, none⟩) N N)) (by rw [HH8.out, hFn.out]; simp)
        have hfin2 := Lib.hid (HFIN.out _ (World.grownBy.refl _ _) hPN)
        clear hPN
        go_roundw
        case rel => exact ⟨k + 1, _, by omega, by simp, hfin2.out, hNP.out, HB8.out⟩
        case measure => simp [intOf]; omega
      · obtain ⟨b6, o6, e6⟩ := hA6.out (by omega)
        subst e6
        have hfit : Hid (0 + (F.map (Value.int .u64)).length ≤ (List.replicate N (Value.int .u64 0)).toArray.size) := Lib.hid (by simp; omega)
        clear hF0 hA6
        go_wp2_with (first | (at_make; refine wpList_make_full _ rfl _ _ 23 rfl w.heap.size 22 i0 (.int .u64 0) 1 Tryz.underlying23 hi0 hz0 hz1 .i64 .i64 _ _ N rfl rfl (by omega) (by omega) hb8.out (by simp only [maxLen]; omega) hsz6 ?_; intro w7 hown7 hgrow7; simp only [Value.cells, toList_madeCells_one, Nat.mul_one] at hown7; obtain ⟨hfz7, hcell7, hgl7, hh8, hs8, hB8, hfin⟩ := hAH.out w7 hown7 hgrow7; have HH8 := Lib.hid hh8; have HB8 := Lib.hid hB8; have HS8 := Lib.hid hs8; have HFIN := Lib.hid hfin; clear hh8 hs8 hB8 hfin hown7) | (with_reducible refine wpList_copy_own rfl (.tmp 42) (.tmp 43) 23 23 rfl 22 Tryz.underlying23 size_words w6.heap.size 0 N N ⟨b6, o6, none⟩ F.length c6 rfl rfl (List.replicate N (Value.int .u64 0)).toArray 22 HH8.out (F.map (Value.int .u64)) hXn.out HS8.out.newsP hfit.out hone.out ?_))
        have hgw := grown_setRow (w7.setCell ⟨w.heap.size, k, none⟩ (.slice (some ⟨w6.heap.size, 0, none⟩) N N)) w6.heap.size (F.map (Value.int .u64) ++ List.replicate (N - F.length) (Value.int .u64 0)).toArray
        have hPN := hPD.out _ (setRow_heap (w7.setCell ⟨w.heap.size, k, none⟩ (.slice (some ⟨w6.heap.size, 0, none⟩) N N)) w6.heap.size _ (F.map (Value.int .u64) ++ List.replicate (N - F.length) (Value.int .u64 0)).toArray _ _ HH8.out)
        have hfin2 := Lib.hid (HFIN.out _ hgw hPN)
        have hB9 := Lib.hid (HB8.out.grown hgw HB8.out.size (fun e he => by injection he with he; omega))
        clear hPN hgw
        go_roundw
        case rel => exact ⟨k + 1, _, by omega, by simp, hfin2.out, hNP.out, hB9.out⟩
        case measure => simp [intOf]; omega
    · obtain rfl : k = N := by omega
      rw [hEnd.out] at hM
      have HS := Lib.hid hM.sll
      clear hM hNil
      go_wp2
      go_ret2
      exact ⟨_, _, rfl, HS.out, hBr⟩
end Go.Proofs.YtkhiiiggmhncbaaGreat
