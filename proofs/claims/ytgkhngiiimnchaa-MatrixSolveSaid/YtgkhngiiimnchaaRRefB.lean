/- Turn and One of the reference of layer 6: the transpose and the identity, in memory of the call's own; nothing that lay is changed. Conditions: at most 100 rows and columns, the matrix rectangular. -/
import Derived.Test.YtgkhngiiimnchaaRRefA
namespace Go.Proofs.Ytgkhngiiimnchaa
open Go.RowKit PolyMath FieldMath MatMath

theorem own_wide {w : World} {base base' t n : Nat} {v : Value} {xs : List Value} (h : w.ownsRow base t 1 v n xs) (hb : base' ≤ base) : w.ownsRow base' t 1 v n xs :=
  ⟨h.1, h.2.imp id fun ⟨g, cap, cur, a1, a2, a3⟩ => ⟨g, cap, cur, a1, Nat.le_trans hb a2, a3⟩⟩
theorem MP.wide {base base' N k : Nat} {w : World} {v : Value} {vs : List Value} {rows : List (List Int)} (h : MP base w v N k vs rows) (hb : base' ≤ base) : MP base' w v N k vs rows :=
  ⟨own_wide h.head hb, h.len, h.le, fun i hi => by obtain ⟨u, h1, h2⟩ := h.row i hi; exact ⟨u, h1, own_wide h2 hb⟩, h.apart⟩
/-- One row more. -/
theorem MP.add {base N : Nat} {w0 w w' : World} {v v' u : Value} {vs : List Value} {rows : List (List Int)} {r : List Int} (h : MP base w0 v N N vs rows) (hb : Below w0.heap.size w0 w) (hbase : base ≤ w0.heap.size)
    (hu : w.ownsRow w0.heap.size 22 1 u r.length (r.map (Value.int .u64))) (hown : w'.ownsRow base 24 1 v' (N + 1) (vs ++ [u])) (hg : w.grownBy w' v.ownBlock) : MP base w' v' (N + 1) (N + 1) (vs ++ [u]) (rows ++ [r]) := by
  have h1 := h.next hb
  have hvl := h.vlen
  have hrl := h.len
  have keep : ∀ {x : Value} {b n : Nat} {xs : List Int}, w.ownsRow b 22 1 x n (xs.map (Value.int .u64)) → w'.ownsRow b 22 1 x n (xs.map (Value.int .u64)) := fun {x b n xs} hx =>
    World.ownsRow.kept hx hg (by
      cases hq : x.ownBlock with
      | none => exact .inl rfl
      | some e =>
        refine .inr fun e' => ?_
        obtain ⟨c1, f1, t1⟩ := own_tag hx e hq
        obtain ⟨c2, f2, t2⟩ := own_tag h1.head e e'.symm
        rw [t1] at t2
        cases t2)
  have roL : ∀ i, i < N → ro (rows ++ [r]) i = ro rows i := fun i hi => by unfold ro; rw [List.getElem?_append_left (by omega)]
  have roR : ro (rows ++ [r]) N = r := by unfold ro; rw [List.getElem?_append_right (by omega), show N - rows.length = 0 by omega]; rfl
  have vR : (vs ++ [u])[N]? = some u := by rw [List.getElem?_append_right (by omega), show N - vs.length = 0 by omega]; rfl
  refine ⟨hown, by rw [List.length_append, List.length_singleton, hrl], Nat.le_refl _, fun i hi => ?_, fun i j x y e hi hj hx hy he he' => ?_⟩
  · by_cases e : i = N
    · subst e
      exact ⟨u, vR, by rw [roR]; exact keep (own_wide hu hbase)⟩
    · obtain ⟨x, h2, h3⟩ := h1.row i (by omega)
      exact ⟨x, by rw [List.getElem?_append_left (by omega)]; exact h2, by rw [roL i (by omega)]; exact keep h3⟩
  · have old : ∀ i x, i < N → (vs ++ [u])[i]? = some x → x.ownBlock = some e → e < w0.heap.size := fun i x hi hx he => by
      rw [List.getElem?_append_left (by omega)] at hx
      exact (World.ownsRow.lt (h.own hi hx) e he).2
    have new : ∀ x, (vs ++ [u])[N]? = some x → x.ownBlock = some e → w0.heap.size ≤ e := fun x hx he => by
      rw [vR] at hx
      injection hx with hx
      subst hx
      exact (World.ownsRow.lt hu e he).1
    by_cases e1 : i = N
    · by_cases e2 : j = N
      · omega
      · subst e1
        have := new x hx he
        have := old j y (by omega) hy he'
        omega
    · by_cases e2 : j = N
      · subst e2
        have := new y hy he'
        have := old i x (by omega) hx he
        omega
      · rw [List.getElem?_append_left (by omega)] at hx hy
        exact h.apart i j x y e (by omega) (by omega) hx hy he he'
theorem MP.zero (base : Nat) (w : World) : MP base w (.slice none 0 0) 0 0 [] [] :=
  ⟨World.ownsRow_nil _ _ _ _, rfl, Nat.le_refl _, fun _ hi => absurd hi (Nat.not_lt_zero _), fun _ _ _ _ _ hi => absurd hi (Nat.not_lt_zero _)⟩

/-- The identity. -/
def oneL (n : Nat) : List (List Int) := (List.range n).map fun i => unitL n i
theorem oneL_len (n : Nat) : (oneL n).length = n := by unfold oneL; simp
def oneK (n k : Nat) : List (List Int) := (List.range k).map fun i => unitL n i
theorem oneK_len (n k : Nat) : (oneK n k).length = k := by unfold oneK; simp
theorem oneK_next (n k : Nat) : oneK n (k + 1) = oneK n k ++ [unitL n k] := by unfold oneK; rw [List.range_succ, List.map_append]; rfl

set_option maxHeartbeats 1000000 in
theorem rOne_any (n : Nat) (hn : n ≤ 100) (w : World) :
    Calls Try.prog 28 #[.int .i64 n] w fun e w' => MFresh w e w' (oneL n) := by
  obtain ⟨i0, hi0, hz0, hz1, hz2⟩ := info_parts info_u64
  obtain ⟨j0, hj0, hy0, hy1, hy2⟩ := info_parts info_sl
  have hb8 : Hid (i0.bytes * n ≤ 281474976710656) := Lib.hid (by rw [hz2]; omega)
  go_enter Try.func28, Try.ntmps28
  go_wp2
  go_loopw [3, 4] (fun v i wr => ∃ (k : Nat) (vs : List Value), k ≤ n ∧ i = .int .i64 k ∧ MP w.heap.size wr v k k vs (oneK n k) ∧ Below w.heap.size w wr) (fun _ i _ => n - (intOf i).toNat)
  case atStart => exact ⟨0, [], Nat.zero_le _, rfl, MP.zero _ _, Below.refl _ _⟩
  case round =>
    obtain ⟨k, vs, hk, rfl, hM, hB⟩ := hrel
    have hsz : w.heap.size ≤ wr.heap.size := hB.size
    by_cases hlt : k < n
    · have hin : (k : Int) < n := by omega
      have hMH := Lib.hid hM
      obtain ⟨A1, c1, hv⟩ := row_form hM.head
      subst hv
      clear hM
      go_wp2_with (first | (at_make; refine wpList_make_full _ rfl _ _ 24 rfl wr.heap.size 22 i0 (.int .u64 0) 1 Try.underlying24 hi0 hz0 hz1 .i64 .i64 _ _ n rfl rfl (by omega) (by omega) hb8.out (by simp only [maxLen]; omega) (Nat.le_refl _) ?_; intro w1 hown1 hgrow1; simp only [Value.cells, toList_madeCells_one, Nat.mul_one] at hown1; have hown2 : OwnAt w1 wr.heap.size wr.heap.size n n (List.replicate n 0) := (by unfold OwnAt; simpa using hown1); have hfz := hown2.frozen k; have hltw := hown2.lt; have hcell := hown2.cell (i := k) (x := 0) (by rw [List.getElem?_replicate, if_pos hlt]); have hu1 := hown2.put k 1; have hb1 : Below wr.heap.size wr (w1.setCell ⟨wr.heap.size, k, none⟩ (.int .u64 1)) := ((Below.refl _ wr).grown hgrow1 (Nat.le_refl _) (fun k e => by cases e)).setCell (p := ⟨wr.heap.size, k, none⟩) (Nat.le_refl _) _; obtain ⟨w2, hw2⟩ : ∃ w2, w2 = w1.setCell ⟨wr.heap.size, k, none⟩ (.int .u64 1) := ⟨_, rfl⟩; have hu2 : OwnAt w2 wr.heap.size wr.heap.size n n (unitL n k) := (by rw [hw2]; exact hu1); have hb2 : Below wr.heap.size wr w2 := (by rw [hw2]; exact hb1); have hsw : w2.heap.size = w1.heap.size := (by rw [hw2]; simp); have hb3 := hb2.alloc hb2.size (.cells #[.slice (some ⟨wr.heap.size, 0, none⟩) n n] 24); have hu3H := Lib.hid (hu2.push (.cells #[.slice (some ⟨wr.heap.size, 0, none⟩) n n] 24)); have hh3 := Lib.hid (hMH.out.next hb3).head; have hsz2 := hb2.size; clear hown1 hown2 hu1 hb1 hu2) | (at_builtin; rw [← hw2]; refine wpList_append_own _ rfl _ _ 23 rfl w.heap.size 24 j0 (.slice none 0 0) 1 24 Try.underlying23 hj0 hy0 hy1 hy2 rfl (by decide) _ _ _ rfl hh3.out ⟨w1.heap.size, 0, none⟩ 1 1 [.slice (some ⟨wr.heap.size, 0, none⟩) n n] rfl rfl (by rw [← hsw]; exact cell_one_new _ _ _) (by simp [Value.oneCell']) (by simp only [maxLen]; omega) (by omega) (by simp; omega) ?_; intro v4 w4 hown4 hgrow4 _))
      go_roundw
      case rel => exact ⟨k + 1, _, by omega, by simp, by rw [oneK_next]; exact hMH.out.add hb3 hsz (by rw [unitL_len]; exact hu3H.out) hown4 hgrow4, (hB.trans (hb3.mono hsz)).grown hgrow4 (by simp; omega) (fun x e => (World.ownsRow.lt hh3.out x e).1)⟩
      case measure => simp [intOf]; omega
    · obtain rfl : k = n := by omega
      go_wp2
      go_ret
      exact ⟨_, vs, rfl, by rw [oneL_len]; exact hM, hB⟩

/-- The transpose of a rectangular matrix. -/
def trn (R : List (List Int)) : List (List Int) := (List.range (ncol R)).map fun k => (List.range R.length).map fun i => mx R i k
theorem trn_len (R : List (List Int)) : (trn R).length = ncol R := by unfold trn; simp
theorem trn_ro {R : List (List Int)} {k : Nat} (h : k < ncol R) : ro (trn R) k = (List.range R.length).map fun i => mx R i k := ro_map _ h
def trnP (R : List (List Int)) (n k i : Nat) : List (List Int) := (List.range n).map fun j => if j < k then (List.range R.length).map (fun t => mx R t j) else if j = k then (List.range i).map (fun t => mx R t j) else []
theorem trnP_len (R : List (List Int)) (n k i : Nat) : (trnP R n k i).length = n := by unfold trnP; simp
theorem trnP_ro (R : List (List Int)) {n : Nat} (k i : Nat) {j : Nat} (h : j < n) : ro (trnP R n k i) j = if j < k then (List.range R.length).map (fun t => mx R t j) else if j = k then (List.range i).map (fun t => mx R t j) else [] := ro_map _ h
theorem trnP_here (R : List (List Int)) {n k : Nat} (i : Nat) (h : k < n) : ro (trnP R n k i) k = (List.range i).map (fun t => mx R t k) := by rw [trnP_ro R k i h, if_neg (by omega), if_pos rfl]
theorem trnP_next (R : List (List Int)) {n k : Nat} (i : Nat) (h : k < n) : (trnP R n k i).set k ((List.range i).map (fun t => mx R t k) ++ [mx R i k]) = trnP R n k (i + 1) :=
  rows_ext (by rw [List.length_set, trnP_len, trnP_len]) fun j hj => by
    rw [List.length_set, trnP_len] at hj
    rw [ro_set (by rw [trnP_len]; exact h), trnP_ro R k i hj, trnP_ro R k (i + 1) hj]
    by_cases e : j = k
    · subst e; rw [if_pos rfl, if_neg (by omega), if_pos rfl, map_next]
    · rw [if_neg e]
      by_cases h2 : j < k
      · rw [if_pos h2, if_pos h2]
      · rw [if_neg h2, if_neg h2, if_neg e, if_neg e]
theorem trnP_row (R : List (List Int)) (n k : Nat) : trnP R n k R.length = trnP R n (k + 1) 0 :=
  rows_ext (by rw [trnP_len, trnP_len]) fun j hj => by
    rw [trnP_len] at hj
    rw [trnP_ro R k _ hj, trnP_ro R (k + 1) 0 hj]
    by_cases h1 : j < k
    · rw [if_pos h1, if_pos (by omega)]
    · rw [if_neg h1]
      by_cases h2 : j = k
      · rw [if_pos h2, if_pos (by omega)]
      · rw [if_neg h2, if_neg (by omega)]
        by_cases h3 : j = k + 1
        · rw [if_pos h3]; rfl
        · rw [if_neg h3]
theorem trnP_done (R : List (List Int)) : trnP R (ncol R) (ncol R) 0 = trn R := rows_ext (by rw [trnP_len, trn_len]) fun j hj => by
  rw [trnP_len] at hj
  rw [trnP_ro R _ _ hj, if_pos hj, trn_ro hj]
theorem trnP_zero (R : List (List Int)) (n j : Nat) : ro (trnP R n 0 0) j = [] := by
  by_cases h : j < n
  · rw [trnP_ro R 0 0 h, if_neg (by omega)]
    split <;> rfl
  · unfold ro; rw [List.getElem?_eq_none (by rw [trnP_len]; omega)]; rfl

set_option maxRecDepth 100000 in
set_option maxHeartbeats 2000000 in
theorem rTurn_any (A : Option Addr) (c : Nat) (rows : List (List Int)) (hz : Sized rows) (hr : rect rows = true) (w : World) (h : Sll w A c rows) :
    Calls Try.prog 29 #[.slice A rows.length c] w fun e w' => MFresh w e w' (trn rows) := by
  obtain ⟨i0, hi0, hz0, hz1, hz2⟩ := info_parts info_u64
  obtain ⟨j0, hj0, hy0, hy1, hy2⟩ := info_parts info_sl
  have hN := hz.1
  have hnc : ncol rows ≤ 100 := hz.2 0
  have hrc := rect_iff.1 hr
  have h1 := rRect_b A c rows (by omega) w h
  have hRN : rectN rows = ncol rows := by unfold rectN; rw [hr]; rfl
  rw [hr, hRN] at h1
  have hb24 : Hid (j0.bytes * ncol rows ≤ 281474976710656) := Lib.hid (by rw [hy2]; omega)
  clear hr hRN
  go_enter Try.func29, Try.ntmps29
  go_wp2_with fail
  refine h1.mono ?_; rintro e w1 ⟨rfl, hB1⟩
  have hs1 := h.next hB1
  clear h1 h
  go_wp2_with (at_make; refine wpList_make_full _ rfl _ _ 23 rfl w1.heap.size 24 j0 (.slice none 0 0) 1 Try.underlying23 hj0 hy0 hy1 .i64 .i64 _ _ (ncol rows) rfl rfl (by omega) (by omega) hb24.out (by simp only [maxLen]; omega) (Nat.le_refl _) ?_; intro w3 hown3 hgrow3; simp only [Value.cells, toList_madeCells_one, Nat.mul_one] at hown3; have hM3 : MP w1.heap.size w3 (.slice (some ⟨w1.heap.size, 0, none⟩) (ncol rows) (ncol rows)) (ncol rows) (ncol rows) (List.replicate (ncol rows) (.slice none 0 0)) (trnP rows (ncol rows) 0 0) := MP.nils (by simpa using hown3) (trnP_len rows _ 0 0) (trnP_zero rows _); have hb3 : Below w1.heap.size w1 w3 := (Below.refl _ w1).grown hgrow3 (Nat.le_refl _) (fun k e => by cases e); clear hown3 hgrow3)
  go_loopw [6] (fun i wr => ∃ (k : Nat) (vs : List Value), k ≤ ncol rows ∧ i = .int .i64 k ∧ MP w1.heap.size wr (.slice (some ⟨w1.heap.size, 0, none⟩) (ncol rows) (ncol rows)) (ncol rows) (ncol rows) vs (trnP rows (ncol rows) k 0) ∧ Below w1.heap.size w1 wr) (fun i _ => ncol rows - (intOf i).toNat)
  case atStart => exact ⟨0, _, Nat.zero_le _, rfl, hM3, hb3⟩
  case round =>
    obtain ⟨k, vs, hk, rfl, hM, hBr⟩ := hrel
    by_cases hlt : k < ncol rows
    · have hkn : (k : Int) < ncol rows := by omega
      rename World => W0
      have hMH := Lib.hid hM
      clear hM
      go_wp2_with fail
      go_loopw [7] (fun i wr => ∃ (j : Nat) (us : List Value), j ≤ rows.length ∧ i = .int .i64 j ∧ MP w1.heap.size wr (.slice (some ⟨w1.heap.size, 0, none⟩) (ncol rows) (ncol rows)) (ncol rows) (ncol rows) us (trnP rows (ncol rows) k j) ∧ Below w1.heap.size w1 wr) (fun i _ => rows.length - (intOf i).toNat)
      case atStart => exact ⟨0, vs, Nat.zero_le _, rfl, hMH.out, hBr⟩
      case round =>
        obtain ⟨j, us, hj, rfl, hMj, hBj⟩ := hrel
        have hszj : w1.heap.size ≤ wr.heap.size := hBj.size
        by_cases hltj : j < rows.length
        · obtain ⟨b7, o7, A', c', hA, hb7, hc7, hs7⟩ := hs1.rowAt (i := j) (L := ncol rows) hltj (hrc j hltj)
          subst hA
          have hc7w := (hBj.cell (p := ⟨b7, o7 + j, none⟩) hb7).trans hc7
          obtain ⟨b8, o8, y, hA8, hb8, hy8, hcy8⟩ := hs7.at_ (k := k) (by rw [hrc j hltj]; exact hlt)
          subst hA8
          have hcy := (hBj.cell (p := ⟨b8, o8 + k, none⟩) hb8).trans hcy8
          obtain ⟨u, hu, huo⟩ := hMj.row k hlt
          rw [trnP_here rows j hlt, List.length_map, List.length_range] at huo
          obtain ⟨Au, cu, rfl⟩ := row_form huo
          have hcell := hMj.cell hlt hu
          have hfz := World.ownsRow.frozenAt hMj.head k
          have hgl := World.ownsRow.lt hMj.head _ rfl
          have hNX : Hid ((trnP rows (ncol rows) k j).set k ((List.range j).map (fun t => mx rows t k) ++ [y]) = trnP rows (ncol rows) k (j + 1)) := Lib.hid (by have := trnP_next rows j hlt; rw [mx_ro, co_at hy8] at this; exact this)
          have hMA := Lib.hid (hMj.next ((Below.refl _ wr).alloc (Nat.le_refl _) (.cells #[.int .u64 y] 22)).drew)
          have huA := Lib.hid (own_belowN huo ((Below.refl _ wr).alloc (Nat.le_refl _) (.cells #[.int .u64 y] 22)).drew)
          have hHa : Hid ((wr.alloc (.cells #[.int .u64 y] 22)).drew.heap.size = wr.heap.size + 1) := Lib.hid (by show (wr.alloc _).heap.size = _; rw [World.size_alloc])
          have hfar := Lib.hid (fun x (e : (Value.slice Au j cu).ownBlock = some x) => hMj.far hlt hu e)
          have HU := Lib.hid hu
          have hjn : (j : Int) < rows.length := by omega
          clear hMj hy8 hcy8 huo hu hs7
          go_wp2_with fail
          go_region_law (refine step_append_lies _ (by rfl) _ _ _ (by rfl) w1.heap.size 22 i0 (.int .u64 0) 1 8 Try.underlying24 hi0 hz0 hz1 hz2 rfl (by decide) _ _ _ (by rfl) huA.out ⟨wr.heap.size, 0, none⟩ 1 1 [.int .u64 y] (by rfl) (by rfl) (cell_one_new _ _ _) (by simp [Value.oneCell']) (by decide) (by simp only [maxLen]; omega) (by omega) (by rw [hHa.out]; omega) (wr.heap.size + 1) hHa.out ?_; intro g5 cap5 w5 hown5 hgrow5 hat5 hlt5; have hhd5 : w5.ownsRow w1.heap.size 24 1 (.slice (some ⟨w1.heap.size, 0, none⟩) (ncol rows) (ncol rows)) (ncol rows) us := World.ownsRow.kept hMA.out.head hgrow5 (.inr fun e => hfar.out w1.heap.size e.symm rfl); have hfz5 := World.ownsRow.frozenAt hhd5 k; have hcell5 := (World.ownsRow.cellAt hhd5 k (by omega)).trans HU.out; have hgl5 : w1.heap.size < w5.heap.size := (World.ownsRow.lt hhd5 _ rfl).2; have hown5H := Lib.hid hown5; clear hown5 hhd5)
          all_goals
            go_wp2_with fail
            go_roundw
            case rel => exact ⟨j + 1, us.set k (.slice (some ⟨g5, 0, none⟩) (j + 1) cap5), by omega, by simp, by
              rw [← hNX.out]
              exact hMA.out.lay (w' := w5) (i := k) (k' := ncol rows) (by omega) hlt (by omega) hgrow5 (fun x e => ⟨hlt, _, HU.out, e⟩) (by rw [List.length_append, List.length_map, List.length_range, List.map_append]; exact hown5H.out) (fun x e => by
                have e1 : g5 = x := by simpa [Value.ownBlock] using e
                subst e1
                rcases hat5 with e2 | e2
                · exact .inr e2
                · exact .inl (by rw [hHa.out]; omega)), ((hBj.alloc hszj _).drew.grown hgrow5 (by rw [hHa.out]; omega) (fun x e => (World.ownsRow.lt huA.out x e).1)).setCell (p := ⟨w1.heap.size, k, none⟩) (Nat.le_refl _) _⟩
            case measure => simp [intOf]; omega
        · obtain rfl : j = rows.length := by omega
          rw [trnP_row] at hMj
          have hMJ := Lib.hid hMj
          clear hMj
          go_wp2_with fail
          go_roundw
          case rel => exact ⟨k + 1, us, by omega, by simp, hMJ.out, hBj⟩
          case measure => simp [intOf]; omega
    · obtain rfl : k = ncol rows := by omega
      rw [trnP_done] at hM
      go_wp2_with fail
      go_ret
      exact ⟨_, vs, rfl, by rw [trn_len]; exact hM.wide hB1.size, hB1.trans (hBr.mono hB1.size)⟩
end Go.Proofs.Ytgkhngiiimnchaa
