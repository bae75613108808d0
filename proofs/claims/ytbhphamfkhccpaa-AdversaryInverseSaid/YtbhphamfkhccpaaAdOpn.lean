/- Arguments of layer 13's laws: a case (a scenario, a round, messages to each and to all), lists of lists of messages; they read behind the call as before where only new memory was made. No conditions. -/
import Derived.Test.YtbhphamfkhccpaaFOpn
import Derived.Test.YtbhphamfkhccpaaAdMay
import Derived.Deep.Slices
namespace Go.Proofs.Ytbhphamfkhccpaa
set_option maxRecDepth 100000
open Go.ChangeShapes Go.WideShapes Go.ChangeAt Go.RowKit Go.Joins Go.Deep Go.WideElems PolyMath PartyMath

theorem cells_mms : Try.prog.cellsOf 30 = 1 := by kernel_rfl
theorem cells_ask : Try.prog.cellsOf 32 = 9 := by kernel_rfl
section
variable {H : Type} {enc : TypeId × Value → H}
theorem open_ll13 {t : TypeId} (ht : Try.prog.underlying t = some (.slice 42)) {W : World} {v : Value} {fuel : Nat} {y : DataW H × List MemPlace} (hf : DataW.trod enc Try.prog W 0 (fun _ => true) true fuel t [v] = some y) (hlt : ∀ x ∈ y.2, x.block < W.heap.size) :
    ∃ A rows c, v = .slice A rows.length c ∧ Sll W A c rows ∧ (∀ r ∈ rows, Words r ∧ r.length ≤ 9223372036854775807) ∧ rows.length ≤ 9223372036854775807 := by
  rcases Deep.open_int_rows ht Try.underlying42 Try.underlying22 cells_row cells_u64 hf with ⟨hcs, hx⟩ | ⟨a, len', cap', A, L, C, Z, hcs, _, hl, hm, hx, hall⟩
  · injection hcs with hcs _
    subst hcs
    exact ⟨none, [], 0, rfl, Sll.nothing W, (fun l hl => by cases hl), Nat.zero_le _⟩
  · injection hcs with hcs _
    subst hcs hx
    have hlen : ∀ r, r < len' → ((Z r).take (L r)).length = L r := fun r hr => by
      obtain ⟨_, h1, _, h3, _⟩ := hall r (by omega)
      rw [List.length_take]
      omega
    refine ⟨some a, (List.range len').map fun r => (Z r).take (L r), cap', by rw [List.length_map, List.length_range], ⟨by rw [List.length_map, List.length_range]; omega, (fun h => by cases h), fun ad e hn => ?_⟩, fun l hl => ⟨fun x hx => ?_, ?_⟩, by rw [List.length_map, List.length_range]; simp only [maxLen] at hm; omega⟩
    · injection e with e
      subst e
      have hpos : 0 < len' := by
        rcases Nat.eq_zero_or_pos len' with h0 | h0
        · rw [h0] at hn; exact absurd rfl hn
        · exact h0
      obtain ⟨b, off, spot⟩ := a
      have hspot : spot = none := by simpa [Addr.add] using World.cell?_spot (hall 0 (by omega)).1
      subst hspot
      refine ⟨b, off, rfl, hlt (.cell b off) (List.mem_append_left _ (MemPlace.mem_row.2 ⟨0, by omega, by simp⟩)), fun j l hl => ?_⟩
      rw [List.getElem?_map] at hl
      obtain ⟨r, hr, rfl⟩ := Option.map_eq_some_iff.1 hl
      obtain ⟨hjl, rfl⟩ := List.getElem?_eq_some_iff.1 hr
      rw [List.length_range] at hjl
      simp only [List.getElem_range]
      obtain ⟨h1, h2, h3, h4, h5, h6, h7⟩ := hall j (by omega)
      refine ⟨A j, C j, by rw [hlen j hjl, ← add_plain]; exact h1, by rw [hlen j hjl]; omega, h6, fun ar hA hne => ?_⟩
      have hLp : 0 < L j := by
        rcases Nat.eq_zero_or_pos (L j) with h0 | h0
        · rw [h0, List.take_zero] at hne; exact absurd rfl hne
        · exact h0
      obtain ⟨_, hc⟩ := h7 ar hA
      obtain ⟨b2, off2, spot2⟩ := ar
      have hspot2 : spot2 = none := by simpa [Addr.add] using World.cell?_spot (hc 0 (by omega))
      subst hspot2
      refine ⟨b2, off2, rfl, ?_, fun i x hx => ?_⟩
      · refine hlt (.cell b2 off2) (List.mem_append_right _ (List.mem_flatMap.2 ⟨j, List.mem_range.2 (by omega), ?_⟩))
        simp only [Deep.intRowPlaces, hA]
        exact MemPlace.mem_row.2 ⟨0, by omega, by simp⟩
      · have hi : i < L j := by have := (List.getElem?_eq_some_iff.1 hx).1; rw [hlen j hjl] at this; exact this
        rw [← add_plain, hc i (by omega)]
        rw [List.getElem?_take, if_pos hi] at hx
        rw [List.getD_eq_getElem?_getD, hx]; rfl
    · obtain ⟨r, hr, rfl⟩ := List.mem_map.1 hl
      rw [List.mem_range] at hr
      obtain ⟨_, _, _, _, h5, _⟩ := hall r (by omega)
      have h1 := h5 x (List.mem_of_mem_take hx)
      have e1 : IntKind.u64.min = 0 := rfl
      have e2 : IntKind.u64.max = 18446744073709551615 := rfl
      simp only [Lit.wf, Bool.and_eq_true, decide_eq_true_eq] at h1
      omega
    · obtain ⟨r, hr, rfl⟩ := List.mem_map.1 hl
      rw [List.mem_range] at hr
      obtain ⟨_, h2, h3, _⟩ := hall r (by omega)
      rw [List.length_take]
      simp only [maxLen] at h3
      omega
theorem dv_open13 {W : World} {base : Nat} {spare : Nat → Bool} {held : Bool} {fuel : Nat} {cs : List Value} {x : DataW H × List MemPlace} (h : DataW.trod enc Try.prog W base spare held fuel 41 cs = some x) : ∃ d : Dv, cs = dcs d ∧ Wd d.k := by
  obtain ⟨xs, n, _, _, hlen, hxl, hf⟩ := DataW.trod_struct Try.underlying41 h
  rw [cells_dev] at hlen
  match cs, hlen, xs, hxl with
  | [c0, c1, c2, c3, c4, c5, c6, c7], _, [y0, y1, y2, y3, y4, y5, y6, y7], _ =>
    have g0 := hf 0 _ rfl
    change DataW.trod enc Try.prog W base spare held n 3 (List.take (Try.prog.cellsOf 3) (List.drop 0 [c0, c1, c2, c3, c4, c5, c6, c7])) = some y0 at g0
    rw [cells_int] at g0
    simp only [List.drop_zero, List.take_succ_cons, List.take_zero] at g0
    have g1 := hf 1 _ rfl
    change DataW.trod enc Try.prog W base spare held n 3 (List.take (Try.prog.cellsOf 3) (List.drop 1 [c0, c1, c2, c3, c4, c5, c6, c7])) = some y1 at g1
    rw [cells_int] at g1
    simp only [List.drop_succ_cons, List.drop_zero, List.take_succ_cons, List.take_zero] at g1
    have g2 := hf 2 _ rfl
    change DataW.trod enc Try.prog W base spare held n 3 (List.take (Try.prog.cellsOf 3) (List.drop 2 [c0, c1, c2, c3, c4, c5, c6, c7])) = some y2 at g2
    rw [cells_int] at g2
    simp only [List.drop_succ_cons, List.drop_zero, List.take_succ_cons, List.take_zero] at g2
    have g3 := hf 3 _ rfl
    change DataW.trod enc Try.prog W base spare held n 3 (List.take (Try.prog.cellsOf 3) (List.drop 3 [c0, c1, c2, c3, c4, c5, c6, c7])) = some y3 at g3
    rw [cells_int] at g3
    simp only [List.drop_succ_cons, List.drop_zero, List.take_succ_cons, List.take_zero] at g3
    have g4 := hf 4 _ rfl
    change DataW.trod enc Try.prog W base spare held n 3 (List.take (Try.prog.cellsOf 3) (List.drop 4 [c0, c1, c2, c3, c4, c5, c6, c7])) = some y4 at g4
    rw [cells_int] at g4
    simp only [List.drop_succ_cons, List.drop_zero, List.take_succ_cons, List.take_zero] at g4
    have g5 := hf 5 _ rfl
    change DataW.trod enc Try.prog W base spare held n 22 (List.take (Try.prog.cellsOf 22) (List.drop 5 [c0, c1, c2, c3, c4, c5, c6, c7])) = some y5 at g5
    rw [cells_u64] at g5
    simp only [List.drop_succ_cons, List.drop_zero, List.take_succ_cons, List.take_zero] at g5
    have g6 := hf 6 _ rfl
    change DataW.trod enc Try.prog W base spare held n 3 (List.take (Try.prog.cellsOf 3) (List.drop 6 [c0, c1, c2, c3, c4, c5, c6, c7])) = some y6 at g6
    rw [cells_int] at g6
    simp only [List.drop_succ_cons, List.drop_zero, List.take_succ_cons, List.take_zero] at g6
    have g7 := hf 7 _ rfl
    change DataW.trod enc Try.prog W base spare held n 3 (List.take (Try.prog.cellsOf 3) (List.drop 7 [c0, c1, c2, c3, c4, c5, c6, c7])) = some y7 at g7
    rw [cells_int] at g7
    simp only [List.drop_succ_cons, List.drop_zero, List.take_succ_cons, List.take_zero] at g7
    obtain ⟨a0, e0, _, _⟩ := DataW.trod_int Try.underlying3 g0
    simp at e0
    obtain ⟨a1, e1, _, _⟩ := DataW.trod_int Try.underlying3 g1
    simp at e1
    obtain ⟨a2, e2, _, _⟩ := DataW.trod_int Try.underlying3 g2
    simp at e2
    obtain ⟨a3, e3, _, _⟩ := DataW.trod_int Try.underlying3 g3
    simp at e3
    obtain ⟨a4, e4, _, _⟩ := DataW.trod_int Try.underlying3 g4
    simp at e4
    obtain ⟨a5, e5, _, w5⟩ := DataW.trod_int Try.underlying22 g5
    simp at e5
    obtain ⟨a6, e6, _, _⟩ := DataW.trod_int Try.underlying3 g6
    simp at e6
    obtain ⟨a7, e7, _, _⟩ := DataW.trod_int Try.underlying3 g7
    simp at e7
    subst e0 e1 e2 e3 e4 e5 e6 e7
    exact ⟨⟨a0, a1, a2, a3, a4, a5, a6, a7⟩, rfl, bounds_w w5⟩
theorem open_sd13 {W : World} {v : Value} {fuel : Nat} {y : DataW H × List MemPlace} (hf : DataW.trod enc Try.prog W 0 (fun _ => true) true fuel 26 [v] = some y) (hlt : ∀ x ∈ y.2, x.block < W.heap.size) :
    ∃ A ds c, v = .slice A ds.length c ∧ Sd W A c ds ∧ (∀ d ∈ ds, Wd d.k) ∧ ds.length ≤ 9223372036854775807 := by
  rcases Deep.open_slice Try.underlying26 hf with ⟨hcs, hx⟩ | ⟨a, len, cap, m, n, D, Pl, hcs, _, hl, hm, hmm, hx, hi⟩
  · injection hcs with hcs _
    subst hcs
    exact ⟨none, [], 0, rfl, Sd.nothing _, (fun d hd => by cases hd), Nat.zero_le _⟩
  · injection hcs with hcs _
    subst hcs hx
    simp only [if_true] at hmm
    subst hmm
    rw [cells_dev] at hi hlt
    have each : ∀ i, ∃ d : Dv, Wd d.k ∧ (i < len → ∀ j v, (dcs d)[j]? = some v → W.cell? (a.add (i * 8 + j)) = some v) := by
      intro i
      by_cases hil : i < len
      · obtain ⟨cs', hc, ht⟩ := hi i (by omega)
        obtain ⟨d, hd, hk⟩ := dv_open13 ht
        obtain ⟨_, hcl, hat⟩ := World.cells?_some hc
        refine ⟨d, hk, fun _ j v hv => ?_⟩
        have hj : j < 8 := by have := (List.getElem?_eq_some_iff.1 hv).1; exact this
        rw [← Go.Deep.add_add, hat j hj, hd]
        exact hv
      · exact ⟨⟨0, 0, 0, 0, 0, 0, 0, 0⟩, ⟨Int.le_refl 0, (by show (0 : Int) ≤ 18446744073709551615; omega)⟩, fun h => absurd h hil⟩
    obtain ⟨q, hq⟩ := Classical.axiomOfChoice each
    have hlen : ((List.range len).map q).length = len := by simp
    refine ⟨some a, (List.range len).map q, m, by rw [hlen], ⟨by omega, (fun h => by cases h), fun ad hA hn => ?_⟩, fun d hd => ?_, by rw [hlen]; simp only [maxLen] at hm; omega⟩
    rotate_left
    · obtain ⟨k, _, rfl⟩ := List.mem_map.1 hd
      exact (hq k).1
    injection hA with hA
    subst hA
    have hpos : 0 < len := by rw [← hlen]; exact List.length_pos_iff.2 hn
    obtain ⟨b, off, spot⟩ := a
    have hspot : spot = none := by simpa [Addr.add] using World.cell?_spot ((hq 0).2 hpos 0 _ rfl)
    subst hspot
    refine ⟨b, off, rfl, hlt (.cell b off) (List.mem_append_left _ (MemPlace.mem_row.2 ⟨0, by omega, by simp⟩)), fun j d hd i v hv => ?_⟩
    rw [List.getElem?_map] at hd
    obtain ⟨k, hk, rfl⟩ := Option.map_eq_some_iff.1 hd
    obtain ⟨hj, e⟩ := List.getElem?_eq_some_iff.1 hk
    rw [List.getElem_range] at e
    subst e
    rw [List.length_range] at hj
    have h1 := (hq j).2 hj i v hv
    rw [add_plain] at h1
    rw [Nat.add_assoc]
    exact h1
theorem open_sm {W : World} {v : Value} {fuel : Nat} {y : DataW H × List MemPlace} (hf : DataW.trod enc Try.prog W 0 (fun _ => true) true fuel 30 [v] = some y) (hlt : ∀ x ∈ y.2, x.block < W.heap.size) :
    ∃ A M c, v = .slice A M.length c ∧ Sm W A c M ∧ (∀ R ∈ M, R.length ≤ 9223372036854775807 ∧ ∀ r ∈ R, Words r) ∧ M.length ≤ 9223372036854775807 := by
  rcases Deep.open_slice1 Try.underlying30 cells_rows hf with ⟨hcs, hx⟩ | ⟨a, len, cap, m, n, V, D, Pl, hcs, _, hl, hm, hmm, hx, hi⟩
  · injection hcs with hcs _
    subst hcs
    exact ⟨none, [], 0, rfl, ⟨Nat.le_refl _, (fun _ => rfl), (fun _ _ h => absurd rfl h)⟩, (fun R hR => by cases hR), Nat.zero_le _⟩
  · injection hcs with hcs _
    subst hcs hx
    simp only [if_true] at hmm
    subst hmm
    have each : ∀ i, ∃ q : Option Addr × Nat × List (List Int), i < len → V i = .slice q.1 q.2.2.length q.2.1 ∧ Sll W q.1 q.2.1 q.2.2 ∧ q.2.2.length ≤ 9223372036854775807 ∧ ∀ r ∈ q.2.2, Words r := by
      intro i
      by_cases hil : i < len
      · obtain ⟨h1, h2⟩ := hi i (by omega)
        obtain ⟨A, rows, c, e1, e2, e3, e4⟩ := open_ll13 Try.underlying27 h2 (fun x hx => hlt x (List.mem_append_right _ (List.mem_flatMap.2 ⟨i, List.mem_range.2 (by omega), hx⟩)))
        exact ⟨(A, c, rows), fun _ => ⟨e1, e2, e4, fun r hr => (e3 r hr).1⟩⟩
      · exact ⟨(none, 0, []), fun h => absurd h hil⟩
    obtain ⟨q, hq⟩ := Classical.axiomOfChoice each
    have hlen : ((List.range len).map fun i => (q i).2.2).length = len := by simp
    refine ⟨some a, (List.range len).map fun i => (q i).2.2, m, by rw [hlen], ⟨by omega, (fun h => by cases h), fun ad hA hn => ?_⟩, fun R hR => ?_, by rw [hlen]; simp only [maxLen] at hm; omega⟩
    · injection hA with hA
      subst hA
      have hpos : 0 < len := by rw [← hlen]; exact List.length_pos_iff.2 hn
      obtain ⟨b, off, spot⟩ := a
      have hspot : spot = none := by simpa [Addr.add] using World.cell?_spot (hi 0 (by omega)).1
      subst hspot
      refine ⟨b, off, rfl, hlt (.cell b off) (List.mem_append_left _ (MemPlace.mem_row.2 ⟨0, by omega, by simp⟩)), fun j R hR => ?_⟩
      rw [List.getElem?_map] at hR
      obtain ⟨k, hk, rfl⟩ := Option.map_eq_some_iff.1 hR
      obtain ⟨hj, e⟩ := List.getElem?_eq_some_iff.1 hk
      rw [List.getElem_range] at e
      subst e
      rw [List.length_range] at hj
      obtain ⟨h1, h2, _⟩ := hq j hj
      refine ⟨(q j).1, (q j).2.1, ?_, h2⟩
      rw [← h1, ← add_plain]
      exact (hi j (by omega)).1
    · obtain ⟨k, hk, rfl⟩ := List.mem_map.1 hR
      have h := hq k (List.mem_range.1 hk)
      exact ⟨h.2.2.1, h.2.2.2⟩
theorem arg_mm {W : World} {base : Nat} {v : Value} {d : DataW H} {p : List MemPlace} (hval : Value.okWide Try.prog W .any base 30 v) (h : DataW.Trod enc Try.prog W 0 (fun _ => true) true 30 v d p) (hlt : ∀ x ∈ p, x.block < W.heap.size) :
    ∃ A M c, v = .slice A M.length c ∧ Sm W A c M ∧ (∀ R ∈ M, R.length ≤ 9223372036854775807 ∧ ∀ r ∈ R, Words r) ∧ M.length ≤ 9223372036854775807 := by
  obtain ⟨a0, len, cap, rfl⟩ := okWide_slice Try.underlying30 hval
  obtain ⟨fuel, hf⟩ := h
  simp only [Value.cells] at hf
  exact open_sm hf hlt
theorem arg_ask13 {W : World} {base : Nat} {v : Value} {d : DataW H} {p : List MemPlace} (hval : Value.okWide Try.prog W .any base 32 v) (h : DataW.Trod enc Try.prog W 0 (fun _ => true) true 32 v d p) (hlt : ∀ x ∈ p, x.block < W.heap.size) :
    ∃ (P N T : Int) (Ac Ad At : Option Addr) (cc cd ct : Nat) (co : List Int) (ds : List Dv) (ts : List (List Int)) (r : Int) (Am : Option Addr) (cm : Nat) (M : List (List (List Int))) (Aa : Option Addr) (ca : Nat) (all : List (List Int)),
      v = .agg #[.int .u64 P, .int .i64 N, .int .i64 T, .slice Ac co.length cc, .slice Ad ds.length cd, .slice At ts.length ct, .int .i64 r, .slice Am M.length cm, .slice Aa all.length ca] ∧ Wd P ∧ Wi r ∧ FitA N T co ds ts M all ∧ (∀ d ∈ ds, Wd d.k) ∧ ((∀ R ∈ M, ∀ l ∈ R, Words l) ∧ ∀ l ∈ all, Words l) ∧ LieA W Ac Ad At cc cd ct co ds ts Am cm M Aa ca all := by
  obtain ⟨cs, rfl, hsz⟩ := okWide_struct Try.underlying32 hval
  rw [cells_ask] at hsz
  obtain ⟨l⟩ := cs
  match l, hsz with
  | [c0, c1, c2, c3, c4, c5, c6, c7, c8], _ =>
    obtain ⟨fuel, hf⟩ := h
    obtain ⟨xs, n, _, hx, _, hxl, hg⟩ := DataW.trod_struct Try.underlying32 hf
    match xs, hxl with
    | [y0, y1, y2, y3], _ =>
      simp only [Prod.mk.injEq] at hx
      obtain ⟨_, rfl⟩ := hx
      have g0 := hg 0 _ rfl
      change DataW.trod enc Try.prog W 0 (fun _ => true) true n 29 (List.take (Try.prog.cellsOf 29) (List.drop 0 [c0, c1, c2, c3, c4, c5, c6, c7, c8])) = some y0 at g0
      rw [cells_scn] at g0
      simp only [List.drop_zero, List.take_succ_cons, List.take_zero] at g0
      have g1 := hg 1 _ rfl
      change DataW.trod enc Try.prog W 0 (fun _ => true) true n 3 (List.take (Try.prog.cellsOf 3) (List.drop 6 [c0, c1, c2, c3, c4, c5, c6, c7, c8])) = some y1 at g1
      rw [cells_int] at g1
      simp only [List.drop_succ_cons, List.drop_zero, List.take_succ_cons, List.take_zero] at g1
      have g2 := hg 2 _ rfl
      change DataW.trod enc Try.prog W 0 (fun _ => true) true n 30 (List.take (Try.prog.cellsOf 30) (List.drop 7 [c0, c1, c2, c3, c4, c5, c6, c7, c8])) = some y2 at g2
      rw [cells_mms] at g2
      simp only [List.drop_succ_cons, List.drop_zero, List.take_succ_cons, List.take_zero] at g2
      have g3 := hg 3 _ rfl
      change DataW.trod enc Try.prog W 0 (fun _ => true) true n 27 (List.take (Try.prog.cellsOf 27) (List.drop 8 [c0, c1, c2, c3, c4, c5, c6, c7, c8])) = some y3 at g3
      rw [cells_rows] at g3
      simp only [List.drop_succ_cons, List.drop_zero, List.take_succ_cons, List.take_zero] at g3
      obtain ⟨qs, j, _, hxa, _, hal, hj⟩ := DataW.trod_struct Try.underlying29 g0
      match qs, hal with
      | [x0, x1, x2, x3], _ =>
        have s0 := hj 0 _ rfl
        change DataW.trod enc Try.prog W 0 (fun _ => true) true j 24 (List.take (Try.prog.cellsOf 24) (List.drop 0 [c0, c1, c2, c3, c4, c5])) = some x0 at s0
        rw [cells_params] at s0
        simp only [List.drop_zero, List.take_succ_cons, List.take_zero] at s0
        have s1 := hj 1 _ rfl
        change DataW.trod enc Try.prog W 0 (fun _ => true) true j 25 (List.take (Try.prog.cellsOf 25) (List.drop 3 [c0, c1, c2, c3, c4, c5])) = some x1 at s1
        rw [cells_ints] at s1
        simp only [List.drop_succ_cons, List.drop_zero, List.take_succ_cons, List.take_zero] at s1
        have s2 := hj 2 _ rfl
        change DataW.trod enc Try.prog W 0 (fun _ => true) true j 26 (List.take (Try.prog.cellsOf 26) (List.drop 4 [c0, c1, c2, c3, c4, c5])) = some x2 at s2
        rw [cells_devs] at s2
        simp only [List.drop_succ_cons, List.drop_zero, List.take_succ_cons, List.take_zero] at s2
        have s3 := hj 3 _ rfl
        change DataW.trod enc Try.prog W 0 (fun _ => true) true j 27 (List.take (Try.prog.cellsOf 27) (List.drop 5 [c0, c1, c2, c3, c4, c5])) = some x3 at s3
        rw [cells_rows] at s3
        simp only [List.drop_succ_cons, List.drop_zero, List.take_succ_cons, List.take_zero] at s3
        obtain ⟨zs, k, _, _, _, hzl, hk⟩ := DataW.trod_struct Try.underlying24 s0
        match zs, hzl with
        | [z0, z1, z2], _ =>
          have k0 := hk 0 _ rfl
          change DataW.trod enc Try.prog W 0 (fun _ => true) true k 22 (List.take (Try.prog.cellsOf 22) (List.drop 0 [c0, c1, c2])) = some z0 at k0
          rw [cells_u64] at k0
          simp only [List.drop_zero, List.take_succ_cons, List.take_zero] at k0
          have k1 := hk 1 _ rfl
          change DataW.trod enc Try.prog W 0 (fun _ => true) true k 3 (List.take (Try.prog.cellsOf 3) (List.drop 1 [c0, c1, c2])) = some z1 at k1
          rw [cells_int] at k1
          simp only [List.drop_succ_cons, List.drop_zero, List.take_succ_cons, List.take_zero] at k1
          have k2 := hk 2 _ rfl
          change DataW.trod enc Try.prog W 0 (fun _ => true) true k 3 (List.take (Try.prog.cellsOf 3) (List.drop 2 [c0, c1, c2])) = some z2 at k2
          rw [cells_int] at k2
          simp only [List.drop_succ_cons, List.drop_zero, List.take_succ_cons, List.take_zero] at k2
          obtain ⟨a0, e0, _, w0⟩ := DataW.trod_int Try.underlying22 k0
          obtain ⟨a1, e1, _, w1⟩ := DataW.trod_int Try.underlying3 k1
          obtain ⟨a2, e2, _, w2⟩ := DataW.trod_int Try.underlying3 k2
          obtain ⟨a6, e6, _, w6⟩ := DataW.trod_int Try.underlying3 g1
          simp at e0 e1 e2 e6
          subst e0 e1 e2 e6
          have hp0 : ∀ x ∈ y0.2, x.block < W.heap.size := fun x hx => hlt x (by simp [hx])
          rw [hxa] at hp0
          obtain ⟨Ac, co, cc, rfl, hsc, hnc⟩ := open_si s1 (fun x hx => hp0 x (by simp [hx]))
          obtain ⟨Ad, ds, cd, rfl, hsd, hkd, hld⟩ := open_sd13 s2 (fun x hx => hp0 x (by simp [hx]))
          obtain ⟨At, ts, ct, rfl, hst, hwt, hlt2⟩ := open_ll13 Try.underlying27 s3 (fun x hx => hp0 x (by simp [hx]))
          obtain ⟨Am, M, cm, rfl, hsm, hwm, hlm⟩ := open_sm g2 (fun x hx => hlt x (by simp [hx]))
          obtain ⟨Aa, all, ca, rfl, hsa, hwa, hla⟩ := open_ll13 Try.underlying27 g3 (fun x hx => hlt x (by simp [hx]))
          exact ⟨a0, a1, a2, Ac, Ad, At, cc, cd, ct, co, ds, ts, a6, Am, cm, M, Aa, ca, all, rfl, bounds_w w0, bounds_i w6, ⟨⟨bounds_i w1, bounds_i w2, hnc, hld, hlt2, fun r hr => (hwt r hr).2⟩, hlm, fun R hR => (hwm R hR).1, hla⟩, hkd, ⟨fun R hR => (hwm R hR).2, fun l hl => (hwa l hl).1⟩, ⟨⟨hsc, hsd, hst⟩, hsm, hsa⟩⟩
theorem stay_ask13 {W W' : World} {v : Value} {d : DataW H} {p : List MemPlace} (h : DataW.Trod enc Try.prog W 0 (fun _ => true) true 32 v d p) (hb : Below W.heap.size W W') (hlt : ∀ x ∈ p, x.block < W.heap.size) (sp : Nat → Bool) (hsp : ∀ x ∈ p, sp x.block = true) :
    DataW.Trod enc Try.prog W' 0 sp true 32 v d p :=
  WideElems.Trod_stays laidOut (by kernel_rfl) (of_decide_eq_true (by kernel_rfl)) h (fun x hx => hb.same (hlt x hx)) hsp
theorem stay_mm {W W' : World} {v : Value} {d : DataW H} {p : List MemPlace} (h : DataW.Trod enc Try.prog W 0 (fun _ => true) true 30 v d p) (hb : Below W.heap.size W W') (hlt : ∀ x ∈ p, x.block < W.heap.size) (sp : Nat → Bool) (hsp : ∀ x ∈ p, sp x.block = true) :
    DataW.Trod enc Try.prog W' 0 sp true 30 v d p :=
  WideElems.Trod_stays laidOut (by kernel_rfl) (of_decide_eq_true (by kernel_rfl)) h (fun x hx => hb.same (hlt x hx)) hsp
end
end Go.Proofs.Ytbhphamfkhccpaa
