/- Solve of package matrix: the basic solution, by elimination on a clone with one more column. Nothing that lay is changed. Conditions: a supported prime, words of its field, at most 100 rows and columns. -/
import Derived.Test.YtgkhngiiimnchaaRMulM
namespace Go.Proofs.Ytgkhngiiimnchaa
open Go.RowKit PolyMath FieldMath MatMath

/-- The rows with one word more. -/
def augK (A : List (List Int)) (b : List Int) (k : Nat) : List (List Int) := (List.range A.length).map fun i => if i < k then ro A i ++ [co b i] else ro A i
def augL (A : List (List Int)) (b : List Int) : List (List Int) := augK A b A.length
theorem augK_len (A : List (List Int)) (b : List Int) (k : Nat) : (augK A b k).length = A.length := by unfold augK; simp
theorem augK_ro {A : List (List Int)} (b : List Int) (k : Nat) {i : Nat} (h : i < A.length) : ro (augK A b k) i = if i < k then ro A i ++ [co b i] else ro A i := ro_map _ h
theorem augK_zero (A : List (List Int)) (b : List Int) : augK A b 0 = A := rows_ext (augK_len A b 0) fun i hi => by
  rw [augK_len] at hi
  rw [augK_ro b 0 hi, if_neg (by omega)]
theorem augK_next {A : List (List Int)} {b : List Int} {k : Nat} (hk : k < A.length) : (augK A b k).set k (ro A k ++ [co b k]) = augK A b (k + 1) :=
  rows_ext (by rw [List.length_set, augK_len, augK_len]) fun i hi => by
    rw [List.length_set, augK_len] at hi
    rw [ro_set (by rw [augK_len]; exact hk), augK_ro b _ hi, augK_ro b _ hi]
    by_cases e : i = k
    · subst e; rw [if_pos rfl, if_pos (by omega)]
    · rw [if_neg e]
      by_cases h : i < k
      · rw [if_pos h, if_pos (by omega)]
      · rw [if_neg h, if_neg (by omega)]
theorem augL_mat {p : Int} {N L : Nat} {A : List (List Int)} {b : List Int} (hp : 0 < p) (hA : Mat p N L A) (hb : El p b) : Mat p N (L + 1) (augL A b) := .of (by unfold augL; rw [augK_len]; exact hA.rows) fun i hi => by
  have hi' : i < A.length := by rw [hA.rows]; exact hi
  unfold augL
  rw [augK_ro b _ hi', if_pos hi']
  refine ⟨by rw [List.length_append, (hA.ro hi).1]; rfl, fun x hx => ?_⟩
  rcases List.mem_append.1 hx with h | h
  · exact (hA.ro hi).2 x h
  · rw [List.mem_singleton] at h; subst h; exact hb.co hp i
/-- The solution, pivot by pivot. -/
def solF (S : ES) (n : Nat) : Nat → List Int
  | 0 => List.replicate n 0
  | i + 1 => (solF S n i).set (S.pv.getD i 0) (mx S.R i n)
theorem solF_len (S : ES) (n : Nat) : ∀ i, (solF S n i).length = n
  | 0 => List.length_replicate
  | i + 1 => by show ((solF S n i).set _ _).length = n; rw [List.length_set, solF_len S n i]
/-- What Solve hands back. -/
def slv (p : Int) (A : List (List Int)) (b : List Int) : Option (List Int) :=
  if (fnd (elim p (augL A b) (ncol A)).R (elim p (augL A b) (ncol A)).pv.length (ncol A)).isSome = true then none else some (solF (elim p (augL A b) (ncol A)) (ncol A) (elim p (augL A b) (ncol A)).pv.length)

theorem solve_bad1 (p : Int) (A B : Option Addr) (c cv : Nat) (rows : List (List Int)) (v : List Int) (hz : Sized rows) (hr : rect rows = false) (w : World) (h : Sll w A c rows) :
    Calls Try.prog 25 #[.int .u64 p, .slice A rows.length c, .slice B v.length cv] w fun e w' => e = .returned (.tuple #[.slice none 0 0, .int .i64 1]) ∧ Below w.heap.size w w' := by
  have h1 := rectangular_any A c rows (by have := hz.1; omega) w h
  rw [hr] at h1
  go_enter Try.func25, Try.ntmps25
  go_wp2_with fail
  refine h1.mono ?_; rintro e w1 ⟨rfl, hB⟩
  go_wp2_with fail
  go_ret2
  exact ⟨rfl, hB⟩
theorem solve_bad2 (p : Int) (A B : Option Addr) (c cv : Nat) (rows : List (List Int)) (v : List Int) (hz : Sized rows) (hr : rect rows = true) (hn : rows.length ≠ v.length) (w : World) (h : Sll w A c rows) :
    Calls Try.prog 25 #[.int .u64 p, .slice A rows.length c, .slice B v.length cv] w fun e w' => e = .returned (.tuple #[.slice none 0 0, .int .i64 1]) ∧ Below w.heap.size w w' := by
  have h1 := rectangular_any A c rows (by have := hz.1; omega) w h
  rw [hr] at h1
  have hn' : ((rows.length : Int) != v.length) = true := bne_iff_ne.2 (by omega)
  go_enter Try.func25, Try.ntmps25
  go_wp2_with fail
  refine h1.mono ?_; rintro e w1 ⟨rfl, hB⟩
  go_wp2_with fail
  go_ret2
  exact ⟨rfl, hB⟩

/-- What Solve hands back, in memory. -/
def SolE (p : Int) (A : List (List Int)) (b : List Int) (w : World) (e : Ending) (w' : World) : Prop :=
  (∃ x, slv p A b = some x ∧ RowE w e w' x) ∨ (slv p A b = none ∧ e = .returned (.tuple #[.slice none 0 0, .int .i64 6]) ∧ Below w.heap.size w w')

/-- The numbers in a row of numbers. -/
theorem rowI_cell {w : World} {base q c : Nat} {A : Option Addr} {pv : List Nat} (h : w.ownsRow base 3 1 (.slice A q c) q (pvs pv)) {k : Nat} (hk : k < q) : ∃ g, A = some ⟨g, 0, none⟩ ∧ g < w.heap.size ∧ w.cell? ⟨g, k, none⟩ = some (.int .i64 (pv.getD k 0 : Nat)) := by
  obtain ⟨g, cg, e, _, hlt⟩ := World.ownsRow.form h (by omega)
  injection e with e1 e2 e3
  subst e1 e3
  refine ⟨g, rfl, hlt, (World.ownsRow.cellAt h k (by omega)).trans ?_⟩
  have hl : pv.length = q := by have := h.1; rw [pvs_len] at this; omega
  unfold pvs
  rw [List.getElem?_map, List.getD_eq_getElem?_getD, List.getElem?_eq_getElem (by omega)]; rfl

set_option maxRecDepth 100000 in
set_option maxHeartbeats 4000000 in
theorem solve_any (p : Int) (hp : OkP p) (A B : Option Addr) (c cv : Nat) (rows : List (List Int)) (b : List Int) (hz : Sized rows) (hE : ∀ r ∈ rows, El p r) (hbE : El p b) (hr : rect rows = true) (hn : rows.length = b.length) (w : World) (h : Sll w A c rows) (sb : Sl w B cv b) :
    Calls Try.prog 25 #[.int .u64 p, .slice A rows.length c, .slice B b.length cv] w fun e w' => SolE p rows b w e w' := by
  obtain ⟨i0, hi0, hz0, hz1, hz2⟩ := info_parts info_u64
  have hbd := hp.bd
  have hN := hz.1
  have h1 := rectangular_any A c rows (by omega) w h
  have hmat := mat_of hr hE
  rw [hr] at h1
  have hnc : ncol rows ≤ 100 := hz.2 0
  have hn' : ((rows.length : Int) != b.length) = false := by rw [hn]; simp
  have hcp := fun h : 0 < ncol rows => ncol_pos h
  have hmat2 := augL_mat (p := p) (by omega) hmat hbE
  have hELF := elim_ok hp.good hmat2 (ncol rows)
  have hb8 : Hid (i0.bytes * ncol rows ≤ 281474976710656) := Lib.hid (by rw [hz2]; omega)
  have HS : Hid (slv p rows b = if (fnd (elim p (augL rows b) (ncol rows)).R (elim p (augL rows b) (ncol rows)).pv.length (ncol rows)).isSome = true then none else some (solF (elim p (augL rows b) (ncol rows)) (ncol rows) (elim p (augL rows b) (ncol rows)).pv.length)) := Lib.hid rfl
  have HN := Lib.hid hn
  clear hr hn
  go_enter Try.func25, Try.ntmps25
  go_wp2_with fail
  refine h1.mono ?_; rintro e w1 ⟨rfl, hB1⟩
  have hs1 := h.next hB1
  have sb1 := sb.next hB1
  have h2 := columns_any A c rows w1 hs1
  clear h1 h sb
  go_wp2_with fail
  refine h2.mono ?_; rintro e w' ⟨rfl, rfl⟩
  clear h2
  have hs2 := hs1.push (.cells #[.int .i64 (ncol rows : Int)] 3)
  have sb2 := sb1.push (.cells #[.int .i64 (ncol rows : Int)] 3)
  have hBox := Boxed.new w1 3 (.int .i64 (ncol rows : Int))
  have hB2 := hB1.alloc hB1.size (.cells #[.int .i64 (ncol rows : Int)] 3)
  have h3 := cloneRows_any A c rows _ hs2 (by omega) (fun i => by have := hz.2 i; omega)
  have hlt2 : w1.heap.size < (w1.alloc (.cells #[.int .i64 (ncol rows : Int)] 3)).heap.size := by simp
  go_wp2_with fail
  refine h3.mono ?_; rintro e w3 ⟨v, vs, rfl, hM, hB3⟩
  clear h3 hs1 sb1
  generalize hw2 : w1.alloc (.cells #[.int .i64 (ncol rows : Int)] 3) = w2 at *
  clear hw2
  have hbx3 := (hB3.cell (p := ⟨w1.heap.size, 0, none⟩) hlt2).trans hBox.cell
  have sb3 := sb2.next hB3
  have hNb : rows.length ≤ 1000 := by omega
  generalize hS : elim p (augL rows b) (ncol rows) = S at *
  have HSE := Lib.hid hS
  clear hS
  rcases hM.head.2 with ⟨rfl, h0⟩ | ⟨g, cap, cur, rfl, hr5⟩
  · have hR0 : rows = [] := List.eq_nil_of_length_eq_zero h0
    have hb0 : b = [] := List.eq_nil_of_length_eq_zero (by rw [← HN.out]; exact h0)
    subst hR0 hb0
    have hnc0 : ncol ([] : List (List Int)) = 0 := rfl
    have hSL : Hid (slv p [] [] = some []) := Lib.hid rfl
    have hBend : Below w.heap.size w w3 := hB2.trans (hB3.mono hB2.size)
    have hcon := contains_solve (.pointer (some ⟨w1.heap.size, 0, none⟩)) (fun r => co r 0 != 0) none 0 0 [] rfl (by omega) w3 (Sll.nothing _) (fun i A' c' hi hs => absurd hi (Nat.not_lt_zero _))
    have hb80 : Hid (i0.bytes * 0 ≤ 281474976710656) := Lib.hid (by omega)
    rw [hnc0] at hbx3
    rw [hnc0]
    clear hELF hmat hmat2 HS hb8 hBox h0 hN hE hbE hz hcp hnc hn' hlt2 HSE hM sb3 hs2 sb2 HN hNb S
    go_wp2_with fail
    go_loopw [33] (fun i wr => i = .int .i64 0 ∧ wr = w3) (fun i _ => (intOf i).toNat)
    case atStart => exact ⟨rfl, rfl⟩
    case round =>
      obtain ⟨rfl, rfl⟩ := hrel
      go_wp2_with (first | (at_make; refine wpList_make_full _ rfl _ _ 24 rfl wr.heap.size 22 i0 (.int .u64 0) 1 Try.underlying24 hi0 hz0 hz1 .i64 .i64 _ _ 0 rfl rfl (by omega) (by omega) hb80.out (by simp only [maxLen]; omega) (Nat.le_refl _) ?_; intro w5 hown5 hgrow5; have hB5 : Below wr.heap.size wr w5 := (Below.refl _ wr).grown hgrow5 (Nat.le_refl _) (fun k e => by cases e); clear hown5 hgrow5) | (go_at_call 43; refine hcon.mono ?_; rintro e w' ⟨rfl, rfl⟩) | (go_at_call 38; refine (elim_none p none 0 0 wr).mono ?_; rintro e w' ⟨rfl, rfl⟩))
      go_loopw [66] (fun i wr => i = .int .i64 0 ∧ wr = w5) (fun i _ => (intOf i).toNat)
      case atStart => exact ⟨rfl, rfl⟩
      case round =>
        obtain ⟨rfl, rfl⟩ := hrel
        go_wp2
        go_ret2
        exact .inl ⟨_, hSL.out, _, _, rfl, Sl.blank _ _ _, hBend.trans (hB5.mono hBend.size)⟩
  · have hcapN : rows.length ≤ cap := by have h5 := hM.sll.cap; exact h5
    clear hr5
    go_wp2_with fail
    go_loopw [33] (fun i wr => ∃ (k : Nat) (us : List Value), k ≤ b.length ∧ i = .int .i64 k ∧ MP w2.heap.size wr (.slice (some ⟨g, 0, none⟩) rows.length cap) rows.length rows.length us (augK rows b k) ∧ Below w2.heap.size w2 wr) (fun i _ => b.length - (intOf i).toNat)
    case atStart => exact ⟨0, vs, Nat.zero_le _, rfl, by rw [augK_zero]; exact hM, hB3⟩
    case round =>
      obtain ⟨k, us, hk, rfl, hMk, hBk⟩ := hrel
      by_cases hlt : k < b.length
      · obtain ⟨bb, ob, y, hBB, hbb, hy, hcy⟩ := (sb2.next hBk).at_ hlt
        subst hBB
        have hkr : k < rows.length := by rw [HN.out]; exact hlt
        obtain ⟨u, hu, huo⟩ := hMk.row k hkr
        rw [augK_ro b k hkr, if_neg (by omega), (hmat.ro hkr).1] at huo
        obtain ⟨Au, cu, rfl⟩ := row_form huo
        have hcell := hMk.cell hkr hu
        have hNX : Hid ((augK rows b k).set k (ro rows k ++ [y]) = augK rows b (k + 1)) := Lib.hid (by rw [← co_at hy]; exact augK_next hkr)
        have hMA := hMk.next ((Below.refl _ wr).alloc (Nat.le_refl _) (.cells #[.int .u64 y] 22))
        have huA := huo.alloc (.cells #[.int .u64 y] 22)
        have hszk : w2.heap.size ≤ wr.heap.size := hBk.size
        have hkb : (k : Int) < b.length := by omega
        have hkr' : (k : Int) < rows.length := by omega
        have hfar := fun x (e : (Value.slice Au (ncol rows) cu).ownBlock = some x) => hMk.far hkr hu e
        have hlenr := Lib.hid (hmat.ro hkr).1
        have hgl := World.ownsRow.lt hMk.head g rfl
        have hMAH := Lib.hid hMA
        have hHa : Hid ((wr.alloc (.cells #[.int .u64 y] 22)).heap.size = wr.heap.size + 1) := Lib.hid (by simp)
        have HU := Lib.hid hu
        clear hMk hMA hy huo hu
        go_wp2_with (at_builtin; refine wpList_append_lies _ rfl _ _ 24 rfl w2.heap.size 22 i0 (.int .u64 0) 1 8 Try.underlying24 hi0 hz0 hz1 hz2 rfl (by decide) _ _ _ rfl huA ⟨wr.heap.size, 0, none⟩ 1 1 [.int .u64 y] rfl rfl (cell_one_new _ _ _) (by simp [Value.oneCell']) (by decide) (by simp only [maxLen]; omega) (by omega) (by simp; omega) (wr.heap.size + 1) hHa.out ?_; intro g5 cap5 w5 hown5 hgrow5 hat5 hlt5; have hhd5 : w5.ownsRow w2.heap.size 24 1 (.slice (some ⟨g, 0, none⟩) rows.length cap) rows.length us := World.ownsRow.kept hMAH.out.head hgrow5 (.inr fun e => hfar g e.symm rfl); have hfz5 := World.ownsRow.frozenAt hhd5 k; have hcell5 := (World.ownsRow.cellAt hhd5 k (by omega)).trans HU.out; have hgl5 : g < w5.heap.size := (World.ownsRow.lt hhd5 g rfl).2; have hown5H := Lib.hid hown5; clear hown5 hhd5)
        go_roundw
        case rel => exact ⟨k + 1, us.set k (.slice (some ⟨g5, 0, none⟩) (ncol rows + 1) cap5), by omega, by simp, by
          rw [← hNX.out]
          exact hMAH.out.lay (w' := w5) (i := k) (k' := rows.length) (by omega) hkr (by omega) hgrow5 (fun x e => ⟨hkr, _, HU.out, e⟩) (by rw [List.length_append, hlenr.out, List.map_append]; exact hown5H.out) (fun x e => by
            have e1 : g5 = x := by simpa [Value.ownBlock] using e
            subst e1
            rcases hat5 with e2 | e2
            · exact .inr e2
            · exact .inl (by rw [hHa.out]; omega)), ((hBk.alloc hszk _).grown hgrow5 (by rw [hHa.out]; omega) (fun x e => (World.ownsRow.lt huA x e).1)).setCell (p := ⟨g, k, none⟩) hgl.1 _⟩
        case measure => simp [intOf]; omega
      · obtain rfl : k = b.length := by omega
        have hEl := elimV_any p hp w2.heap.size rows.length (ncol rows + 1) (ncol rows) (.slice (some ⟨g, 0, none⟩) rows.length cap) us (augL rows b) (by omega) (by omega) (by omega) hcp hmat2 wr hBk.size (by unfold augL; rw [HN.out]; rw [HN.out] at hMk; exact hMk)
        rw [HSE.out] at hEl
        have hbxk := (hBk.cell (p := ⟨w1.heap.size, 0, none⟩) hlt2).trans hBox.cell
        have hBk2 := Lib.hid hBk
        clear hMk
        go_wp2_with fail
        refine hEl.mono ?_
        rintro e w4 ⟨pvv, vs4, rfl, hM4, hP4, hB4⟩
        obtain ⟨A9, c9, rfl⟩ := row_form hP4
        have hBx4 : Boxed w4 w1.heap.size 3 (.int .i64 (ncol rows : Int)) := ((hBk2.out.trans hB4).block w1.heap.size hlt2).trans hBox
        have hbx4 := hBx4.cell
        have hlt4 : w1.heap.size < w4.heap.size := Nat.lt_of_lt_of_le hlt2 (Nat.le_trans hBk2.out.size hB4.size)
        have hsll := hM4.sll
        have hBend : Below w.heap.size w w4 := (hB2.trans ((hBk2.out.mono hB2.size).trans (hB4.mono hB2.size)))
        have hql : S.pv.length ≤ rows.length := hELF.ech.len
        have hRl : (S.R.drop S.pv.length).length = rows.length - S.pv.length := by rw [List.length_drop, hELF.mat.rows]
        have hfNN : ∀ k, rows.length ≤ S.pv.length → fnd S.R S.pv.length k = none := fun k hge => fnd_none.2 fun i h1 h2 => by rw [hELF.mat.rows] at h2; omega
        clear hEl hM4 hbxk hbx3 hM
        generalize hq : S.pv.length = q at *
        have HQ := Lib.hid hq
        clear hq
        have hqlI : (q : Int) ≤ rows.length := by omega
        have hNcI : (rows.length : Int) ≤ cap := by omega
        by_cases hqN : q < rows.length
        · have hcq : ¬ cap = q := by omega
          have hsl := hsll.drop rfl (q := q) (by rw [hELF.mat.rows]; exact hql)
          rw [Nat.zero_add] at hsl
          have hcon := contains_solve (.pointer (some ⟨w1.heap.size, 0, none⟩)) (fun r => co r (ncol rows) != 0) (some ⟨g, q, none⟩) (cap - q) (rows.length - q) (S.R.drop q) hRl (by omega) w4 hsl (fun i A' c' hi hs => by
            have hro : ro (S.R.drop q) i = ro S.R (q + i) := by unfold ro; rw [List.getElem?_drop]
            have hl2 : (ro (S.R.drop q) i).length = ncol rows + 1 := by rw [hro]; exact (hELF.mat.ro (by rw [hRl] at hi; omega)).1
            exact solve1_any A' c' _ _ rfl (ncol rows) w1.heap.size _ hBx4 hs (by rw [hl2]; omega))
          rw [show ((S.R.drop q).findIdx? fun r => co r (ncol rows) != 0) = fnd S.R q (ncol rows) from rfl] at hcon
          clear hsl hRl hfNN
          cases hfn : fnd S.R q (ncol rows) with
          | some bq =>
            rw [hfn] at hcon
            have HR : Hid (slv p rows b = none) := Lib.hid (by rw [HS.out, hfn]; rfl)
            clear HS
            go_wp2_with (go_at_call 43; refine hcon.mono ?_; rintro e w' ⟨rfl, rfl⟩)
            go_ret2
            exact .inr ⟨HR.out, rfl, hBend⟩
          | none =>
            rw [hfn] at hcon
            have HR : Hid (slv p rows b = some (solF S (ncol rows) q)) := Lib.hid (by rw [HS.out, hfn]; rfl)
            clear HS
            go_wp2_with (first | (at_make; refine wpList_make_full _ rfl _ _ 24 rfl w4.heap.size 22 i0 (.int .u64 0) 1 Try.underlying24 hi0 hz0 hz1 .i64 .i64 _ _ (ncol rows) rfl rfl (by omega) (by omega) hb8.out (by simp only [maxLen]; omega) (Nat.le_refl _) ?_; intro w5 hown5 hgrow5; simp only [Value.cells, toList_madeCells_one, Nat.mul_one] at hown5; have hO5 : OwnAt w5 w4.heap.size w4.heap.size (ncol rows) (ncol rows) (solF S (ncol rows) 0) := (by unfold OwnAt; simpa [solF] using hown5); have hB5 : Below w4.heap.size w4 w5 := (Below.refl _ w4).grown hgrow5 (Nat.le_refl _) (fun k e => by cases e); clear hown5 hgrow5) | (go_at_call 43; refine hcon.mono ?_; rintro e w' ⟨rfl, rfl⟩))
            go_loopw [66] (fun i wr => ∃ k : Nat, k ≤ q ∧ i = .int .i64 k ∧ OwnAt wr w4.heap.size w4.heap.size (ncol rows) (ncol rows) (solF S (ncol rows) k) ∧ Below w4.heap.size w4 wr) (fun i _ => q - (intOf i).toNat)
            case atStart => exact ⟨0, Nat.zero_le _, rfl, hO5, hB5⟩
            case round =>
              obtain ⟨k, hk, rfl, hOk, hBk⟩ := hrel
              by_cases hlt : k < q
              · obtain ⟨gp, hAp, hgp, hcp⟩ := rowI_cell hP4 hlt
                subst hAp
                have hcp2 := (hBk.cell (p := ⟨gp, k, none⟩) hgp).trans hcp
                have hkr : k < rows.length := by omega
                obtain ⟨L2, hL2⟩ : ∃ L2, L2 = ncol rows + 1 := ⟨_, rfl⟩
                obtain ⟨br, or_, A7, c7, hA7, hbr, hcr, hsr⟩ := hsll.rowAt (i := k) (L := L2) (by rw [hELF.mat.rows]; exact hkr) (by rw [hL2]; exact (hELF.mat.ro hkr).1)
                injection hA7 with hA7
                injection hA7 with e1 e2
                subst e1 e2
                rw [Nat.zero_add] at hcr
                have hcr2 := (hBk.cell (p := ⟨g, k, none⟩) hbr).trans hcr
                obtain ⟨b7, o7, y, hA8, hb7, hy7, hcy7⟩ := hsr.at_ (k := ncol rows) (by rw [(hELF.mat.ro hkr).1]; omega)
                subst hA8
                have hcy := (hBk.cell (p := ⟨b7, o7 + ncol rows, none⟩) hb7).trans hcy7
                have hbxk := (hBk.cell (p := ⟨w1.heap.size, 0, none⟩) hlt4).trans hbx4
                have hpvlt : S.pv.getD k 0 < ncol rows := hELF.ech.lt k (by rw [HQ.out]; exact hlt)
                have hNX : Hid ((solF S (ncol rows) k).set (S.pv.getD k 0) y = solF S (ncol rows) (k + 1)) := Lib.hid (by show _ = (solF S (ncol rows) k).set _ (mx S.R k (ncol rows)); rw [mx_ro, co_at hy7])
                have hfz := hOk.frozen (S.pv.getD k 0)
                obtain ⟨z, hz9⟩ : ∃ z, (solF S (ncol rows) k)[S.pv.getD k 0]? = some z := ⟨_, List.getElem?_eq_getElem (by rw [solF_len]; exact hpvlt)⟩
                have hcz := hOk.cell hz9
                have hST := Lib.hid (hOk.drew.put (S.pv.getD k 0) y)
                have hBS := Lib.hid (hBk.drew.setCell (p := ⟨w4.heap.size, S.pv.getD k 0, none⟩) (Nat.le_refl _) (.int .u64 y))
                rw [hNX.out] at hST
                have hpvI : ((S.pv.getD k 0 : Nat) : Int) < ncol rows := by omega
                have hkI : (k : Int) < q := by omega
                have hkrI : (k : Int) < rows.length := by omega
                have hncI : (ncol rows : Int) < L2 := by omega
                generalize S.pv.getD k 0 = P at *
                clear hOk hz9 hy7 hcy7 hNX hsr hL2
                go_wp2
                refine wp_region_still_tail 10 (by kernel_rfl) (by kernel_rfl) ?_
                simp only [List.take_succ_cons, List.take_zero, List.drop_succ_cons, List.drop_zero]
                change wpStill _ _ (World.drew _) (fun a' => wpList _ _ _ _ a' (World.drew _)) _ _
                repeat still_step
                refine wpStill_nil ?_
                go_wp2
                go_roundw
                case rel => exact ⟨k + 1, by omega, by simp, hST.out, hBS.out⟩
                case measure => simp [intOf]; omega
              · obtain rfl : k = q := by omega
                go_wp2
                go_ret2
                exact .inl ⟨_, HR.out, _, _, by rw [solF_len]; rfl, hOk.sl, hBend.trans (hBk.mono hBend.size)⟩
        · obtain rfl : q = rows.length := by omega
          have hfn := hfNN (ncol rows) (Nat.le_refl _)
          have hcon := fun (ad : Addr) (c' : Nat) => contains_solve (.pointer (some ⟨w1.heap.size, 0, none⟩)) (fun r => co r (ncol rows) != 0) (some ad) c' 0 [] rfl (by omega) w4 ⟨Nat.zero_le _, (fun h => by cases h), fun _ _ h => absurd rfl h⟩ (fun i A' c' hi hs => absurd hi (Nat.not_lt_zero _))
          clear hRl hfNN
          by_cases hcq : cap = rows.length
          · subst hcq
            have HR : Hid (slv p rows b = some (solF S (ncol rows) rows.length)) := Lib.hid (by rw [HS.out, hfn]; rfl)
            clear HS
            go_wp2_with (first | (at_make; refine wpList_make_full _ rfl _ _ 24 rfl w4.heap.size 22 i0 (.int .u64 0) 1 Try.underlying24 hi0 hz0 hz1 .i64 .i64 _ _ (ncol rows) rfl rfl (by omega) (by omega) hb8.out (by simp only [maxLen]; omega) (Nat.le_refl _) ?_; intro w5 hown5 hgrow5; simp only [Value.cells, toList_madeCells_one, Nat.mul_one] at hown5; have hO5 : OwnAt w5 w4.heap.size w4.heap.size (ncol rows) (ncol rows) (solF S (ncol rows) 0) := (by unfold OwnAt; simpa [solF] using hown5); have hB5 : Below w4.heap.size w4 w5 := (Below.refl _ w4).grown hgrow5 (Nat.le_refl _) (fun k e => by cases e); clear hown5 hgrow5) | (go_at_call 43; refine (hcon _ _).mono ?_; rintro e w' ⟨rfl, rfl⟩))
            go_loopw [66] (fun i wr => ∃ k : Nat, k ≤ rows.length ∧ i = .int .i64 k ∧ OwnAt wr w4.heap.size w4.heap.size (ncol rows) (ncol rows) (solF S (ncol rows) k) ∧ Below w4.heap.size w4 wr) (fun i _ => rows.length - (intOf i).toNat)
            case atStart => exact ⟨0, Nat.zero_le _, rfl, hO5, hB5⟩
            case round =>
              obtain ⟨k, hk, rfl, hOk, hBk⟩ := hrel
              by_cases hlt : k < rows.length
              · obtain ⟨gp, hAp, hgp, hcp⟩ := rowI_cell hP4 hlt
                subst hAp
                have hcp2 := (hBk.cell (p := ⟨gp, k, none⟩) hgp).trans hcp
                have hkr : k < rows.length := by omega
                obtain ⟨L2, hL2⟩ : ∃ L2, L2 = ncol rows + 1 := ⟨_, rfl⟩
                obtain ⟨br, or_, A7, c7, hA7, hbr, hcr, hsr⟩ := hsll.rowAt (i := k) (L := L2) (by rw [hELF.mat.rows]; exact hkr) (by rw [hL2]; exact (hELF.mat.ro hkr).1)
                injection hA7 with hA7
                injection hA7 with e1 e2
                subst e1 e2
                rw [Nat.zero_add] at hcr
                have hcr2 := (hBk.cell (p := ⟨g, k, none⟩) hbr).trans hcr
                obtain ⟨b7, o7, y, hA8, hb7, hy7, hcy7⟩ := hsr.at_ (k := ncol rows) (by rw [(hELF.mat.ro hkr).1]; omega)
                subst hA8
                have hcy := (hBk.cell (p := ⟨b7, o7 + ncol rows, none⟩) hb7).trans hcy7
                have hbxk := (hBk.cell (p := ⟨w1.heap.size, 0, none⟩) hlt4).trans hbx4
                have hpvlt : S.pv.getD k 0 < ncol rows := hELF.ech.lt k (by rw [HQ.out]; exact hlt)
                have hNX : Hid ((solF S (ncol rows) k).set (S.pv.getD k 0) y = solF S (ncol rows) (k + 1)) := Lib.hid (by show _ = (solF S (ncol rows) k).set _ (mx S.R k (ncol rows)); rw [mx_ro, co_at hy7])
                have hfz := hOk.frozen (S.pv.getD k 0)
                obtain ⟨z, hz9⟩ : ∃ z, (solF S (ncol rows) k)[S.pv.getD k 0]? = some z := ⟨_, List.getElem?_eq_getElem (by rw [solF_len]; exact hpvlt)⟩
                have hcz := hOk.cell hz9
                have hST := Lib.hid (hOk.drew.put (S.pv.getD k 0) y)
                have hBS := Lib.hid (hBk.drew.setCell (p := ⟨w4.heap.size, S.pv.getD k 0, none⟩) (Nat.le_refl _) (.int .u64 y))
                rw [hNX.out] at hST
                have hpvI : ((S.pv.getD k 0 : Nat) : Int) < ncol rows := by omega
                have hkI : (k : Int) < rows.length := by omega
                have hkrI : (k : Int) < rows.length := by omega
                have hncI : (ncol rows : Int) < L2 := by omega
                generalize S.pv.getD k 0 = P at *
                clear hOk hz9 hy7 hcy7 hNX hsr hL2
                go_wp2
                refine wp_region_still_tail 10 (by kernel_rfl) (by kernel_rfl) ?_
                simp only [List.take_succ_cons, List.take_zero, List.drop_succ_cons, List.drop_zero]
                change wpStill _ _ (World.drew _) (fun a' => wpList _ _ _ _ a' (World.drew _)) _ _
                repeat still_step
                refine wpStill_nil ?_
                go_wp2
                go_roundw
                case rel => exact ⟨k + 1, by omega, by simp, hST.out, hBS.out⟩
                case measure => simp [intOf]; omega
              · obtain rfl : k = rows.length := by omega
                go_wp2
                go_ret2
                exact .inl ⟨_, HR.out, _, _, by rw [solF_len]; rfl, hOk.sl, hBend.trans (hBk.mono hBend.size)⟩
          · skip
            have HR : Hid (slv p rows b = some (solF S (ncol rows) rows.length)) := Lib.hid (by rw [HS.out, hfn]; rfl)
            clear HS
            go_wp2_with (first | (at_make; refine wpList_make_full _ rfl _ _ 24 rfl w4.heap.size 22 i0 (.int .u64 0) 1 Try.underlying24 hi0 hz0 hz1 .i64 .i64 _ _ (ncol rows) rfl rfl (by omega) (by omega) hb8.out (by simp only [maxLen]; omega) (Nat.le_refl _) ?_; intro w5 hown5 hgrow5; simp only [Value.cells, toList_madeCells_one, Nat.mul_one] at hown5; have hO5 : OwnAt w5 w4.heap.size w4.heap.size (ncol rows) (ncol rows) (solF S (ncol rows) 0) := (by unfold OwnAt; simpa [solF] using hown5); have hB5 : Below w4.heap.size w4 w5 := (Below.refl _ w4).grown hgrow5 (Nat.le_refl _) (fun k e => by cases e); clear hown5 hgrow5) | (go_at_call 43; refine (hcon _ _).mono ?_; rintro e w' ⟨rfl, rfl⟩))
            go_loopw [66] (fun i wr => ∃ k : Nat, k ≤ rows.length ∧ i = .int .i64 k ∧ OwnAt wr w4.heap.size w4.heap.size (ncol rows) (ncol rows) (solF S (ncol rows) k) ∧ Below w4.heap.size w4 wr) (fun i _ => rows.length - (intOf i).toNat)
            case atStart => exact ⟨0, Nat.zero_le _, rfl, hO5, hB5⟩
            case round =>
              obtain ⟨k, hk, rfl, hOk, hBk⟩ := hrel
              by_cases hlt : k < rows.length
              · obtain ⟨gp, hAp, hgp, hcp⟩ := rowI_cell hP4 hlt
                subst hAp
                have hcp2 := (hBk.cell (p := ⟨gp, k, none⟩) hgp).trans hcp
                have hkr : k < rows.length := by omega
                obtain ⟨L2, hL2⟩ : ∃ L2, L2 = ncol rows + 1 := ⟨_, rfl⟩
                obtain ⟨br, or_, A7, c7, hA7, hbr, hcr, hsr⟩ := hsll.rowAt (i := k) (L := L2) (by rw [hELF.mat.rows]; exact hkr) (by rw [hL2]; exact (hELF.mat.ro hkr).1)
                injection hA7 with hA7
                injection hA7 with e1 e2
                subst e1 e2
                rw [Nat.zero_add] at hcr
                have hcr2 := (hBk.cell (p := ⟨g, k, none⟩) hbr).trans hcr
                obtain ⟨b7, o7, y, hA8, hb7, hy7, hcy7⟩ := hsr.at_ (k := ncol rows) (by rw [(hELF.mat.ro hkr).1]; omega)
                subst hA8
                have hcy := (hBk.cell (p := ⟨b7, o7 + ncol rows, none⟩) hb7).trans hcy7
                have hbxk := (hBk.cell (p := ⟨w1.heap.size, 0, none⟩) hlt4).trans hbx4
                have hpvlt : S.pv.getD k 0 < ncol rows := hELF.ech.lt k (by rw [HQ.out]; exact hlt)
                have hNX : Hid ((solF S (ncol rows) k).set (S.pv.getD k 0) y = solF S (ncol rows) (k + 1)) := Lib.hid (by show _ = (solF S (ncol rows) k).set _ (mx S.R k (ncol rows)); rw [mx_ro, co_at hy7])
                have hfz := hOk.frozen (S.pv.getD k 0)
                obtain ⟨z, hz9⟩ : ∃ z, (solF S (ncol rows) k)[S.pv.getD k 0]? = some z := ⟨_, List.getElem?_eq_getElem (by rw [solF_len]; exact hpvlt)⟩
                have hcz := hOk.cell hz9
                have hST := Lib.hid (hOk.drew.put (S.pv.getD k 0) y)
                have hBS := Lib.hid (hBk.drew.setCell (p := ⟨w4.heap.size, S.pv.getD k 0, none⟩) (Nat.le_refl _) (.int .u64 y))
                rw [hNX.out] at hST
                have hpvI : ((S.pv.getD k 0 : Nat) : Int) < ncol rows := by omega
                have hkI : (k : Int) < rows.length := by omega
                have hkrI : (k : Int) < rows.length := by omega
                have hncI : (ncol rows : Int) < L2 := by omega
                generalize S.pv.getD k 0 = P at *
                clear hOk hz9 hy7 hcy7 hNX hsr hL2
                go_wp2
                refine wp_region_still_tail 10 (by kernel_rfl) (by kernel_rfl) ?_
                simp only [List.take_succ_cons, List.take_zero, List.drop_succ_cons, List.drop_zero]
                change wpStill _ _ (World.drew _) (fun a' => wpList _ _ _ _ a' (World.drew _)) _ _
                repeat still_step
                refine wpStill_nil ?_
                go_wp2
                go_roundw
                case rel => exact ⟨k + 1, by omega, by simp, hST.out, hBS.out⟩
                case measure => simp [intOf]; omega
              · obtain rfl : k = rows.length := by omega
                go_wp2
                go_ret2
                exact .inl ⟨_, HR.out, _, _, by rw [solF_len]; rfl, hOk.sl, hBend.trans (hBk.mono hBend.size)⟩
end Go.Proofs.Ytgkhngiiimnchaa
