/- Texts joined: RSolve, RInv, RRefA, RRefB, RAwake, ROpen, RMath. Each says its own conditions. -/
import Derived.Test.YtelkmbhhaopafaaMD
import Derived.Deep.RegionLaw
import Derived.Test.YtelkmbhhaopafaaMB
import Derived.Test.YtelkmbhhaopafaaMC
import Derived.ChangeSlices
import Derived.Carry
import Derived.Deep.Matrix
/- Solve of package matrix: the basic solution, by elimination on a clone with one more column. Nothing that lay is changed. Conditions: a supported prime, words of its field, at most 100 rows and columns. -/
namespace Go.Proofs.Ytelkmbhhaopafaa
set_option maxRecDepth 100000
open Go.RowKit PolyMath FieldMath MatMath

/-- The rows with one word more. -/
def augK (A : List (List Int)) (b : List Int) (k : Nat) : List (List Int) := (List.range A.length).map fun i => if i < k then ro A i ++ [co b i] else ro A i
def augL (A : List (List Int)) (b : List Int) : List (List Int) := augK A b A.length
theorem augK_len (A : List (List Int)) (b : List Int) (k : Nat) : (augK A b k).length = A.length := by unfold augK; simp
theorem augK_ro {A : List (List Int)} (b : List Int) (k : Nat) {i : Nat} (h : i < A.length) : ro (augK A b k) i = if i < k then ro A i ++ [co b i] else ro A i := ro_map _ h
theorem augK_zero (A : List (List Int)) (b : List Int) : augK A b 0 = A := rows_ext (augK_len A b 0) fun i hi => by
  rw [augK_len] at hi
  rw [augK_ro b 0 hi, if_neg (by omega)]
theorem augK_next {A : List (List Int)} {b : List Int} {k : Nat} (hk : k < A.length) : (augK A b k).set k (ro A k ++ [co b k]) = augK A b (k + 1) :=
  rows_ext (by rw [List.length_set, augK_len, augK_len]) fun i hi => by
    rw [List.length_set, augK_len] at hi
    rw [ro_set (by rw [augK_len]; exact hk), augK_ro b _ hi, augK_ro b _ hi]
    by_cases e : i = k
    · subst e; rw [if_pos rfl, if_pos (by omega)]
    · rw [if_neg e]
      by_cases h : i < k
      · rw [if_pos h, if_pos (by omega)]
      · rw [if_neg h, if_neg (by omega)]
theorem augL_mat {p : Int} {N L : Nat} {A : List (List Int)} {b : List Int} (hp : 0 < p) (hA : Mat p N L A) (hb : El p b) : Mat p N (L + 1) (augL A b) := .of (by unfold augL; rw [augK_len]; exact hA.rows) fun i hi => by
  have hi' : i < A.length := by rw [hA.rows]; exact hi
  unfold augL
  rw [augK_ro b _ hi', if_pos hi']
  refine ⟨by rw [List.length_append, (hA.ro hi).1]; rfl, fun x hx => ?_⟩
  rcases List.mem_append.1 hx with h | h
  · exact (hA.ro hi).2 x h
  · rw [List.mem_singleton] at h; subst h; exact hb.co hp i
/-- The solution, pivot by pivot. -/
def solF (S : ES) (n : Nat) : Nat → List Int
  | 0 => List.replicate n 0
  | i + 1 => (solF S n i).set (S.pv.getD i 0) (mx S.R i n)
theorem solF_len (S : ES) (n : Nat) : ∀ i, (solF S n i).length = n
  | 0 => List.length_replicate
  | i + 1 => by show ((solF S n i).set _ _).length = n; rw [List.length_set, solF_len S n i]
/-- What Solve hands back. -/
def slv (p : Int) (A : List (List Int)) (b : List Int) : Option (List Int) :=
  if (fnd (elim p (augL A b) (ncol A)).R (elim p (augL A b) (ncol A)).pv.length (ncol A)).isSome = true then none else some (solF (elim p (augL A b) (ncol A)) (ncol A) (elim p (augL A b) (ncol A)).pv.length)

theorem solve_bad1 (p : Int) (A B : Option Addr) (c cv : Nat) (rows : List (List Int)) (v : List Int) (hz : Sized rows) (hr : rect rows = false) (w : World) (h : Sll w A c rows) :
    Calls Try.prog 43 #[.int .u64 p, .slice A rows.length c, .slice B v.length cv] w fun e w' => e = .returned (.tuple #[.slice none 0 0, .int .i64 1]) ∧ Below w.heap.size w w' := by
  have h1 := rectangular_any A c rows (by have := hz.1; omega) w h
  rw [hr] at h1
  go_enter Try.func43, Try.ntmps43
  go_wp2_with fail
  refine h1.mono ?_; rintro e w1 ⟨rfl, hB⟩
  go_wp2_with fail
  go_ret2
  exact ⟨rfl, hB⟩
theorem solve_bad2 (p : Int) (A B : Option Addr) (c cv : Nat) (rows : List (List Int)) (v : List Int) (hz : Sized rows) (hr : rect rows = true) (hn : rows.length ≠ v.length) (w : World) (h : Sll w A c rows) :
    Calls Try.prog 43 #[.int .u64 p, .slice A rows.length c, .slice B v.length cv] w fun e w' => e = .returned (.tuple #[.slice none 0 0, .int .i64 1]) ∧ Below w.heap.size w w' := by
  have h1 := rectangular_any A c rows (by have := hz.1; omega) w h
  rw [hr] at h1
  have hn' : ((rows.length : Int) != v.length) = true := bne_iff_ne.2 (by omega)
  go_enter Try.func43, Try.ntmps43
  go_wp2_with fail
  refine h1.mono ?_; rintro e w1 ⟨rfl, hB⟩
  go_wp2_with fail
  go_ret2
  exact ⟨rfl, hB⟩

/-- What Solve hands back, in memory. -/
def SolE (p : Int) (A : List (List Int)) (b : List Int) (w : World) (e : Ending) (w' : World) : Prop :=
  (∃ x, slv p A b = some x ∧ RowE w e w' x) ∨ (slv p A b = none ∧ e = .returned (.tuple #[.slice none 0 0, .int .i64 6]) ∧ Below w.heap.size w w')

/-- The numbers in a row of numbers. -/
theorem rowI_cell {w : World} {base q c : Nat} {A : Option Addr} {pv : List Nat} (h : w.ownsRow base 3 1 (.slice A q c) q (pvs pv)) {k : Nat} (hk : k < q) : ∃ g, A = some ⟨g, 0, none⟩ ∧ g < w.heap.size ∧ w.cell? ⟨g, k, none⟩ = some (.int .i64 (pv.getD k 0 : Nat)) := by
  obtain ⟨g, cg, e, _, hlt⟩ := World.ownsRow.form h (by omega)
  injection e with e1 e2 e3
  subst e1 e3
  refine ⟨g, rfl, hlt, (World.ownsRow.cellAt h k (by omega)).trans ?_⟩
  have hl : pv.length = q := by have := h.1; rw [pvs_len] at this; omega
  unfold pvs
  rw [List.getElem?_map, List.getD_eq_getElem?_getD, List.getElem?_eq_getElem (by omega)]; rfl

set_option maxRecDepth 100000 in
set_option maxHeartbeats 4000000 in
theorem solve_any (p : Int) (hp : OkP p) (A B : Option Addr) (c cv : Nat) (rows : List (List Int)) (b : List Int) (hz : Sized rows) (hE : ∀ r ∈ rows, El p r) (hbE : El p b) (hr : rect rows = true) (hn : rows.length = b.length) (w : World) (h : Sll w A c rows) (sb : Sl w B cv b) :
    Calls Try.prog 43 #[.int .u64 p, .slice A rows.length c, .slice B b.length cv] w fun e w' => SolE p rows b w e w' := by
  obtain ⟨i0, hi0, hz0, hz1, hz2⟩ := info_parts info_u64
  have hbd := hp.bd
  have hN := hz.1
  have h1 := rectangular_any A c rows (by omega) w h
  have hmat := mat_of hr hE
  rw [hr] at h1
  have hnc : ncol rows ≤ 100 := hz.2 0
  have hn' : ((rows.length : Int) != b.length) = false := by rw [hn]; simp
  have hcp := fun h : 0 < ncol rows => ncol_pos h
  have hmat2 := augL_mat (p := p) (by omega) hmat hbE
  have hELF := elim_ok hp.good hmat2 (ncol rows)
  have hb8 : Hid (i0.bytes * ncol rows ≤ 281474976710656) := Lib.hid (by rw [hz2]; omega)
  have HS : Hid (slv p rows b = if (fnd (elim p (augL rows b) (ncol rows)).R (elim p (augL rows b) (ncol rows)).pv.length (ncol rows)).isSome = true then none else some (solF (elim p (augL rows b) (ncol rows)) (ncol rows) (elim p (augL rows b) (ncol rows)).pv.length)) := Lib.hid rfl
  have HN := Lib.hid hn
  clear hr hn
  go_enter Try.func43, Try.ntmps43
  go_wp2_with fail
  refine h1.mono ?_; rintro e w1 ⟨rfl, hB1⟩
  have hs1 := h.next hB1
  have sb1 := sb.next hB1
  have h2 := columns_any A c rows w1 hs1
  clear h1 h sb
  go_wp2_with fail
  refine h2.mono ?_; rintro e w' ⟨rfl, rfl⟩
  clear h2
  have hs2 := hs1.push (.cells #[.int .i64 (ncol rows : Int)] 3)
  have sb2 := sb1.push (.cells #[.int .i64 (ncol rows : Int)] 3)
  have hBox := Boxed.new w1 3 (.int .i64 (ncol rows : Int))
  have hB2 := hB1.alloc hB1.size (.cells #[.int .i64 (ncol rows : Int)] 3)
  have h3 := cloneRows_any A c rows _ hs2 (by omega) (fun i => by have := hz.2 i; omega)
  have hlt2 : w1.heap.size < (w1.alloc (.cells #[.int .i64 (ncol rows : Int)] 3)).heap.size := by simp
  go_wp2_with fail
  refine h3.mono ?_; rintro e w3 ⟨v, vs, rfl, hM, hB3⟩
  clear h3 hs1 sb1
  generalize hw2 : w1.alloc (.cells #[.int .i64 (ncol rows : Int)] 3) = w2 at *
  clear hw2
  have hbx3 := (hB3.cell (p := ⟨w1.heap.size, 0, none⟩) hlt2).trans hBox.cell
  have sb3 := sb2.next hB3
  have hNb : rows.length ≤ 1000 := by omega
  generalize hS : elim p (augL rows b) (ncol rows) = S at *
  have HSE := Lib.hid hS
  clear hS
  rcases hM.head.2 with ⟨rfl, h0⟩ | ⟨g, cap, cur, rfl, hr5⟩
  · have hR0 : rows = [] := List.eq_nil_of_length_eq_zero h0
    have hb0 : b = [] := List.eq_nil_of_length_eq_zero (by rw [← HN.out]; exact h0)
    subst hR0 hb0
    have hnc0 : ncol ([] : List (List Int)) = 0 := rfl
    have hSL : Hid (slv p [] [] = some []) := Lib.hid rfl
    have hBend : Below w.heap.size w w3 := hB2.trans (hB3.mono hB2.size)
    have hcon := contains_solve (.pointer (some ⟨w1.heap.size, 0, none⟩)) (fun r => co r 0 != 0) none 0 0 [] rfl (by omega) w3 (Sll.nothing _) (fun i A' c' hi hs => absurd hi (Nat.not_lt_zero _))
    have hb80 : Hid (i0.bytes * 0 ≤ 281474976710656) := Lib.hid (by omega)
    rw [hnc0] at hbx3
    rw [hnc0]
    clear hELF hmat hmat2 HS hb8 hBox h0 hN hE hbE hz hcp hnc hn' hlt2 HSE hM sb3 hs2 sb2 HN hNb S
    go_wp2_with fail
    go_loopw [33] (fun i wr => i = .int .i64 0 ∧ wr = w3) (fun i _ => (intOf i).toNat)
    case atStart => exact ⟨rfl, rfl⟩
    case round =>
      obtain ⟨rfl, rfl⟩ := hrel
      go_wp2_with (first | (at_make; refine wpList_make_full _ rfl _ _ 28 rfl wr.heap.size 22 i0 (.int .u64 0) 1 Try.underlying28 hi0 hz0 hz1 .i64 .i64 _ _ 0 rfl rfl (by omega) (by omega) hb80.out (by simp only [maxLen]; omega) (Nat.le_refl _) ?_; intro w5 hown5 hgrow5; have hB5 : Below wr.heap.size wr w5 := (Below.refl _ wr).grown hgrow5 (Nat.le_refl _) (fun k e => by cases e); clear hown5 hgrow5) | (go_at_call 60; refine hcon.mono ?_; rintro e w' ⟨rfl, rfl⟩) | (go_at_call 59; refine (elim_none p none 0 0 wr).mono ?_; rintro e w' ⟨rfl, rfl⟩))
      go_loopw [66] (fun i wr => i = .int .i64 0 ∧ wr = w5) (fun i _ => (intOf i).toNat)
      case atStart => exact ⟨rfl, rfl⟩
      case round =>
        obtain ⟨rfl, rfl⟩ := hrel
        go_wp2
        go_ret2
        exact .inl ⟨_, hSL.out, _, _, rfl, Sl.blank _ _ _, hBend.trans (hB5.mono hBend.size)⟩
  · have hcapN : rows.length ≤ cap := by have h5 := hM.sll.cap; exact h5
    clear hr5
    go_wp2_with fail
    go_loopw [33] (fun i wr => ∃ (k : Nat) (us : List Value), k ≤ b.length ∧ i = .int .i64 k ∧ MP w2.heap.size wr (.slice (some ⟨g, 0, none⟩) rows.length cap) rows.length rows.length us (augK rows b k) ∧ Below w2.heap.size w2 wr) (fun i _ => b.length - (intOf i).toNat)
    case atStart => exact ⟨0, vs, Nat.zero_le _, rfl, by rw [augK_zero]; exact hM, hB3⟩
    case round =>
      obtain ⟨k, us, hk, rfl, hMk, hBk⟩ := hrel
      by_cases hlt : k < b.length
      · obtain ⟨bb, ob, y, hBB, hbb, hy, hcy⟩ := (sb2.next hBk).at_ hlt
        subst hBB
        have hkr : k < rows.length := by rw [HN.out]; exact hlt
        obtain ⟨u, hu, huo⟩ := hMk.row k hkr
        rw [augK_ro b k hkr, if_neg (by omega), (hmat.ro hkr).1] at huo
        obtain ⟨Au, cu, rfl⟩ := row_form huo
        have hcell := hMk.cell hkr hu
        have hNX : Hid ((augK rows b k).set k (ro rows k ++ [y]) = augK rows b (k + 1)) := Lib.hid (by rw [← co_at hy]; exact augK_next hkr)
        have hMA := hMk.next ((Below.refl _ wr).alloc (Nat.le_refl _) (.cells #[.int .u64 y] 22))
        have huA := huo.alloc (.cells #[.int .u64 y] 22)
        have hszk : w2.heap.size ≤ wr.heap.size := hBk.size
        have hkb : (k : Int) < b.length := by omega
        have hkr' : (k : Int) < rows.length := by omega
        have hfar := fun x (e : (Value.slice Au (ncol rows) cu).ownBlock = some x) => hMk.far hkr hu e
        have hlenr := Lib.hid (hmat.ro hkr).1
        have hgl := World.ownsRow.lt hMk.head g rfl
        have hMAH := Lib.hid hMA
        have hHa : Hid ((wr.alloc (.cells #[.int .u64 y] 22)).heap.size = wr.heap.size + 1) := Lib.hid (by simp)
        have HU := Lib.hid hu
        clear hMk hMA hy huo hu
        go_wp2_with (at_builtin; refine wpList_append_lies _ rfl _ _ 28 rfl w2.heap.size 22 i0 (.int .u64 0) 1 8 Try.underlying28 hi0 hz0 hz1 hz2 rfl (by decide) _ _ _ rfl huA ⟨wr.heap.size, 0, none⟩ 1 1 [.int .u64 y] rfl rfl (cell_one_new _ _ _) (by simp [Value.oneCell']) (by decide) (by simp only [maxLen]; omega) (by omega) (by simp; omega) (wr.heap.size + 1) hHa.out ?_; intro g5 cap5 w5 hown5 hgrow5 hat5 hlt5; have hhd5 : w5.ownsRow w2.heap.size 28 1 (.slice (some ⟨g, 0, none⟩) rows.length cap) rows.length us := World.ownsRow.kept hMAH.out.head hgrow5 (.inr fun e => hfar g e.symm rfl); have hfz5 := World.ownsRow.frozenAt hhd5 k; have hcell5 := (World.ownsRow.cellAt hhd5 k (by omega)).trans HU.out; have hgl5 : g < w5.heap.size := (World.ownsRow.lt hhd5 g rfl).2; have hown5H := Lib.hid hown5; clear hown5 hhd5)
        go_roundw
        case rel => exact ⟨k + 1, us.set k (.slice (some ⟨g5, 0, none⟩) (ncol rows + 1) cap5), by omega, by simp, by
          rw [← hNX.out]
          exact hMAH.out.lay (w' := w5) (i := k) (k' := rows.length) (by omega) hkr (by omega) hgrow5 (fun x e => ⟨hkr, _, HU.out, e⟩) (by rw [List.length_append, hlenr.out, List.map_append]; exact hown5H.out) (fun x e => by
            have e1 : g5 = x := by simpa [Value.ownBlock] using e
            subst e1
            rcases hat5 with e2 | e2
            · exact .inr e2
            · exact .inl (by rw [hHa.out]; omega)), ((hBk.alloc hszk _).grown hgrow5 (by rw [hHa.out]; omega) (fun x e => (World.ownsRow.lt huA x e).1)).setCell (p := ⟨g, k, none⟩) hgl.1 _⟩
        case measure => simp [intOf]; omega
      · obtain rfl : k = b.length := by omega
        have hEl := elimV_any p hp w2.heap.size rows.length (ncol rows + 1) (ncol rows) (.slice (some ⟨g, 0, none⟩) rows.length cap) us (augL rows b) (by omega) (by omega) (by omega) hcp hmat2 wr hBk.size (by unfold augL; rw [HN.out]; rw [HN.out] at hMk; exact hMk)
        rw [HSE.out] at hEl
        have hbxk := (hBk.cell (p := ⟨w1.heap.size, 0, none⟩) hlt2).trans hBox.cell
        have hBk2 := Lib.hid hBk
        clear hMk
        go_wp2_with fail
        refine hEl.mono ?_
        rintro e w4 ⟨pvv, vs4, rfl, hM4, hP4, hB4⟩
        obtain ⟨A9, c9, rfl⟩ := row_form hP4
        have hBx4 : Boxed w4 w1.heap.size 3 (.int .i64 (ncol rows : Int)) := ((hBk2.out.trans hB4).block w1.heap.size hlt2).trans hBox
        have hbx4 := hBx4.cell
        have hlt4 : w1.heap.size < w4.heap.size := Nat.lt_of_lt_of_le hlt2 (Nat.le_trans hBk2.out.size hB4.size)
        have hsll := hM4.sll
        have hBend : Below w.heap.size w w4 := (hB2.trans ((hBk2.out.mono hB2.size).trans (hB4.mono hB2.size)))
        have hql : S.pv.length ≤ rows.length := hELF.ech.len
        have hRl : (S.R.drop S.pv.length).length = rows.length - S.pv.length := by rw [List.length_drop, hELF.mat.rows]
        have hfNN : ∀ k, rows.length ≤ S.pv.length → fnd S.R S.pv.length k = none := fun k hge => fnd_none.2 fun i h1 h2 => by rw [hELF.mat.rows] at h2; omega
        clear hEl hM4 hbxk hbx3 hM
        generalize hq : S.pv.length = q at *
        have HQ := Lib.hid hq
        clear hq
        have hqlI : (q : Int) ≤ rows.length := by omega
        have hNcI : (rows.length : Int) ≤ cap := by omega
        by_cases hqN : q < rows.length
        · have hcq : ¬ cap = q := by omega
          have hsl := hsll.drop rfl (q := q) (by rw [hELF.mat.rows]; exact hql)
          rw [Nat.zero_add] at hsl
          have hcon := contains_solve (.pointer (some ⟨w1.heap.size, 0, none⟩)) (fun r => co r (ncol rows) != 0) (some ⟨g, q, none⟩) (cap - q) (rows.length - q) (S.R.drop q) hRl (by omega) w4 hsl (fun i A' c' hi hs => by
            have hro : ro (S.R.drop q) i = ro S.R (q + i) := by unfold ro; rw [List.getElem?_drop]
            have hl2 : (ro (S.R.drop q) i).length = ncol rows + 1 := by rw [hro]; exact (hELF.mat.ro (by rw [hRl] at hi; omega)).1
            exact solve1_any A' c' _ _ rfl (ncol rows) w1.heap.size _ hBx4 hs (by rw [hl2]; omega))
          rw [show ((S.R.drop q).findIdx? fun r => co r (ncol rows) != 0) = fnd S.R q (ncol rows) from rfl] at hcon
          clear hsl hRl hfNN
          cases hfn : fnd S.R q (ncol rows) with
          | some bq =>
            rw [hfn] at hcon
            have HR : Hid (slv p rows b = none) := Lib.hid (by rw [HS.out, hfn]; rfl)
            clear HS
            go_wp2_with (go_at_call 60; refine hcon.mono ?_; rintro e w' ⟨rfl, rfl⟩)
            go_ret2
            exact .inr ⟨HR.out, rfl, hBend⟩
          | none =>
            rw [hfn] at hcon
            have HR : Hid (slv p rows b = some (solF S (ncol rows) q)) := Lib.hid (by rw [HS.out, hfn]; rfl)
            clear HS
            go_wp2_with (first | (at_make; refine wpList_make_full _ rfl _ _ 28 rfl w4.heap.size 22 i0 (.int .u64 0) 1 Try.underlying28 hi0 hz0 hz1 .i64 .i64 _ _ (ncol rows) rfl rfl (by omega) (by omega) hb8.out (by simp only [maxLen]; omega) (Nat.le_refl _) ?_; intro w5 hown5 hgrow5; simp only [Value.cells, toList_madeCells_one, Nat.mul_one] at hown5; have hO5 : OwnAt w5 w4.heap.size w4.heap.size (ncol rows) (ncol rows) (solF S (ncol rows) 0) := (by unfold OwnAt; simpa [solF] using hown5); have hB5 : Below w4.heap.size w4 w5 := (Below.refl _ w4).grown hgrow5 (Nat.le_refl _) (fun k e => by cases e); clear hown5 hgrow5) | (go_at_call 60; refine hcon.mono ?_; rintro e w' ⟨rfl, rfl⟩))
            go_loopw [66] (fun i wr => ∃ k : Nat, k ≤ q ∧ i = .int .i64 k ∧ OwnAt wr w4.heap.size w4.heap.size (ncol rows) (ncol rows) (solF S (ncol rows) k) ∧ Below w4.heap.size w4 wr) (fun i _ => q - (intOf i).toNat)
            case atStart => exact ⟨0, Nat.zero_le _, rfl, hO5, hB5⟩
            case round =>
              obtain ⟨k, hk, rfl, hOk, hBk⟩ := hrel
              by_cases hlt : k < q
              · obtain ⟨gp, hAp, hgp, hcp⟩ := rowI_cell hP4 hlt
                subst hAp
                have hcp2 := (hBk.cell (p := ⟨gp, k, none⟩) hgp).trans hcp
                have hkr : k < rows.length := by omega
                obtain ⟨L2, hL2⟩ : ∃ L2, L2 = ncol rows + 1 := ⟨_, rfl⟩
                obtain ⟨br, or_, A7, c7, hA7, hbr, hcr, hsr⟩ := hsll.rowAt (i := k) (L := L2) (by rw [hELF.mat.rows]; exact hkr) (by rw [hL2]; exact (hELF.mat.ro hkr).1)
                injection hA7 with hA7
                injection hA7 with e1 e2
                subst e1 e2
                rw [Nat.zero_add] at hcr
                have hcr2 := (hBk.cell (p := ⟨g, k, none⟩) hbr).trans hcr
                obtain ⟨b7, o7, y, hA8, hb7, hy7, hcy7⟩ := hsr.at_ (k := ncol rows) (by rw [(hELF.mat.ro hkr).1]; omega)
                subst hA8
                have hcy := (hBk.cell (p := ⟨b7, o7 + ncol rows, none⟩) hb7).trans hcy7
                have hbxk := (hBk.cell (p := ⟨w1.heap.size, 0, none⟩) hlt4).trans hbx4
                have hpvlt : S.pv.getD k 0 < ncol rows := hELF.ech.lt k (by rw [HQ.out]; exact hlt)
                have hNX : Hid ((solF S (ncol rows) k).set (S.pv.getD k 0) y = solF S (ncol rows) (k + 1)) := Lib.hid (by show _ = (solF S (ncol rows) k).set _ (mx S.R k (ncol rows)); rw [mx_ro, co_at hy7])
                have hfz := hOk.frozen (S.pv.getD k 0)
                obtain ⟨z, hz9⟩ : ∃ z, (solF S (ncol rows) k)[S.pv.getD k 0]? = some z := ⟨_, List.getElem?_eq_getElem (by rw [solF_len]; exact hpvlt)⟩
                have hcz := hOk.cell hz9
                have hST := Lib.hid (hOk.drew.put (S.pv.getD k 0) y)
                have hBS := Lib.hid (hBk.drew.setCell (p := ⟨w4.heap.size, S.pv.getD k 0, none⟩) (Nat.le_refl _) (.int .u64 y))
                rw [hNX.out] at hST
                have hpvI : ((S.pv.getD k 0 : Nat) : Int) < ncol rows := by omega
                have hkI : (k : Int) < q := by omega
                have hkrI : (k : Int) < rows.length := by omega
                have hncI : (ncol rows : Int) < L2 := by omega
                generalize S.pv.getD k 0 = P at *
                clear hOk hz9 hy7 hcy7 hNX hsr hL2
                go_wp2
                refine wp_region_still_tail 10 (by kernel_rfl) (by kernel_rfl) ?_
                simp only [List.take_succ_cons, List.take_zero, List.drop_succ_cons, List.drop_zero]
                change wpStill _ _ (World.drew _) (fun a' => wpList _ _ _ _ a' (World.drew _)) _ _
                repeat still_step
                refine wpStill_nil ?_
                go_wp2
                go_roundw
                case rel => exact ⟨k + 1, by omega, by simp, hST.out, hBS.out⟩
                case measure => simp [intOf]; omega
              · obtain rfl : k = q := by omega
                go_wp2
                go_ret2
                exact .inl ⟨_, HR.out, _, _, by rw [solF_len]; rfl, hOk.sl, hBend.trans (hBk.mono hBend.size)⟩
        · obtain rfl : q = rows.length := by omega
          have hfn := hfNN (ncol rows) (Nat.le_refl _)
          have hcon := fun (ad : Addr) (c' : Nat) => contains_solve (.pointer (some ⟨w1.heap.size, 0, none⟩)) (fun r => co r (ncol rows) != 0) (some ad) c' 0 [] rfl (by omega) w4 ⟨Nat.zero_le _, (fun h => by cases h), fun _ _ h => absurd rfl h⟩ (fun i A' c' hi hs => absurd hi (Nat.not_lt_zero _))
          clear hRl hfNN
          by_cases hcq : cap = rows.length
          · subst hcq
            have HR : Hid (slv p rows b = some (solF S (ncol rows) rows.length)) := Lib.hid (by rw [HS.out, hfn]; rfl)
            clear HS
            go_wp2_with (first | (at_make; refine wpList_make_full _ rfl _ _ 28 rfl w4.heap.size 22 i0 (.int .u64 0) 1 Try.underlying28 hi0 hz0 hz1 .i64 .i64 _ _ (ncol rows) rfl rfl (by omega) (by omega) hb8.out (by simp only [maxLen]; omega) (Nat.le_refl _) ?_; intro w5 hown5 hgrow5; simp only [Value.cells, toList_madeCells_one, Nat.mul_one] at hown5; have hO5 : OwnAt w5 w4.heap.size w4.heap.size (ncol rows) (ncol rows) (solF S (ncol rows) 0) := (by unfold OwnAt; simpa [solF] using hown5); have hB5 : Below w4.heap.size w4 w5 := (Below.refl _ w4).grown hgrow5 (Nat.le_refl _) (fun k e => by cases e); clear hown5 hgrow5) | (go_at_call 60; refine (hcon _ _).mono ?_; rintro e w' ⟨rfl, rfl⟩))
            go_loopw [66] (fun i wr => ∃ k : Nat, k ≤ rows.length ∧ i = .int .i64 k ∧ OwnAt wr w4.heap.size w4.heap.size (ncol rows) (ncol rows) (solF S (ncol rows) k) ∧ Below w4.heap.size w4 wr) (fun i _ => rows.length - (intOf i).toNat)
            case atStart => exact ⟨0, Nat.zero_le _, rfl, hO5, hB5⟩
            case round =>
              obtain ⟨k, hk, rfl, hOk, hBk⟩ := hrel
              by_cases hlt : k < rows.length
              · obtain ⟨gp, hAp, hgp, hcp⟩ := rowI_cell hP4 hlt
                subst hAp
                have hcp2 := (hBk.cell (p := ⟨gp, k, none⟩) hgp).trans hcp
                have hkr : k < rows.length := by omega
                obtain ⟨L2, hL2⟩ : ∃ L2, L2 = ncol rows + 1 := ⟨_, rfl⟩
                obtain ⟨br, or_, A7, c7, hA7, hbr, hcr, hsr⟩ := hsll.rowAt (i := k) (L := L2) (by rw [hELF.mat.rows]; exact hkr) (by rw [hL2]; exact (hELF.mat.ro hkr).1)
                injection hA7 with hA7
                injection hA7 with e1 e2
                subst e1 e2
                rw [Nat.zero_add] at hcr
                have hcr2 := (hBk.cell (p := ⟨g, k, none⟩) hbr).trans hcr
                obtain ⟨b7, o7, y, hA8, hb7, hy7, hcy7⟩ := hsr.at_ (k := ncol rows) (by rw [(hELF.mat.ro hkr).1]; omega)
                subst hA8
                have hcy := (hBk.cell (p := ⟨b7, o7 + ncol rows, none⟩) hb7).trans hcy7
                have hbxk := (hBk.cell (p := ⟨w1.heap.size, 0, none⟩) hlt4).trans hbx4
                have hpvlt : S.pv.getD k 0 < ncol rows := hELF.ech.lt k (by rw [HQ.out]; exact hlt)
                have hNX : Hid ((solF S (ncol rows) k).set (S.pv.getD k 0) y = solF S (ncol rows) (k + 1)) := Lib.hid (by show _ = (solF S (ncol rows) k).set _ (mx S.R k (ncol rows)); rw [mx_ro, co_at hy7])
                have hfz := hOk.frozen (S.pv.getD k 0)
                obtain ⟨z, hz9⟩ : ∃ z, (solF S (ncol rows) k)[S.pv.getD k 0]? = some z := ⟨_, List.getElem?_eq_getElem (by rw [solF_len]; exact hpvlt)⟩
                have hcz := hOk.cell hz9
                have hST := Lib.hid (hOk.drew.put (S.pv.getD k 0) y)
                have hBS := Lib.hid (hBk.drew.setCell (p := ⟨w4.heap.size, S.pv.getD k 0, none⟩) (Nat.le_refl _) (.int .u64 y))
                rw [hNX.out] at hST
                have hpvI : ((S.pv.getD k 0 : Nat) : Int) < ncol rows := by omega
                have hkI : (k : Int) < rows.length := by omega
                have hkrI : (k : Int) < rows.length := by omega
                have hncI : (ncol rows : Int) < L2 := by omega
                generalize S.pv.getD k 0 = P at *
                clear hOk hz9 hy7 hcy7 hNX hsr hL2
                go_wp2
                refine wp_region_still_tail 10 (by kernel_rfl) (by kernel_rfl) ?_
                simp only [List.take_succ_cons, List.take_zero, List.drop_succ_cons, List.drop_zero]
                change wpStill _ _ (World.drew _) (fun a' => wpList _ _ _ _ a' (World.drew _)) _ _
                repeat still_step
                refine wpStill_nil ?_
                go_wp2
                go_roundw
                case rel => exact ⟨k + 1, by omega, by simp, hST.out, hBS.out⟩
                case measure => simp [intOf]; omega
              · obtain rfl : k = rows.length := by omega
                go_wp2
                go_ret2
                exact .inl ⟨_, HR.out, _, _, by rw [solF_len]; rfl, hOk.sl, hBend.trans (hBk.mono hBend.size)⟩
          · skip
            have HR : Hid (slv p rows b = some (solF S (ncol rows) rows.length)) := Lib.hid (by rw [HS.out, hfn]; rfl)
            clear HS
            go_wp2_with (first | (at_make; refine wpList_make_full _ rfl _ _ 28 rfl w4.heap.size 22 i0 (.int .u64 0) 1 Try.underlying28 hi0 hz0 hz1 .i64 .i64 _ _ (ncol rows) rfl rfl (by omega) (by omega) hb8.out (by simp only [maxLen]; omega) (Nat.le_refl _) ?_; intro w5 hown5 hgrow5; simp only [Value.cells, toList_madeCells_one, Nat.mul_one] at hown5; have hO5 : OwnAt w5 w4.heap.size w4.heap.size (ncol rows) (ncol rows) (solF S (ncol rows) 0) := (by unfold OwnAt; simpa [solF] using hown5); have hB5 : Below w4.heap.size w4 w5 := (Below.refl _ w4).grown hgrow5 (Nat.le_refl _) (fun k e => by cases e); clear hown5 hgrow5) | (go_at_call 60; refine (hcon _ _).mono ?_; rintro e w' ⟨rfl, rfl⟩))
            go_loopw [66] (fun i wr => ∃ k : Nat, k ≤ rows.length ∧ i = .int .i64 k ∧ OwnAt wr w4.heap.size w4.heap.size (ncol rows) (ncol rows) (solF S (ncol rows) k) ∧ Below w4.heap.size w4 wr) (fun i _ => rows.length - (intOf i).toNat)
            case atStart => exact ⟨0, Nat.zero_le _, rfl, hO5, hB5⟩
            case round =>
              obtain ⟨k, hk, rfl, hOk, hBk⟩ := hrel
              by_cases hlt : k < rows.length
              · obtain ⟨gp, hAp, hgp, hcp⟩ := rowI_cell hP4 hlt
                subst hAp
                have hcp2 := (hBk.cell (p := ⟨gp, k, none⟩) hgp).trans hcp
                have hkr : k < rows.length := by omega
                obtain ⟨L2, hL2⟩ : ∃ L2, L2 = ncol rows + 1 := ⟨_, rfl⟩
                obtain ⟨br, or_, A7, c7, hA7, hbr, hcr, hsr⟩ := hsll.rowAt (i := k) (L := L2) (by rw [hELF.mat.rows]; exact hkr) (by rw [hL2]; exact (hELF.mat.ro hkr).1)
                injection hA7 with hA7
                injection hA7 with e1 e2
                subst e1 e2
                rw [Nat.zero_add] at hcr
                have hcr2 := (hBk.cell (p := ⟨g, k, none⟩) hbr).trans hcr
                obtain ⟨b7, o7, y, hA8, hb7, hy7, hcy7⟩ := hsr.at_ (k := ncol rows) (by rw [(hELF.mat.ro hkr).1]; omega)
                subst hA8
                have hcy := (hBk.cell (p := ⟨b7, o7 + ncol rows, none⟩) hb7).trans hcy7
                have hbxk := (hBk.cell (p := ⟨w1.heap.size, 0, none⟩) hlt4).trans hbx4
                have hpvlt : S.pv.getD k 0 < ncol rows := hELF.ech.lt k (by rw [HQ.out]; exact hlt)
                have hNX : Hid ((solF S (ncol rows) k).set (S.pv.getD k 0) y = solF S (ncol rows) (k + 1)) := Lib.hid (by show _ = (solF S (ncol rows) k).set _ (mx S.R k (ncol rows)); rw [mx_ro, co_at hy7])
                have hfz := hOk.frozen (S.pv.getD k 0)
                obtain ⟨z, hz9⟩ : ∃ z, (solF S (ncol rows) k)[S.pv.getD k 0]? = some z := ⟨_, List.getElem?_eq_getElem (by rw [solF_len]; exact hpvlt)⟩
                have hcz := hOk.cell hz9
                have hST := Lib.hid (hOk.drew.put (S.pv.getD k 0) y)
                have hBS := Lib.hid (hBk.drew.setCell (p := ⟨w4.heap.size, S.pv.getD k 0, none⟩) (Nat.le_refl _) (.int .u64 y))
                rw [hNX.out] at hST
                have hpvI : ((S.pv.getD k 0 : Nat) : Int) < ncol rows := by omega
                have hkI : (k : Int) < rows.length := by omega
                have hkrI : (k : Int) < rows.length := by omega
                have hncI : (ncol rows : Int) < L2 := by omega
                generalize S.pv.getD k 0 = P at *
                clear hOk hz9 hy7 hcy7 hNX hsr hL2
                go_wp2
                refine wp_region_still_tail 10 (by kernel_rfl) (by kernel_rfl) ?_
                simp only [List.take_succ_cons, List.take_zero, List.drop_succ_cons, List.drop_zero]
                change wpStill _ _ (World.drew _) (fun a' => wpList _ _ _ _ a' (World.drew _)) _ _
                repeat still_step
                refine wpStill_nil ?_
                go_wp2
                go_roundw
                case rel => exact ⟨k + 1, by omega, by simp, hST.out, hBS.out⟩
                case measure => simp [intOf]; omega
              · obtain rfl : k = rows.length := by omega
                go_wp2
                go_ret2
                exact .inl ⟨_, HR.out, _, _, by rw [solF_len]; rfl, hOk.sl, hBend.trans (hBk.mono hBend.size)⟩
end Go.Proofs.Ytelkmbhhaopafaa

/- Inverse of package matrix, by elimination on a clone with the identity behind it. Nothing that lay is changed. Conditions: a supported prime, words of its field, at most 100 rows and columns. -/
namespace Go.Proofs.Ytelkmbhhaopafaa
set_option maxRecDepth 100000
open Go.RowKit PolyMath FieldMath MatMath

/-- The rows with the identity behind them. -/
def agiK (A : List (List Int)) (k : Nat) : List (List Int) := (List.range A.length).map fun i => if i < k then ro A i ++ unitL A.length i else ro A i
def agiL (A : List (List Int)) : List (List Int) := agiK A A.length
theorem agiK_len (A : List (List Int)) (k : Nat) : (agiK A k).length = A.length := by unfold agiK; simp
theorem agiK_ro {A : List (List Int)} (k : Nat) {i : Nat} (h : i < A.length) : ro (agiK A k) i = if i < k then ro A i ++ unitL A.length i else ro A i := ro_map _ h
theorem agiK_zero (A : List (List Int)) : agiK A 0 = A := rows_ext (agiK_len A 0) fun i hi => by
  rw [agiK_len] at hi
  rw [agiK_ro 0 hi, if_neg (by omega)]
theorem agiK_next {A : List (List Int)} {k : Nat} (hk : k < A.length) : (agiK A k).set k (ro A k ++ unitL A.length k) = agiK A (k + 1) :=
  rows_ext (by rw [List.length_set, agiK_len, agiK_len]) fun i hi => by
    rw [List.length_set, agiK_len] at hi
    rw [ro_set (by rw [agiK_len]; exact hk), agiK_ro _ hi, agiK_ro _ hi]
    by_cases e : i = k
    · subst e; rw [if_pos rfl, if_pos (by omega)]
    · rw [if_neg e]
      by_cases h : i < k
      · rw [if_pos h, if_pos (by omega)]
      · rw [if_neg h, if_neg (by omega)]
theorem unitL_el {p : Int} (hp : 1 < p) (n i : Nat) : El p (unitL n i) := fun x hx => by
  unfold unitL at hx
  rcases List.mem_or_eq_of_mem_set hx with h | h
  · have := List.eq_of_mem_replicate h; omega
  · omega
theorem agiL_mat {p : Int} {N : Nat} {A : List (List Int)} (hp : 1 < p) (hA : Mat p N N A) : Mat p N (N + N) (agiL A) := .of (by unfold agiL; rw [agiK_len]; exact hA.rows) fun i hi => by
  have hi' : i < A.length := by rw [hA.rows]; exact hi
  unfold agiL
  rw [agiK_ro _ hi', if_pos hi']
  refine ⟨by rw [List.length_append, (hA.ro hi).1, unitL_len, hA.rows], fun x hx => ?_⟩
  rcases List.mem_append.1 hx with h | h
  · exact (hA.ro hi).2 x h
  · exact unitL_el hp _ _ x h
/-- What Inverse hands back. -/
def invM (p : Int) (A : List (List Int)) : Option (List (List Int)) :=
  if (elim p (agiL A) A.length).pv.length < A.length then none else some ((elim p (agiL A) A.length).R.map fun r => r.drop A.length)
def InvE (p : Int) (A : List (List Int)) (w : World) (e : Ending) (w' : World) : Prop :=
  (∃ X, invM p A = some X ∧ MatE w e w' X) ∨ (invM p A = none ∧ e = .returned (.tuple #[.slice none 0 0, .int .i64 8]) ∧ Below w.heap.size w w')

end Go.Proofs.Ytelkmbhhaopafaa

/- Below, Fair, SameList, Same, Rect, square, Dot of the reference of layer 6; nothing that lay is changed. Conditions: where said, at most 1000 words. -/
namespace Go.Proofs.Ytelkmbhhaopafaa
set_option maxRecDepth 100000
open Go.RowKit PolyMath FieldMath MatMath

/-- At most so many words, all below p. -/
def belB (p : Int) (xs : List Int) (most : Nat) : Bool := decide (xs.length ≤ most ∧ ∀ x ∈ xs, x < p)
/-- A supported prime, and at most so many rows and columns of words below it. -/
def fairB (p : Int) (rows : List (List Int)) (most : Nat) : Bool := (qOf p != 0) && decide (rows.length ≤ most ∧ ∀ i, i < rows.length → belB p (ro rows i) most = true)

/-- What Rect answers. -/
def rectN (rows : List (List Int)) : Nat := if rect rows = true then ncol rows else 0
theorem rect_nil : rect [] = true := rfl
end Go.Proofs.Ytelkmbhhaopafaa

/- Turn and One of the reference of layer 6: the transpose and the identity, in memory of the call's own; nothing that lay is changed. Conditions: at most 100 rows and columns, the matrix rectangular. -/
namespace Go.Proofs.Ytelkmbhhaopafaa
set_option maxRecDepth 100000
open Go.RowKit PolyMath FieldMath MatMath

theorem own_wide {w : World} {base base' t n : Nat} {v : Value} {xs : List Value} (h : w.ownsRow base t 1 v n xs) (hb : base' ≤ base) : w.ownsRow base' t 1 v n xs :=
  ⟨h.1, h.2.imp id fun ⟨g, cap, cur, a1, a2, a3⟩ => ⟨g, cap, cur, a1, Nat.le_trans hb a2, a3⟩⟩
theorem MP.wide {base base' N k : Nat} {w : World} {v : Value} {vs : List Value} {rows : List (List Int)} (h : MP base w v N k vs rows) (hb : base' ≤ base) : MP base' w v N k vs rows :=
  ⟨own_wide h.head hb, h.len, h.le, fun i hi => by obtain ⟨u, h1, h2⟩ := h.row i hi; exact ⟨u, h1, own_wide h2 hb⟩, h.apart⟩
/-- One row more. -/
theorem MP.add {base N : Nat} {w0 w w' : World} {v v' u : Value} {vs : List Value} {rows : List (List Int)} {r : List Int} (h : MP base w0 v N N vs rows) (hb : Below w0.heap.size w0 w) (hbase : base ≤ w0.heap.size)
    (hu : w.ownsRow w0.heap.size 22 1 u r.length (r.map (Value.int .u64))) (hown : w'.ownsRow base 28 1 v' (N + 1) (vs ++ [u])) (hg : w.grownBy w' v.ownBlock) : MP base w' v' (N + 1) (N + 1) (vs ++ [u]) (rows ++ [r]) := by
  have h1 := h.next hb
  have hvl := h.vlen
  have hrl := h.len
  have keep : ∀ {x : Value} {b n : Nat} {xs : List Int}, w.ownsRow b 22 1 x n (xs.map (Value.int .u64)) → w'.ownsRow b 22 1 x n (xs.map (Value.int .u64)) := fun {x b n xs} hx =>
    World.ownsRow.kept hx hg (by
      cases hq : x.ownBlock with
      | none => exact .inl rfl
      | some e =>
        refine .inr fun e' => ?_
        obtain ⟨c1, f1, t1⟩ := own_tag hx e hq
        obtain ⟨c2, f2, t2⟩ := own_tag h1.head e e'.symm
        rw [t1] at t2
        cases t2)
  have roL : ∀ i, i < N → ro (rows ++ [r]) i = ro rows i := fun i hi => by unfold ro; rw [List.getElem?_append_left (by omega)]
  have roR : ro (rows ++ [r]) N = r := by unfold ro; rw [List.getElem?_append_right (by omega), show N - rows.length = 0 by omega]; rfl
  have vR : (vs ++ [u])[N]? = some u := by rw [List.getElem?_append_right (by omega), show N - vs.length = 0 by omega]; rfl
  refine ⟨hown, by rw [List.length_append, List.length_singleton, hrl], Nat.le_refl _, fun i hi => ?_, fun i j x y e hi hj hx hy he he' => ?_⟩
  · by_cases e : i = N
    · subst e
      exact ⟨u, vR, by rw [roR]; exact keep (own_wide hu hbase)⟩
    · obtain ⟨x, h2, h3⟩ := h1.row i (by omega)
      exact ⟨x, by rw [List.getElem?_append_left (by omega)]; exact h2, by rw [roL i (by omega)]; exact keep h3⟩
  · have old : ∀ i x, i < N → (vs ++ [u])[i]? = some x → x.ownBlock = some e → e < w0.heap.size := fun i x hi hx he => by
      rw [List.getElem?_append_left (by omega)] at hx
      exact (World.ownsRow.lt (h.own hi hx) e he).2
    have new : ∀ x, (vs ++ [u])[N]? = some x → x.ownBlock = some e → w0.heap.size ≤ e := fun x hx he => by
      rw [vR] at hx
      injection hx with hx
      subst hx
      exact (World.ownsRow.lt hu e he).1
    by_cases e1 : i = N
    · by_cases e2 : j = N
      · omega
      · subst e1
        have := new x hx he
        have := old j y (by omega) hy he'
        omega
    · by_cases e2 : j = N
      · subst e2
        have := new y hy he'
        have := old i x (by omega) hx he
        omega
      · rw [List.getElem?_append_left (by omega)] at hx hy
        exact h.apart i j x y e (by omega) (by omega) hx hy he he'
theorem MP.zero (base : Nat) (w : World) : MP base w (.slice none 0 0) 0 0 [] [] :=
  ⟨World.ownsRow_nil _ _ _ _, rfl, Nat.le_refl _, fun _ hi => absurd hi (Nat.not_lt_zero _), fun _ _ _ _ _ hi => absurd hi (Nat.not_lt_zero _)⟩

/-- The identity. -/
def oneL (n : Nat) : List (List Int) := (List.range n).map fun i => unitL n i
theorem oneL_len (n : Nat) : (oneL n).length = n := by unfold oneL; simp
def oneK (n k : Nat) : List (List Int) := (List.range k).map fun i => unitL n i
theorem oneK_len (n k : Nat) : (oneK n k).length = k := by unfold oneK; simp
theorem oneK_next (n k : Nat) : oneK n (k + 1) = oneK n k ++ [unitL n k] := by unfold oneK; rw [List.range_succ, List.map_append]; rfl

/-- The transpose of a rectangular matrix. -/
def trn (R : List (List Int)) : List (List Int) := (List.range (ncol R)).map fun k => (List.range R.length).map fun i => mx R i k
theorem trn_len (R : List (List Int)) : (trn R).length = ncol R := by unfold trn; simp
theorem trn_ro {R : List (List Int)} {k : Nat} (h : k < ncol R) : ro (trn R) k = (List.range R.length).map fun i => mx R i k := ro_map _ h
def trnP (R : List (List Int)) (n k i : Nat) : List (List Int) := (List.range n).map fun j => if j < k then (List.range R.length).map (fun t => mx R t j) else if j = k then (List.range i).map (fun t => mx R t j) else []
theorem trnP_len (R : List (List Int)) (n k i : Nat) : (trnP R n k i).length = n := by unfold trnP; simp
theorem trnP_ro (R : List (List Int)) {n : Nat} (k i : Nat) {j : Nat} (h : j < n) : ro (trnP R n k i) j = if j < k then (List.range R.length).map (fun t => mx R t j) else if j = k then (List.range i).map (fun t => mx R t j) else [] := ro_map _ h
theorem trnP_here (R : List (List Int)) {n k : Nat} (i : Nat) (h : k < n) : ro (trnP R n k i) k = (List.range i).map (fun t => mx R t k) := by rw [trnP_ro R k i h, if_neg (by omega), if_pos rfl]
theorem trnP_next (R : List (List Int)) {n k : Nat} (i : Nat) (h : k < n) : (trnP R n k i).set k ((List.range i).map (fun t => mx R t k) ++ [mx R i k]) = trnP R n k (i + 1) :=
  rows_ext (by rw [List.length_set, trnP_len, trnP_len]) fun j hj => by
    rw [List.length_set, trnP_len] at hj
    rw [ro_set (by rw [trnP_len]; exact h), trnP_ro R k i hj, trnP_ro R k (i + 1) hj]
    by_cases e : j = k
    · subst e; rw [if_pos rfl, if_neg (by omega), if_pos rfl, map_next]
    · rw [if_neg e]
      by_cases h2 : j < k
      · rw [if_pos h2, if_pos h2]
      · rw [if_neg h2, if_neg h2, if_neg e, if_neg e]
theorem trnP_row (R : List (List Int)) (n k : Nat) : trnP R n k R.length = trnP R n (k + 1) 0 :=
  rows_ext (by rw [trnP_len, trnP_len]) fun j hj => by
    rw [trnP_len] at hj
    rw [trnP_ro R k _ hj, trnP_ro R (k + 1) 0 hj]
    by_cases h1 : j < k
    · rw [if_pos h1, if_pos (by omega)]
    · rw [if_neg h1]
      by_cases h2 : j = k
      · rw [if_pos h2, if_pos (by omega)]
      · rw [if_neg h2, if_neg (by omega)]
        by_cases h3 : j = k + 1
        · rw [if_pos h3]; rfl
        · rw [if_neg h3]
theorem trnP_done (R : List (List Int)) : trnP R (ncol R) (ncol R) 0 = trn R := rows_ext (by rw [trnP_len, trn_len]) fun j hj => by
  rw [trnP_len] at hj
  rw [trnP_ro R _ _ hj, if_pos hj, trn_ro hj]
theorem trnP_zero (R : List (List Int)) (n j : Nat) : ro (trnP R n 0 0) j = [] := by
  by_cases h : j < n
  · rw [trnP_ro R 0 0 h, if_neg (by omega)]
    split <;> rfl
  · unfold ro; rw [List.getElem?_eq_none (by rw [trnP_len]; omega)]; rfl

end Go.Proofs.Ytelkmbhhaopafaa

/- The examples of the document for layer 6 hold: awake returns true. Nothing that lay is changed. No conditions. -/
namespace Go.Proofs.Ytelkmbhhaopafaa
set_option maxRecDepth 100000
open Go.RowKit PolyMath FieldMath MatMath

theorem Sll.lit1 (w : World) {A1 : Option Addr} {c1 : Nat} {r1 : List Int} (h1 : Sl w A1 c1 r1) :
    Sll (w.alloc (.cells #[.slice A1 r1.length c1] 28)) (some ⟨w.heap.size, 0, none⟩) 1 [r1] := by
  refine ⟨Nat.le_refl _, (fun h => by cases h), fun ad e _ => ?_⟩
  injection e with e
  subst e
  refine ⟨w.heap.size, 0, rfl, by simp, fun j r hr => ?_⟩
  rw [cell_of_row _ w.heap.size (0 + j) _ 28 (0, 0) (World.alloc_heap_new w _), Nat.zero_add]
  match j, hr with
  | 0, hr => simp at hr; subst hr; exact ⟨A1, c1, rfl, h1.push _⟩
  | n + 1, hr => simp at hr

theorem el_dec6 {p : Int} {xs : List Int} (h : (xs.all fun x => decide (0 ≤ x) && decide (x < p)) = true) : El p xs := fun x hx => by
  have := List.all_eq_true.1 h x hx
  simpa using this
theorem els_dec {p : Int} {rows : List (List Int)} (h : (rows.all fun xs => xs.all fun x => decide (0 ≤ x) && decide (x < p)) = true) : ∀ r ∈ rows, El p r := fun r hr => el_dec6 (List.all_eq_true.1 h r hr)
theorem sized_dec {rows : List (List Int)} (h : (decide (rows.length ≤ 100) && rows.all fun r => decide (r.length ≤ 100)) = true) : Sized rows := by
  rw [Bool.and_eq_true, decide_eq_true_eq, List.all_eq_true] at h
  exact .of h.1 fun r hr => by simpa using h.2 r hr
abbrev exM : List (List Int) := [[1, 2], [3, 4]]
abbrev exS : List (List Int) := [[1, 2], [2, 4]]
theorem ex_sol {m : List (List Int)} {b x : List Int} (hz : Sized m) (hE : ∀ r ∈ m, El 31 r) (hb : El 31 b) (hr : rect m = true) (hn : m.length = b.length) (hx : slv 31 m b = some x) (A B : Option Addr) (c cv : Nat) (w : World) (h : Sll w A c m) (sb : Sl w B cv b) :
    Calls Try.prog 43 #[.int .u64 31, .slice A m.length c, .slice B b.length cv] w fun e w' => RowE w e w' x := by
  refine (solve_any 31 ok31 A B c cv m b hz hE hb hr hn w h sb).mono ?_
  rintro e w' (⟨y, hy, hR⟩ | ⟨hn, _⟩)
  · rw [hx] at hy
    injection hy with hy
    subst hy
    exact hR
  · rw [hx] at hn; cases hn
theorem ex_nosol {m : List (List Int)} {b : List Int} (hz : Sized m) (hE : ∀ r ∈ m, El 31 r) (hb : El 31 b) (hr : rect m = true) (hn : m.length = b.length) (hx : slv 31 m b = none) (A B : Option Addr) (c cv : Nat) (w : World) (h : Sll w A c m) (sb : Sl w B cv b) :
    Calls Try.prog 43 #[.int .u64 31, .slice A m.length c, .slice B b.length cv] w fun e w' => e = .returned (.tuple #[.slice none 0 0, .int .i64 6]) ∧ Below w.heap.size w w' := by
  refine (solve_any 31 ok31 A B c cv m b hz hE hb hr hn w h sb).mono ?_
  rintro e w' (⟨y, hy, hR⟩ | ⟨_, hR⟩)
  · rw [hx] at hy; cases hy
  · exact hR
end Go.Proofs.Ytelkmbhhaopafaa

/- Arguments of layer 6's laws: a word, a slice of words, a slice of slices of words, the struct Operands; they read behind the call as before where only new memory was made. No conditions. -/
namespace Go.Proofs.Ytelkmbhhaopafaa
set_option maxRecDepth 100000
open Go.ChangeShapes Go.WideShapes Go.ChangeAt Go.RowKit Go.Joins Go.Deep Go.WideElems PolyMath MatMath

theorem cells_row : Try.prog.cellsOf 28 = 1 := by kernel_rfl
section
variable {H : Type} {enc : TypeId × Value → H}
theorem open_ll {W : World} {v : Value} {fuel : Nat} {y : DataW H × List MemPlace} (hf : DataW.trod enc Try.prog W 0 (fun _ => true) true fuel 73 [v] = some y) (hlt : ∀ x ∈ y.2, x.block < W.heap.size) :
    ∃ A rows c, v = .slice A rows.length c ∧ Sll W A c rows ∧ (∀ r ∈ rows, Words r) ∧ rows.length ≤ 9223372036854775807 := by
  rcases Deep.open_int_rows Try.underlying73 Try.underlying28 Try.underlying22 cells_row cells_u64 hf with ⟨hcs, hx⟩ | ⟨a, len', cap', A, L, C, Z, hcs, _, hl, hm, hx, hall⟩
  · injection hcs with hcs _
    subst hcs
    exact ⟨none, [], 0, rfl, Sll.nothing W, fun l hl => (by cases hl), Nat.zero_le _⟩
  · injection hcs with hcs _
    subst hcs hx
    have hlen : ∀ r, r < len' → ((Z r).take (L r)).length = L r := fun r hr => by
      obtain ⟨_, h1, _, h3, _⟩ := hall r (by omega)
      rw [List.length_take]
      omega
    refine ⟨some a, (List.range len').map fun r => (Z r).take (L r), cap', by rw [List.length_map, List.length_range], ⟨by rw [List.length_map, List.length_range]; omega, (fun h => by cases h), fun ad e hn => ?_⟩, fun l hl x hx => ?_, by rw [List.length_map, List.length_range]; simp only [maxLen] at hm; omega⟩
    · injection e with e
      subst e
      have hpos : 0 < len' := by
        rcases Nat.eq_zero_or_pos len' with h0 | h0
        · rw [h0] at hn; exact absurd rfl hn
        · exact h0
      obtain ⟨b, off, spot⟩ := a
      have hspot : spot = none := by simpa [Addr.add] using World.cell?_spot (hall 0 (by omega)).1
      subst hspot
      refine ⟨b, off, rfl, hlt (.cell b off) (List.mem_append_left _ (MemPlace.mem_row.2 ⟨0, by omega, by simp⟩)), fun j l hl => ?_⟩
      rw [List.getElem?_map] at hl
      obtain ⟨r, hr, rfl⟩ := Option.map_eq_some_iff.1 hl
      obtain ⟨hjl, rfl⟩ := List.getElem?_eq_some_iff.1 hr
      rw [List.length_range] at hjl
      simp only [List.getElem_range]
      obtain ⟨h1, h2, h3, h4, h5, h6, h7⟩ := hall j (by omega)
      refine ⟨A j, C j, by rw [hlen j hjl, ← add_plain]; exact h1, by rw [hlen j hjl]; omega, h6, fun ar hA hne => ?_⟩
      have hLp : 0 < L j := by
        rcases Nat.eq_zero_or_pos (L j) with h0 | h0
        · rw [h0, List.take_zero] at hne; exact absurd rfl hne
        · exact h0
      obtain ⟨_, hc⟩ := h7 ar hA
      obtain ⟨b2, off2, spot2⟩ := ar
      have hspot2 : spot2 = none := by simpa [Addr.add] using World.cell?_spot (hc 0 (by omega))
      subst hspot2
      refine ⟨b2, off2, rfl, ?_, fun i x hx => ?_⟩
      · refine hlt (.cell b2 off2) (List.mem_append_right _ (List.mem_flatMap.2 ⟨j, List.mem_range.2 (by omega), ?_⟩))
        simp only [Deep.intRowPlaces, hA]
        exact MemPlace.mem_row.2 ⟨0, by omega, by simp⟩
      · have hi : i < L j := by have := (List.getElem?_eq_some_iff.1 hx).1; rw [hlen j hjl] at this; exact this
        rw [← add_plain, hc i (by omega)]
        rw [List.getElem?_take, if_pos hi] at hx
        rw [List.getD_eq_getElem?_getD, hx]; rfl
    · obtain ⟨r, hr, rfl⟩ := List.mem_map.1 hl
      rw [List.mem_range] at hr
      obtain ⟨_, _, _, _, h5, _⟩ := hall r (by omega)
      have h1 := h5 x (List.mem_of_mem_take hx)
      have e1 : IntKind.u64.min = 0 := rfl
      have e2 : IntKind.u64.max = 18446744073709551615 := rfl
      simp only [Lit.wf, Bool.and_eq_true, decide_eq_true_eq] at h1
      omega
theorem arg_ll {W : World} {base : Nat} {v : Value} {d : DataW H} {p : List MemPlace} (hval : Value.okWide Try.prog W .any base 73 v) (h : DataW.Trod enc Try.prog W 0 (fun _ => true) true 73 v d p) (hlt : ∀ x ∈ p, x.block < W.heap.size) :
    ∃ A rows c, v = .slice A rows.length c ∧ Sll W A c rows ∧ (∀ r ∈ rows, Words r) ∧ rows.length ≤ 9223372036854775807 := by
  obtain ⟨a0, len, cap, rfl⟩ := okWide_slice Try.underlying73 hval
  obtain ⟨fuel, hf⟩ := h
  simp only [Value.cells] at hf
  exact open_ll hf hlt
theorem stay_ll {W W' : World} {v : Value} {d : DataW H} {p : List MemPlace} (h : DataW.Trod enc Try.prog W 0 (fun _ => true) true 73 v d p) (hb : Below W.heap.size W W') (hlt : ∀ x ∈ p, x.block < W.heap.size) (sp : Nat → Bool) (hsp : ∀ x ∈ p, sp x.block = true) :
    DataW.Trod enc Try.prog W' 0 sp true 73 v d p :=
  WideElems.Trod_stays laidOut (by kernel_rfl) (of_decide_eq_true (by kernel_rfl)) h (fun x hx => hb.same (hlt x hx)) hsp
end

/-- What a fair matrix is. -/
theorem fair_is {p : Int} {rows : List (List Int)} {most : Nat} (hm : most ≤ 100) (hw : ∀ r ∈ rows, Words r) (h : fairB p rows most = true) : FieldMath.OkP p ∧ Sized rows ∧ (∀ r ∈ rows, El p r) ∧ rows.length ≤ most ∧ ∀ i, (ro rows i).length ≤ most := by
  unfold fairB at h
  rw [Bool.and_eq_true, decide_eq_true_eq] at h
  obtain ⟨h1, h2, h3⟩ := h
  have hr : ∀ r ∈ rows, r.length ≤ most ∧ ∀ x ∈ r, x < p := fun r hr => by
    obtain ⟨i, hi⟩ := List.mem_iff_getElem?.1 hr
    have h4 := h3 i (List.getElem?_eq_some_iff.1 hi).1
    rw [ro_at hi] at h4
    exact of_decide_eq_true h4
  have hl : ∀ i, (ro rows i).length ≤ most := fun i => by
    by_cases h : i < rows.length
    · exact (hr _ (List.mem_of_getElem? (ro_get h))).1
    · unfold ro; rw [List.getElem?_eq_none (by omega)]; exact Nat.zero_le _
  refine ⟨?_, ⟨by omega, fun i => Nat.le_trans (hl i) hm⟩, fun r hr' => el_of (hw r hr') (hr r hr').2, h2, hl⟩
  rcases sup_cases p with h4 | ⟨_, h4⟩
  · rw [h1] at h4; cases h4
  · exact h4
theorem bel_is {p : Int} {xs : List Int} {most : Nat} (hw : Words xs) (h : belB p xs most = true) : El p xs ∧ xs.length ≤ most := by
  have := of_decide_eq_true h
  exact ⟨el_of hw this.2, this.1⟩
end Go.Proofs.Ytelkmbhhaopafaa

/- What the answers of package matrix mean, with no walk in sight: rank, determinant, product, transpose, solutions, inverse on lists of rows. Conditions: a supported prime, words of its field, rectangular matrices where said. -/
namespace Go.Proofs.Ytelkmbhhaopafaa
set_option maxRecDepth 100000
open PolyMath FieldMath MatMath

section
variable {p : Int}
/-! ### Sizes -/
theorem _root_.MatMath.Mat.isRect {N L : Nat} {A : List (List Int)} (h : Mat p N L A) : rect A = true := rect_iff.2 fun i hi => by
  rw [h.rows] at hi
  unfold ncol
  rw [(h.ro hi).1, (h.ro (i := 0) (by omega)).1]
theorem _root_.MatMath.Mat.cols {N L : Nat} {A : List (List Int)} (h : Mat p N L A) (hN : 0 < N) : ncol A = L := (h.ro hN).1
theorem _root_.MatMath.Mat.els {N L : Nat} {A : List (List Int)} (h : Mat p N L A) : ∀ r ∈ A, El p r := fun r hr => (h.row r hr).2
theorem _root_.MatMath.Mat.sized {N L : Nat} {A : List (List Int)} (h : Mat p N L A) (h1 : N ≤ 100) (h2 : L ≤ 100) : Sized A := .of (by rw [h.rows]; exact h1) fun r hr => by rw [(h.row r hr).1]; exact h2
theorem _root_.MatMath.Mat.eqv {N L : Nat} {A B : List (List Int)} (hp : 0 < p) (hA : Mat p N L A) (hB : Mat p N L B) (h : ∀ r c, r < N → c < L → mx A r c % p = mx B r c % p) : A = B :=
  rows_ext (by rw [hA.rows, hB.rows]) fun i hi => by
    rw [hA.rows] at hi
    refine list_ext (by rw [(hA.ro hi).1, (hB.ro hi).1]) fun c => ?_
    by_cases hc : c < L
    · have h1 := h i c hi hc
      have b1 := hA.bd hp i c
      have b2 := hB.bd hp i c
      rw [small b1.1 b1.2, small b2.1 b2.2] at h1
      exact h1
    · rw [co_fin _ c (by rw [(hA.ro hi).1]; omega), co_fin _ c (by rw [(hB.ro hi).1]; omega)]

/-! ### Rank and determinant -/
theorem rnk_rr (hg : GoodI p) {A : List (List Int)} (hr : rect A = true) (hE : ∀ r ∈ A, El p r) : ∃ pv, RR p A.length (ncol A) (mx A) (rnk p A) pv := by
  have h := elim_ok hg (mat_of hr hE) (ncol A)
  obtain ⟨e, h1, _⟩ := h.re
  exact ⟨_, e, _, h1, h.ech⟩
theorem dtm_det (hg : GoodI p) {A : List (List Int)} (hr : squ A = true) (hE : ∀ r ∈ A, El p r) : dtm p A = det A.length (mx A) % p := by
  have hp := hg.two
  obtain ⟨q1, q2, q3⟩ := squ_iff.1 hr
  have h := elim_ok hg (mat_of q3 hE) A.length
  obtain ⟨e, h1, h2⟩ := h.re
  have hd := h.db
  unfold dtm
  rcases det_cases (by omega) h1 h.ech with ⟨hs, h0⟩ | ⟨hs, h0, _⟩
  · rw [if_pos hs, h0]
  · rw [if_neg (by omega)]
    have e1 : (elim p A A.length).d * (e * det A.length (mx A)) % p = det A.length (mx A) % p := by
      rw [← Int.mul_assoc, Int.mul_comm (elim p A A.length).d e, Int.mul_emod, h2, Int.one_mul, mdd]
    rw [← e1, Int.mul_emod, h0, Int.mul_one, mdd]
    exact (small hd.1 hd.2).symm
theorem dtm_bd (hg : GoodI p) {A : List (List Int)} (hr : squ A = true) (hE : ∀ r ∈ A, El p r) : 0 ≤ dtm p A ∧ dtm p A < p := by
  have := hg.two
  rw [dtm_det hg hr hE]; exact md _ _ (by omega)
theorem dtm_zero (hg : GoodI p) {A : List (List Int)} (hr : squ A = true) (hE : ∀ r ∈ A, El p r) : dtm p A = 0 ↔ rnk p A < A.length := by
  have hp := hg.two
  obtain ⟨q1, q2, q3⟩ := squ_iff.1 hr
  have h := elim_ok hg (mat_of q3 hE) A.length
  obtain ⟨e, h1, _⟩ := h.re
  rw [dtm_det hg hr hE]
  unfold rnk
  rw [← q2]
  rcases det_cases (by omega) h1 h.ech with ⟨hs, h0⟩ | ⟨hs, h0, _⟩
  · exact ⟨fun _ => hs, fun _ => h0⟩
  · refine ⟨fun h5 => ?_, fun h5 => by omega⟩
    rw [Int.mul_emod, h5, Int.mul_zero, Int.zero_emod] at h0
    cases h0

/-! ### Products -/
theorem mulM_mx {A : List (List Int)} (B : List (List Int)) {l r c : Nat} (hr : r < A.length) (hl : (ro A r).length = l) (hc : c < ncol B) : mx (mulM p A B) r c = mat l (mx A) (mx B) r c % p := by
  rw [mx_ro, mulM_ro p B hr]
  unfold mulR
  rw [co_map, if_pos hc, hl]; rfl
theorem mulM_sq (hp : 0 < p) {A B : List (List Int)} (ha : squ A = true) (hb : squ B = true) (hn : ncol A = B.length) : squ (mulM p A B) = true := by
  obtain ⟨a1, a2, a3⟩ := squ_iff.1 ha
  obtain ⟨b1, b2, b3⟩ := squ_iff.1 hb
  have hM := mulM_mat (p := p) hp A B
  exact squ_iff.2 ⟨by rw [mulM_len]; exact a1, by rw [mulM_len, hM.cols a1]; omega, hM.isRect⟩
theorem mul_assoc_rows (hp : 0 < p) {A B C : List (List Int)} (ha : rect A = true) (hb : rect B = true) (h1 : ncol A = B.length) (hB : 0 < B.length) : mulM p (mulM p A B) C = mulM p A (mulM p B C) := by
  have hA : 0 < A.length := ncol_pos (by omega)
  have hAB := mulM_mat (p := p) hp A B
  have hBC := mulM_mat (p := p) hp B C
  have hL := mulM_mat (p := p) hp (mulM p A B) C
  have hR := mulM_mat (p := p) hp A (mulM p B C)
  rw [mulM_len] at hL
  rw [hBC.cols hB] at hR
  refine Mat.eqv hp hL hR fun r c hr hc => ?_
  have ra := rect_iff.1 ha r hr
  rw [mulM_mx C (l := ncol B) (by rw [mulM_len]; exact hr) (hAB.ro hr).1 hc, mulM_mx (mulM p B C) (l := B.length) hr (by rw [ra, h1]) (by rw [hBC.cols hB]; exact hc)]
  rw [mdd, mdd]
  have e1 : mat (ncol B) (mx (mulM p A B)) (mx C) r c % p = mat (ncol B) (mat B.length (mx A) (mx B)) (mx C) r c % p := sg_mod _ fun j hj => mm (by rw [mulM_mx B (l := B.length) hr (by rw [ra, h1]) hj, mdd]) rfl
  have e2 : mat B.length (mx A) (mx (mulM p B C)) r c % p = mat B.length (mx A) (mat (ncol B) (mx B) (mx C)) r c % p := sg_mod _ fun j hj => mm rfl (by rw [mulM_mx C (l := ncol B) hj (rect_iff.1 hb j hj) hc, mdd])
  rw [e1, e2, mat_assoc]
theorem rank_mul (hg : GoodI p) {A B : List (List Int)} (ha : rect A = true) (hb : rect B = true) (eA : ∀ r ∈ A, El p r) (eB : ∀ r ∈ B, El p r) (h1 : ncol A = B.length) : rnk p (mulM p A B) ≤ rnk p A ∧ rnk p (mulM p A B) ≤ rnk p B := by
  have hp := hg.two
  have hM := mulM_mat (p := p) (by omega) A B
  obtain ⟨pM, rM⟩ := rnk_rr hg hM.isRect hM.els
  obtain ⟨pA, rA⟩ := rnk_rr hg ha eA
  obtain ⟨pB, rB⟩ := rnk_rr hg hb eB
  by_cases h0 : 0 < A.length
  · rw [mulM_len, hM.cols h0] at rM
    rw [h1] at rA
    have e : ∀ r c, r < A.length → c < ncol B → mx (mulM p A B) r c % p = mat B.length (mx A) (mx B) r c % p := fun r c hr hc => by
      rw [mulM_mx B (l := B.length) hr (by rw [rect_iff.1 ha r hr, h1]) hc, mdd]
    exact ⟨rank_left hg e rM rA, rank_right (by omega) e rM rB⟩
  · have := rM.rows
    rw [mulM_len] at this
    omega
theorem det_mulM (hg : GoodI p) {A B : List (List Int)} (ha : squ A = true) (hb : squ B = true) (eA : ∀ r ∈ A, El p r) (eB : ∀ r ∈ B, El p r) (h1 : ncol A = B.length) : dtm p (mulM p A B) = fmul p (dtm p A) (dtm p B) := by
  have hp := hg.two
  obtain ⟨a1, a2, a3⟩ := squ_iff.1 ha
  obtain ⟨b1, b2, b3⟩ := squ_iff.1 hb
  have hM := mulM_mat (p := p) (by omega) A B
  rw [dtm_det hg (mulM_sq (by omega) ha hb h1) hM.els, dtm_det hg ha eA, dtm_det hg hb eB, mulM_len]
  have hBA : B.length = A.length := by omega
  rw [hBA]
  have e : ∀ r c, r < A.length → c < A.length → mx (mulM p A B) r c % p = mat A.length (mx A) (mx B) r c % p := fun r c hr hc => by
    rw [mulM_mx B (l := A.length) hr (by rw [rect_iff.1 a3 r hr]; omega) (by omega), mdd]
  rw [det_mod _ e, MatMath.det_mul hg]
  unfold fmul
  rw [← Int.mul_emod]

/-! ### The transpose -/
theorem trn_mat {N L : Nat} {A : List (List Int)} (hp : 0 < p) (h : Mat p N L A) (hN : 0 < N) : Mat p L N (trn A) := .of (by rw [trn_len, h.cols hN]) fun i hi => by
  rw [trn_ro (by rw [h.cols hN]; exact hi)]
  refine ⟨by simp [h.rows], fun x hx => ?_⟩
  obtain ⟨j, _, rfl⟩ := List.mem_map.1 hx
  exact h.bd hp j i
theorem trn_mx {A : List (List Int)} {r c : Nat} (hr : r < ncol A) (hc : c < A.length) : mx (trn A) r c = mx A c r := by
  rw [mx_ro, trn_ro hr, co_map, if_pos hc]
theorem trn_rank (hg : GoodI p) {A : List (List Int)} (hr : rect A = true) (hE : ∀ r ∈ A, El p r) (h0 : 0 < A.length) (h1 : 0 < ncol A) : rnk p A = rnk p (trn A) ∧ rnk p A ≤ A.length ∧ rnk p A ≤ ncol A := by
  have hp := hg.two
  have hT := trn_mat (p := p) (by omega) (mat_of hr hE) h0
  obtain ⟨pA, rA⟩ := rnk_rr hg hr hE
  obtain ⟨pT, rT⟩ := rnk_rr hg hT.isRect hT.els
  rw [trn_len, hT.cols h1] at rT
  obtain ⟨d, B, t1, t2⟩ := rT
  obtain ⟨s, pv, hs⟩ := rr_ex hg (ncol A) A.length (tr (mx A))
  have e := rr_left (A := mx (trn A)) (M := tr (mx A)) (by omega) (fun r c hr hc => by rw [trn_mx hr hc]; rfl) t1 t2 hs
  have e2 := rank_tr hg rA hs
  exact ⟨by rw [e2, e.1], rA.rows, rA.cols⟩
theorem trn_squ {A : List (List Int)} (hr : rect A = true) (hE : ∀ r ∈ A, El p r) (hp : 0 < p) (h0 : 0 < A.length) (h1 : 0 < ncol A) : squ (trn A) = squ A := by
  have hT := trn_mat (p := p) hp (mat_of hr hE) h0
  rw [Bool.eq_iff_iff, squ_iff, squ_iff, trn_len, hT.cols h1]
  constructor
  · rintro ⟨_, e, _⟩; exact ⟨h0, e.symm, hr⟩
  · rintro ⟨_, e, _⟩; exact ⟨h1, e.symm, hT.isRect⟩
theorem trn_det (hg : GoodI p) {A : List (List Int)} (hr : squ A = true) (hE : ∀ r ∈ A, El p r) : dtm p (trn A) = dtm p A := by
  have hp := hg.two
  obtain ⟨q1, q2, q3⟩ := squ_iff.1 hr
  have hT := trn_mat (p := p) (by omega) (mat_of q3 hE) q1
  rw [dtm_det hg (by rw [trn_squ q3 hE (by omega) q1 (by omega)]; exact hr) hT.els, dtm_det hg hr hE, trn_len, ← q2]
  rw [det_mod (p := p) A.length (B := tr (mx A)) (fun r c hr hc => by rw [trn_mx (by omega) hc]; rfl)]
  exact det_tr hg _ _

/-! ### Solutions -/
theorem _root_.MatMath.RE.colsOf {m : Nat} {d : Int} {A B : Nat → Nat → Int} (h : RE p m d A B) (f : Nat → Nat) : RE p m d (fun r c => A r (f c)) (fun r c => B r (f c)) := by
  induction h with
  | same h => exact .same fun r c hr => h r (f c) hr
  | @swap A r s hr hs hne =>
    have := RE.swap (p := p) (A := fun r c => A r (f c)) hr hs hne
    refine cast ?_ this
    congr 1 <;> (funext i c; unfold upd; split <;> first | rfl | (split <;> rfl))
  | @scale A r k k' hr hk =>
    have := RE.scale (p := p) (A := fun r c => A r (f c)) hr hk
    refine cast ?_ this
    congr 1 <;> (funext i c; unfold upd; split <;> rfl)
  | @add A r s k hr hs hne =>
    have := RE.add (p := p) (A := fun r c => A r (f c)) (k := k) hr hs hne
    refine cast ?_ this
    congr 1 <;> (funext i c; unfold upd; split <;> rfl)
  | trans _ _ i1 i2 => exact i1.trans i2
theorem _root_.MatMath.Ech.congN {m n s : Nat} {B C : Nat → Nat → Int} {pv : Nat → Nat} (h : Ech p m n B s pv) (e : ∀ r c, r < m → c < n → C r c % p = B r c % p) : Ech p m n C s pv :=
  ⟨h.len, h.lt, h.inc, fun i r hi hr => by rw [e r _ hr (h.lt i hi)]; exact h.unit i r hi hr,
    fun i r c hi hir hr hc => by rw [e r c hr (Nat.lt_trans hc (h.lt i hi))]; exact h.low i r c hi hir hr hc, fun r c h1 h2 h3 => by rw [e r c h2 h3]; exact h.rest r c h1 h2 h3⟩
/-- The elimination of the rows with one word more, as a system. -/
theorem aug_re (hg : GoodI p) {A : List (List Int)} {b : List Int} (hr : rect A = true) (hE : ∀ r ∈ A, El p r) (hb : El p b) :
    ∃ e B, RE p A.length e (aug (ncol A) (mx A) (co b)) B ∧ Ech p A.length (ncol A) B (elim p (augL A b) (ncol A)).pv.length (fun i => (elim p (augL A b) (ncol A)).pv.getD i 0) ∧ (∀ r, B r (ncol A) = mx (elim p (augL A b) (ncol A)).R r (ncol A)) ∧ Mat p A.length (ncol A + 1) (elim p (augL A b) (ncol A)).R := by
  have hp := hg.two
  have hm := augL_mat (p := p) (by omega) (mat_of hr hE) hb
  have h := elim_ok hg hm (ncol A)
  obtain ⟨e, h1, _⟩ := h.re
  refine ⟨1 * e * 1, fun r c => mx (elim p (augL A b) (ncol A)).R r (min c (ncol A)), ?_, h.ech.congN fun r c _ hc => by rw [show min c (ncol A) = c by omega], fun r => by show mx _ r (min (ncol A) (ncol A)) = _; rw [Nat.min_self], h.mat⟩
  have h2 := (RE.same (A := aug (ncol A) (mx A) (co b)) (B := fun r c => mx (augL A b) r (min c (ncol A))) fun r c hr' => ?_).trans (h1.colsOf fun c => min c (ncol A))
  · rw [Int.one_mul]; exact h2
  · congr 1
    have hl : (ro A r).length = ncol A := rect_iff.1 hr r hr'
    unfold aug
    show _ = co (ro (augL A b) r) (min c (ncol A))
    unfold augL
    rw [augK_ro b _ hr', if_pos hr']
    by_cases hc : c < ncol A
    · rw [if_pos hc, show min c (ncol A) = c by omega, mx_ro]
      unfold co; rw [List.getElem?_append_left (by omega)]
    · rw [if_neg hc, show min c (ncol A) = ncol A by omega]
      show co b r = (ro A r ++ [co b r])[ncol A]?.getD 0
      rw [List.getElem?_append_right (by omega), show ncol A - (ro A r).length = 0 by omega]; rfl
theorem solF_co {S : ES} {n : Nat} : ∀ i, (∀ a b, a < b → b < i → S.pv.getD a 0 < S.pv.getD b 0) → (∀ a, a < i → S.pv.getD a 0 < n) → ∀ j, co (solF S n i) j = bsol i (fun a => S.pv.getD a 0) (fun a => mx S.R a n) j
  | 0, _, _, j => by
    show co (List.replicate n 0) j = 0
    unfold co
    rw [List.getElem?_replicate]
    split <;> rfl
  | i + 1, hi, hl, j => by
    have ih := solF_co i (fun a b h1 h2 => hi a b h1 (by omega)) (fun a h => hl a (by omega)) j
    show co ((solF S n i).set (S.pv.getD i 0) (mx S.R i n)) j = sg i (fun a => if S.pv.getD a 0 = j then mx S.R a n else 0) + (if S.pv.getD i 0 = j then mx S.R i n else 0)
    by_cases e : S.pv.getD i 0 = j
    · subst e
      have h0 : bsol i (fun a => S.pv.getD a 0) (fun a => mx S.R a n) (S.pv.getD i 0) = 0 := bsol_else _ fun a ha e => by have := hi a i ha (by omega); omega
      have h0' : sg i (fun a => if S.pv.getD a 0 = S.pv.getD i 0 then mx S.R a n else 0) = 0 := h0
      rw [h0', if_pos rfl, Int.zero_add]
      exact co_at (List.getElem?_set_self (by rw [solF_len]; exact hl i (by omega)))
    · rw [if_neg e, Int.add_zero]
      unfold co
      rw [List.getElem?_set_ne e]
      exact ih
theorem solF_el {S : ES} {n N L : Nat} (hp : 0 < p) (h : Mat p N L S.R) : ∀ i, El p (solF S n i)
  | 0 => fun x hx => by have := List.eq_of_mem_replicate hx; omega
  | i + 1 => fun x hx => by
    rcases List.mem_or_eq_of_mem_set hx with h1 | h1
    · exact solF_el hp h i x h1
    · subst h1; exact h.bd hp i n
/-- m applied to x is b. -/
theorem app_sol {A : List (List Int)} {b x : List Int} (hr : rect A = true) (hb : El p b) (hp : 0 < p) (hn : A.length = b.length) : app p A x = b ↔ Sol p A.length (ncol A) (mx A) (co b) (co x) := by
  constructor
  · intro h r hr'
    have h1 : co (app p A x) r = co b r := by rw [h]
    unfold app at h1
    rw [co_map, if_pos hr'] at h1
    unfold dot at h1
    rw [rect_iff.1 hr r hr'] at h1
    rw [← h1, mdd]; rfl
  · intro h
    refine list_ext (by rw [app_len, hn]) fun r => ?_
    unfold app
    rw [co_map]
    by_cases hr' : r < A.length
    · rw [if_pos hr']
      unfold dot
      rw [rect_iff.1 hr r hr']
      have h1 := h r hr'
      rw [hb.cm hp r] at h1
      exact h1
    · rw [if_neg hr', co_fin b r (by omega)]
theorem slv_some (hg : GoodI p) {A : List (List Int)} {b x : List Int} (hr : rect A = true) (hE : ∀ r ∈ A, El p r) (hb : El p b) (hn : A.length = b.length) (h : slv p A b = some x) : app p A x = b ∧ x.length = ncol A ∧ El p x := by
  have hp := hg.two
  obtain ⟨e, B, h1, h2, h3, h4⟩ := aug_re hg hr hE hb
  unfold slv at h
  split at h
  · cases h
  · rename_i hf
    injection h with h
    have hf' : fnd (elim p (augL A b) (ncol A)).R (elim p (augL A b) (ncol A)).pv.length (ncol A) = none := by
      cases hq : fnd (elim p (augL A b) (ncol A)).R (elim p (augL A b) (ncol A)).pv.length (ncol A) with
      | none => rfl
      | some q => rw [hq] at hf; exact absurd rfl hf
    subst h
    refine ⟨(app_sol hr hb (by omega) hn).2 ?_, solF_len _ _ _, solF_el (by omega) h4 _⟩
    have hs := solve_ok h1 h2 fun r hs hr' => by rw [h3, fnd_none.1 hf' r hs (by rw [h4.rows]; exact hr'), Int.zero_emod]
    intro r hr'
    have := hs r hr'
    rw [← this]
    congr 1
    exact sg_congr _ fun j _ => by
      rw [solF_co _ h2.inc h2.lt]
      congr 1
      exact sg_congr _ fun a _ => by dsimp only; rw [h3]
theorem slv_none (hg : GoodI p) {A : List (List Int)} {b : List Int} (hr : rect A = true) (hE : ∀ r ∈ A, El p r) (hb : El p b) (h : slv p A b = none) :
    (∀ x : Nat → Int, ¬ Sol p A.length (ncol A) (mx A) (co b) x) ∧ ∃ y : Nat → Int, (∀ c, c < ncol A → sg A.length (fun i => mx A i c * y i) % p = 0) ∧ sg A.length (fun i => co b i * y i) % p = 1 := by
  have hp := hg.two
  obtain ⟨e, B, h1, h2, h3, h4⟩ := aug_re hg hr hE hb
  unfold slv at h
  split at h
  · rename_i hf
    obtain ⟨q, hq⟩ := Option.isSome_iff_exists.1 hf
    obtain ⟨f1, f2, _⟩ := fnd_some.1 hq
    rw [h4.rows] at f1
    have hb2 := h4.bd (p := p) (by omega) ((elim p (augL A b) (ncol A)).pv.length + q) (ncol A)
    have h5 : B ((elim p (augL A b) (ncol A)).pv.length + q) (ncol A) % p ≠ 0 := by rw [h3, small hb2.1 hb2.2]; exact f2
    exact ⟨fun x => solve_no h1 h2 (by omega) f1 h5 x, solve_witness hg h1 h2 (by omega) f1 h5⟩
  · cases h
/-- Where there is a solution, Solve finds one. -/
theorem slv_ex (hg : GoodI p) {A : List (List Int)} {b : List Int} (hr : rect A = true) (hE : ∀ r ∈ A, El p r) (hb : El p b) (hn : A.length = b.length) {x : Nat → Int} (hx : Sol p A.length (ncol A) (mx A) (co b) x) : ∃ y, slv p A b = some y ∧ app p A y = b ∧ y.length = ncol A ∧ El p y := by
  cases h : slv p A b with
  | none => exact absurd hx ((slv_none hg hr hE hb h).1 x)
  | some y => exact ⟨y, rfl, slv_some hg hr hE hb hn h⟩
theorem dot_comm {a b : List Int} (h : a.length = b.length) : dot p a b = dot p b a := by
  unfold dot; rw [h]; congr 1
  exact sg_congr _ fun j _ => Int.mul_comm _ _

/-! ### The inverse -/
theorem unitL_co (n i c : Nat) (hc : c < n) : co (unitL n i) c = one i c := by
  unfold unitL one
  by_cases e : i = c
  · subst e; rw [if_pos rfl]; exact co_at (List.getElem?_set_self (by simpa using hc))
  · rw [if_neg e]; unfold co; rw [List.getElem?_set_ne e, List.getElem?_replicate, if_pos hc]; rfl
theorem unitL_fin (n i c : Nat) (hc : ¬ c < n) : co (unitL n i) c = 0 := co_fin _ c (by rw [unitL_len]; omega)
theorem oneL_mat (hp : 1 < p) (n : Nat) : Mat p n n (oneL n) := .of (oneL_len n) fun i hi => by
  have : ro (oneL n) i = unitL n i := ro_map _ hi
  rw [this]; exact ⟨unitL_len n i, unitL_el hp n i⟩
theorem oneL_mx {n r c : Nat} (hr : r < n) (hc : c < n) : mx (oneL n) r c = one r c := by
  have : ro (oneL n) r = unitL n r := ro_map _ hr
  rw [mx_ro, this, unitL_co n r c hc]
theorem agi_re (hg : GoodI p) {A : List (List Int)} (hr : squ A = true) (hE : ∀ r ∈ A, El p r) :
    ∃ e, RE p A.length e (augI A.length (mx A)) (mx (elim p (agiL A) A.length).R) ∧ Ech p A.length A.length (mx (elim p (agiL A) A.length).R) (elim p (agiL A) A.length).pv.length (fun i => (elim p (agiL A) A.length).pv.getD i 0) ∧ Mat p A.length (A.length + A.length) (elim p (agiL A) A.length).R := by
  have hp := hg.two
  obtain ⟨q1, q2, q3⟩ := squ_iff.1 hr
  have hm0 := mat_of q3 hE
  rw [← q2] at hm0
  have h := elim_ok hg (agiL_mat (p := p) (by omega) hm0) A.length
  obtain ⟨e, h1, _⟩ := h.re
  refine ⟨_, (RE.same (A := augI A.length (mx A)) (B := mx (agiL A)) fun r c hr' => ?_).trans h1, h.ech, h.mat⟩
  congr 1
  unfold augI
  rw [mx_ro (agiL A)]
  unfold agiL
  rw [agiK_ro _ hr', if_pos hr']
  have hl := (hm0.ro hr').1
  by_cases hc : c < A.length
  · rw [if_pos hc, mx_ro]
    unfold co; rw [List.getElem?_append_left (by omega)]
  · rw [if_neg hc]
    have e1 : co (ro A r ++ unitL A.length r) c = co (unitL A.length r) (c - A.length) := by
      unfold co; rw [List.getElem?_append_right (by omega), hl]
    rw [e1]
    by_cases h2 : c - A.length < A.length
    · rw [unitL_co _ _ _ h2]
    · rw [unitL_fin _ _ _ h2, one_ne (by omega)]
theorem invM_rank (hg : GoodI p) {A : List (List Int)} (hr : squ A = true) (hE : ∀ r ∈ A, El p r) : (elim p (agiL A) A.length).pv.length = rnk p A := by
  have hp := hg.two
  obtain ⟨q1, q2, q3⟩ := squ_iff.1 hr
  obtain ⟨e, h1, h2, _⟩ := agi_re hg hr hE
  obtain ⟨pA, rA⟩ := rnk_rr hg q3 hE
  rw [← q2] at rA
  exact (rr_left (M := mx A) (by omega) (fun r c _ hc => by unfold augI; rw [if_pos hc]) h1 h2 rA).1
theorem invM_none (hg : GoodI p) {A : List (List Int)} (hr : squ A = true) (hE : ∀ r ∈ A, El p r) (h : invM p A = none) : dtm p A = 0 := by
  unfold invM at h
  split at h
  · rename_i hs
    rw [invM_rank hg hr hE] at hs
    exact (dtm_zero hg hr hE).2 hs
  · cases h
theorem invM_some (hg : GoodI p) {A X : List (List Int)} (hr : squ A = true) (hE : ∀ r ∈ A, El p r) (h : invM p A = some X) : dtm p A ≠ 0 ∧ Mat p A.length A.length X ∧ mulM p X A = oneL A.length ∧ mulM p A X = oneL A.length := by
  have hp := hg.two
  obtain ⟨q1, q2, q3⟩ := squ_iff.1 hr
  obtain ⟨e, h1, h2, h4⟩ := agi_re hg hr hE
  have hrk := invM_rank hg hr hE
  have hm0 := mat_of q3 hE
  rw [← q2] at hm0
  unfold invM at h
  split at h
  · cases h
  · rename_i hs
    injection h with h
    have hX : Mat p A.length A.length X := by
      refine .of (by rw [← h, List.length_map]; exact h4.rows) fun i hi => ?_
      have : ro X i = (ro (elim p (agiL A) A.length).R i).drop A.length := by
        rw [← h]
        exact ro_at (by rw [List.getElem?_map, ro_get (by rw [h4.rows]; exact hi)]; rfl)
      rw [this]
      exact ⟨by rw [List.length_drop, (h4.ro hi).1]; omega, El_drop (h4.ro hi).2 _⟩
    have hmx : ∀ r c, r < A.length → mx X r c = mx (elim p (agiL A) A.length).R r (A.length + c) := fun r c hr' => by
      have : ro X r = (ro (elim p (agiL A) A.length).R r).drop A.length := by
        rw [← h]
        exact ro_at (by rw [List.getElem?_map, ro_get (by rw [h4.rows]; exact hr')]; rfl)
      rw [mx_ro, mx_ro, this, co_drop]
    have hfull : (elim p (agiL A) A.length).pv.length = A.length := by have := h2.len; omega
    rw [hfull] at h2
    have hI := inv_read h1 h2
    have hI2 := inv_comm hg hI
    refine ⟨fun h0 => ?_, hX, ?_, ?_⟩
    · have := (dtm_zero hg hr hE).1 h0; omega
    · have hM := mulM_mat (p := p) (by omega) X A
      rw [hX.rows, ← q2] at hM
      refine Mat.eqv (by omega) hM (oneL_mat (by omega) _) fun r c hr' hc => ?_
      rw [mulM_mx A (l := A.length) (by rw [hX.rows]; exact hr') (hX.ro hr').1 (by omega), mdd, oneL_mx hr' hc, ← hI r c hr' hc]
      exact sg_mod _ fun j _ => mm (by rw [hmx r j hr']) rfl
    · have hM := mulM_mat (p := p) (by omega) A X
      rw [hX.cols q1] at hM
      refine Mat.eqv (by omega) hM (oneL_mat (by omega) _) fun r c hr' hc => ?_
      rw [mulM_mx X (l := A.length) hr' (hm0.ro hr').1 (by rw [hX.cols q1]; exact hc), mdd, oneL_mx hr' hc, ← hI2 r c hr' hc]
      exact sg_mod _ fun j hj => mm rfl (by rw [hmx j c hj])
end
end Go.Proofs.Ytelkmbhhaopafaa
