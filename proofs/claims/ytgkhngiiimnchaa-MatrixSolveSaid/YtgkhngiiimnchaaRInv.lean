/- Inverse of package matrix, by elimination on a clone with the identity behind it. Nothing that lay is changed. Conditions: a supported prime, words of its field, at most 100 rows and columns. -/
import Derived.Test.YtgkhngiiimnchaaRSolve
import Derived.Deep.RegionLaw
namespace Go.Proofs.Ytgkhngiiimnchaa
open Go.RowKit PolyMath FieldMath MatMath

/-- The rows with the identity behind them. -/
def agiK (A : List (List Int)) (k : Nat) : List (List Int) := (List.range A.length).map fun i => if i < k then ro A i ++ unitL A.length i else ro A i
def agiL (A : List (List Int)) : List (List Int) := agiK A A.length
theorem agiK_len (A : List (List Int)) (k : Nat) : (agiK A k).length = A.length := by unfold agiK; simp
theorem agiK_ro {A : List (List Int)} (k : Nat) {i : Nat} (h : i < A.length) : ro (agiK A k) i = if i < k then ro A i ++ unitL A.length i else ro A i := ro_map _ h
theorem agiK_zero (A : List (List Int)) : agiK A 0 = A := rows_ext (agiK_len A 0) fun i hi => by
  rw [agiK_len] at hi
  rw [agiK_ro 0 hi, if_neg (by omega)]
theorem agiK_next {A : List (List Int)} {k : Nat} (hk : k < A.length) : (agiK A k).set k (ro A k ++ unitL A.length k) = agiK A (k + 1) :=
  rows_ext (by rw [List.length_set, agiK_len, agiK_len]) fun i hi => by
    rw [List.length_set, agiK_len] at hi
    rw [ro_set (by rw [agiK_len]; exact hk), agiK_ro _ hi, agiK_ro _ hi]
    by_cases e : i = k
    · subst e; rw [if_pos rfl, if_pos (by omega)]
    · rw [if_neg e]
      by_cases h : i < k
      · rw [if_pos h, if_pos (by omega)]
      · rw [if_neg h, if_neg (by omega)]
theorem unitL_el {p : Int} (hp : 1 < p) (n i : Nat) : El p (unitL n i) := fun x hx => by
  unfold unitL at hx
  rcases List.mem_or_eq_of_mem_set hx with h | h
  · have := List.eq_of_mem_replicate h; omega
  · omega
theorem agiL_mat {p : Int} {N : Nat} {A : List (List Int)} (hp : 1 < p) (hA : Mat p N N A) : Mat p N (N + N) (agiL A) := .of (by unfold agiL; rw [agiK_len]; exact hA.rows) fun i hi => by
  have hi' : i < A.length := by rw [hA.rows]; exact hi
  unfold agiL
  rw [agiK_ro _ hi', if_pos hi']
  refine ⟨by rw [List.length_append, (hA.ro hi).1, unitL_len, hA.rows], fun x hx => ?_⟩
  rcases List.mem_append.1 hx with h | h
  · exact (hA.ro hi).2 x h
  · exact unitL_el hp _ _ x h
/-- What Inverse hands back. -/
def invM (p : Int) (A : List (List Int)) : Option (List (List Int)) :=
  if (elim p (agiL A) A.length).pv.length < A.length then none else some ((elim p (agiL A) A.length).R.map fun r => r.drop A.length)
def InvE (p : Int) (A : List (List Int)) (w : World) (e : Ending) (w' : World) : Prop :=
  (∃ X, invM p A = some X ∧ MatE w e w' X) ∨ (invM p A = none ∧ e = .returned (.tuple #[.slice none 0 0, .int .i64 8]) ∧ Below w.heap.size w w')

theorem inv_bad (p : Int) (A : Option Addr) (c : Nat) (rows : List (List Int)) (hz : Sized rows) (hr : squ rows = false) (w : World) (h : Sll w A c rows) :
    Calls Try.prog 27 #[.int .u64 p, .slice A rows.length c] w fun e w' => e = .returned (.tuple #[.slice none 0 0, .int .i64 1]) ∧ Below w.heap.size w w' := by
  have h1 := square_any A c rows (by have := hz.1; omega) w h
  rw [hr] at h1
  go_enter Try.func27, Try.ntmps27
  go_wp2_with fail
  refine h1.mono ?_; rintro e w1 ⟨rfl, hB⟩
  go_wp2_with fail
  go_ret2
  exact ⟨rfl, hB⟩

theorem unit_at (n i : Nat) (hi : i < n) (hn : n ≤ 1000) (w : World) :
    Calls Try.prog 46 #[.int .i64 n, .int .i64 i] w fun e w' => ∃ b c, e = .returned (.slice (some ⟨b, 0, none⟩) n c) ∧ OwnAt w' w.heap.size b n c (unitL n i) ∧ Below w.heap.size w w' := by
  refine (unit_any n i hi hn w).mono ?_
  rintro e w' ⟨u, rfl, hu, hb⟩
  rw [unitL_len] at hu
  obtain ⟨b, c, rfl, _, _⟩ := World.ownsRow.form hu (by omega)
  exact ⟨b, c, rfl, hu, hb⟩

set_option maxRecDepth 100000 in
set_option maxHeartbeats 4000000 in
theorem inv_any (p : Int) (hp : OkP p) (A : Option Addr) (c : Nat) (rows : List (List Int)) (hz : Sized rows) (hE : ∀ r ∈ rows, El p r) (hr : squ rows = true) (w : World) (h : Sll w A c rows) :
    Calls Try.prog 27 #[.int .u64 p, .slice A rows.length c] w fun e w' => InvE p rows w e w' := by
  obtain ⟨i0, hi0, hz0, hz1, hz2⟩ := info_parts info_u64
  have hbd := hp.bd
  have hN := hz.1
  have h1 := square_any A c rows (by omega) w h
  obtain ⟨q1, q2, q3⟩ := squ_iff.1 hr
  have hmat := mat_of q3 hE
  rw [← q2] at hmat
  rw [hr] at h1
  have hmat2 := agiL_mat (p := p) (by omega) hmat
  have hELF := elim_ok hp.good hmat2 rows.length
  have HS : Hid (invM p rows = if (elim p (agiL rows) rows.length).pv.length < rows.length then none else some ((elim p (agiL rows) rows.length).R.map fun r => r.drop rows.length)) := Lib.hid rfl
  clear hr q2
  go_enter Try.func27, Try.ntmps27
  go_wp2_with fail
  refine h1.mono ?_; rintro e w1 ⟨rfl, hB1⟩
  have h3 := cloneRows_any A c rows w1 (h.next hB1) (by omega) (fun i => by have := hz.2 i; omega)
  clear h1 h
  go_wp2_with fail
  refine h3.mono ?_; rintro e w3 ⟨v, vs, rfl, hM, hB3⟩
  clear h3
  obtain ⟨g, cap, rfl, _, _⟩ := World.ownsRow.form hM.head q1
  have hcapN : rows.length ≤ cap := by have h5 := hM.sll.cap; exact h5
  generalize hS : elim p (agiL rows) rows.length = S at *
  have HSE := Lib.hid hS
  clear hS
  go_wp2_with fail
  go_loopw [22] (fun i wr => ∃ (k : Nat) (us : List Value), k ≤ rows.length ∧ i = .int .i64 k ∧ MP w1.heap.size wr (.slice (some ⟨g, 0, none⟩) rows.length cap) rows.length rows.length us (agiK rows k) ∧ Below w1.heap.size w1 wr) (fun i _ => rows.length - (intOf i).toNat)
  case atStart => exact ⟨0, vs, Nat.zero_le _, rfl, by rw [agiK_zero]; exact hM, hB3⟩
  case round =>
    obtain ⟨k, us, hk, rfl, hMk, hBk⟩ := hrel
    by_cases hlt : k < rows.length
    · have hszk : w1.heap.size ≤ wr.heap.size := hBk.size
      have hgl := World.ownsRow.lt hMk.head g rfl
      obtain ⟨bu, cu, hu, hcell, huo, hbg, hLc⟩ := hMk.hd (L := rows.length) hlt (by rw [agiK_ro k hlt, if_neg (by omega)]; exact (hmat.ro hlt).1) q1
      rw [agiK_ro k hlt, if_neg (by omega)] at huo
      have hun := unit_at rows.length k hlt (by omega) wr.drew
      have hNX := Lib.hid (agiK_next hlt)
      have hkr : (k : Int) < rows.length := by omega
      have hMAH := Lib.hid hMk
      have HUO := Lib.hid huo
      have hbul := huo.lt
      have hlenr := Lib.hid (hmat.ro hlt).1
      clear hMk huo
      go_wp2_with fail
      go_region_law (first
          | (go_simp; go_at_call 46; (with_reducible refine hun.mono ?_); rintro e w5 ⟨b5, c5, rfl, hu5, hb5⟩; have cy5 := (hb5.cell (p := ⟨g, k, none⟩) hgl.2).trans hcell; have HO5 : Hid (OwnAt w5 w1.heap.size bu rows.length cu (ro rows k)) := Lib.hid (own_belowN HUO.out.drew hb5); have hM5 := Lib.hid (hMAH.out.next ((Below.refl _ wr).drew.trans (hb5.mono (Nat.le_refl _)))); have hnews : Hid (∀ j u, ((unitL rows.length k).map (Value.int .u64))[j]? = some u → w5.cell? ((⟨b5, 0, none⟩ : Addr).add j) = some u) := Lib.hid (fun j u hj => World.ownsRow.cells hu5 rfl j u hj); have hsz5 : w1.heap.size ≤ w5.heap.size := Nat.le_trans hszk hb5.size; clear hu5)
          | (refine step_append_lies _ (by rfl) _ _ _ (by rfl) w1.heap.size 22 i0 (.int .u64 0) 1 8 Try.underlying24 hi0 hz0 hz1 hz2 rfl (by decide) _ _ _ (by rfl) HO5.out ⟨b5, 0, none⟩ rows.length c5 ((unitL rows.length k).map (Value.int .u64)) (by rfl) (by simp [unitL_len]) hnews.out (one_cells _) (by omega) (by simp only [maxLen]; omega) (by omega) hsz5 w5.heap.size rfl ?_; intro g6 cap6 w6 hown6 hgrow6 hat6 hlt6; have hhd6 : w6.ownsRow w1.heap.size 24 1 (.slice (some ⟨g, 0, none⟩) rows.length cap) rows.length us := World.ownsRow.kept hM5.out.head hgrow6 (.inr fun e => hM5.out.far hlt hu rfl e); have cy6 := (World.ownsRow.cellAt hhd6 k (by omega)).trans hu; have hfz6 := World.ownsRow.frozenAt hhd6 k; have hgl6 := (World.ownsRow.lt hhd6 g rfl).2; have hown6H := Lib.hid hown6; clear hown6 hhd6))
      all_goals
        go_wp2_with fail
        go_roundw
        case rel => exact ⟨k + 1, us.set k (.slice (some ⟨g6, 0, none⟩) (rows.length + rows.length) cap6), by omega, by simp, by
          rw [← hNX.out]
          exact hM5.out.lay (w' := w6) (i := k) (k' := rows.length) (by omega) hlt (by omega) hgrow6 (fun x e => ⟨hlt, _, hu, e⟩) (by rw [List.length_append, hlenr.out, unitL_len, List.map_append]; exact hown6H.out) (fun x e => by
            have e1 : g6 = x := by simpa [Value.ownBlock] using e
            subst e1
            rcases hat6 with e2 | e2
            · exact .inr e2
            · exact .inl (by omega)), ((hBk.drew.trans (hb5.mono hszk)).grown hgrow6 hsz5 (fun x e => (World.ownsRow.lt HO5.out x e).1)).setCell (p := ⟨g, k, none⟩) hgl.1 _⟩
        case measure => simp [intOf]; omega
    · obtain rfl : k = rows.length := by omega
      have hEl := elimV_any p hp w1.heap.size rows.length (rows.length + rows.length) rows.length (.slice (some ⟨g, 0, none⟩) rows.length cap) us (agiL rows) (by omega) (by omega) (by omega) (fun h => h) hmat2 wr hBk.size hMk
      rw [HSE.out] at hEl
      have hBk2 := Lib.hid hBk
      clear hMk
      go_wp2_with fail
      refine hEl.mono ?_
      rintro e w4 ⟨pvv, vs4, rfl, hM4, hP4, hB4⟩
      obtain ⟨A9, c9, rfl⟩ := row_form hP4
      have hBend : Below w.heap.size w w4 := hB1.trans ((hBk2.out.mono hB1.size).trans (hB4.mono hB1.size))
      clear hEl hP4 hM
      generalize hq : S.pv.length = q at *
      clear hq
      by_cases hqN : q < rows.length
      · have HR : Hid (invM p rows = none) := Lib.hid (by rw [HS.out, if_pos hqN])
        have hqI : (q : Int) < rows.length := by omega
        go_wp2_with fail
        go_ret2
        exact .inr ⟨HR.out, rfl, hBend⟩
      · have HR : Hid (invM p rows = some (S.R.map fun r => r.drop rows.length)) := Lib.hid (by rw [HS.out, if_neg hqN])
        have hqI : ¬ (q : Int) < rows.length := by omega
        obtain ⟨L2, hL2⟩ : ∃ L2, L2 = rows.length + rows.length := ⟨_, rfl⟩
        have hL2a : rows.length < L2 := by omega
        have hL2b := Lib.hid hL2
        clear hL2
        have hgl4 := World.ownsRow.lt hM4.head g rfl
        have hhd := fun (i : Nat) (hi : i < rows.length) => hM4.hd (i := i) (L := L2) hi (by rw [hL2b.out]; exact (hELF.mat.ro hi).1) (by omega)
        have hh4 := Lib.hid hM4.head
        clear HS hM4
        go_wp2_with fail
        go_loopw [50] (fun i wr => ∃ (k : Nat) (us : List Value), k ≤ rows.length ∧ i = .int .i64 k ∧ wr.ownsRow w1.heap.size 24 1 (.slice (some ⟨g, 0, none⟩) rows.length cap) rows.length us ∧ Hid (∀ i, i < k → ∃ b cb, vs4[i]? = some (.slice (some ⟨b, 0, none⟩) L2 cb) ∧ us[i]? = some (.slice (some ⟨b, rows.length, none⟩) (L2 - rows.length) (cb - rows.length))) ∧ Hid (∀ i, k ≤ i → us[i]? = vs4[i]?) ∧ w4.grownBy wr (some g)) (fun i _ => rows.length - (intOf i).toNat)
        case atStart => exact ⟨0, vs4, Nat.zero_le _, rfl, hh4.out, Lib.hid (fun i hi => absurd hi (Nat.not_lt_zero _)), Lib.hid (fun i _ => rfl), World.grownBy.refl _ _⟩
        case round =>
          obtain ⟨k, us, hk, rfl, hO, hI, hJ, hG⟩ := hrel
          by_cases hlt : k < rows.length
          · obtain ⟨b, cb, hv, _, _, _, hcb⟩ := hhd k hlt
            have hcell := (World.ownsRow.cellAt hO k (by omega)).trans ((hJ.out k (Nat.le_refl _)).trans hv)
            have hfz := World.ownsRow.frozenAt hO k
            have hgl5 := (World.ownsRow.lt hO g rfl).2
            have hst := Lib.hid (World.ownsRow.stored hO k (.slice (some ⟨b, rows.length, none⟩) (L2 - rows.length) (cb - rows.length)))
            have hul : us.length = rows.length := by have := hO.1; omega
            have hUL := Lib.hid hul
            have hkr : (k : Int) < rows.length := by omega
            have hL2I : (rows.length : Int) ≤ L2 := by omega
            have hcbI : (L2 : Int) ≤ cb := by omega
            have hcbn : ¬ cb = rows.length := by omega
            clear hO hul
            go_wp2_with fail
            go_roundw
            case rel =>
              refine ⟨k + 1, us.set k (.slice (some ⟨b, rows.length, none⟩) (L2 - rows.length) (cb - rows.length)), by omega, by simp, hst.out.1, Lib.hid fun i hi => ?_, Lib.hid fun i hi => ?_, grown_trans hG hst.out.2⟩
              · by_cases e : i = k
                · subst e
                  exact ⟨b, cb, hv, List.getElem?_set_self (by rw [hUL.out]; exact hlt)⟩
                · obtain ⟨b', cb', h1, h2⟩ := hI.out i (by omega)
                  exact ⟨b', cb', h1, by rw [List.getElem?_set_ne (fun q => e q.symm)]; exact h2⟩
              · rw [List.getElem?_set_ne (by omega)]
                exact hJ.out i (by omega)
            case measure => simp [intOf]; omega
          · obtain rfl : k = rows.length := by omega
            have hXl : (S.R.map fun r => r.drop rows.length).length = rows.length := by rw [List.length_map]; exact hELF.mat.rows
            have hfin : Sll wr (some ⟨g, 0, none⟩) cap (S.R.map fun r => r.drop rows.length) := by
              refine ⟨by rw [hXl]; exact hcapN, (fun e => by cases e), fun ad e _ => ?_⟩
              injection e with e
              subst e
              refine ⟨g, 0, rfl, (World.ownsRow.lt hO g rfl).2, fun j r hr => ?_⟩
              have hj : j < rows.length := by have := (List.getElem?_eq_some_iff.1 hr).1; rw [hXl] at this; exact this
              rw [List.getElem?_map, ro_get (by rw [hELF.mat.rows]; exact hj)] at hr
              injection hr with hr
              subst hr
              obtain ⟨b, cb, h1, h2⟩ := hI.out j hj
              obtain ⟨b', cb', h3, _, h4, h5, _⟩ := hhd j hj
              rw [h1] at h3
              injection h3 with h3
              injection h3 with e1 e2 e3
              injection e1 with e1
              injection e1 with e1
              subst e1 e3
              refine ⟨some ⟨b, rows.length, none⟩, cb - rows.length, ?_, ?_⟩
              · rw [Nat.zero_add, World.ownsRow.cellAt hO j (by omega), h2, List.length_drop, (hELF.mat.ro hj).1, ← hL2b.out]
              · have h6 := h4.sl.drop rows.length
                rw [Nat.zero_add] at h6
                exact h6.grown hG (fun ad e e' => by injection e with e; subst e; injection e' with e'; exact h5 e')
            have hBw : Below w.heap.size w wr := hBend.grown hG hBend.size (fun x e => by injection e with e; have h7 := hgl4.1; have h8 := hB1.size; omega)
            clear hO hI hJ
            go_wp2_with fail
            go_ret2
            exact .inl ⟨_, HR.out, _, _, by rw [hXl]; rfl, hfin, hBw⟩
end Go.Proofs.Ytgkhngiiimnchaa
