/- Row of package bivariate: Horner's rule for all columns at once, in memory of the call's own; nothing that lay is changed. Conditions: a supported prime, at most 100 rows over its field, each of at most 1000 words, an element. -/
import Derived.Test.YtkhiiiggmhncbaaGreatEBack
import Derived.Test.YtkhiiiggmhncbaaGreatEMath
import Derived.Test.YtkhiiiggmhncbaaGreatMD
namespace Go.Proofs.YtkhiiiggmhncbaaGreat
set_option maxRecDepth 100000
open Go.RowKit Go.Shelf PolyMath FieldMath MatMath
attribute [local go_sem] Oper.semAt_some

/-- What a round keeps: what lay below n₀, and the box of the slice. -/
def KeepsS (n₀ Ba : Nat) (W W' : World) : Prop := Below n₀ W W' ∧ ∀ v, Boxed W Ba 24 v → Boxed W' Ba 24 v
theorem KeepsS.book {n₀ Ba : Nat} {w : World} (hn : n₀ ≤ w.heap.size) (hBa : Ba < w.heap.size) (W : World) (l : Nat) (o o' : Obj) (hl : w.heap.size ≤ l) (h : W.heap[l]? = some o) (h1 : o.isCells = false) (h2 : o.isWalk = false) : KeepsS n₀ Ba W (W.putObj l o') :=
  ⟨belowK_b hn W l o o' hl h h1 h2, fun _ hv => hv.kept (grownBy_putObj' W l o') (by simp; omega)⟩
theorem KeepsS.trans {n₀ Ba : Nat} {X Y Z : World} (h : KeepsS n₀ Ba X Y) (k : KeepsS n₀ Ba Y Z) : KeepsS n₀ Ba X Z := ⟨h.1.trans k.1, fun v hv => k.2 v (h.2 v hv)⟩
theorem keepingS (V : Nat → HS → Prop) (g off N n₀ Ba : Nat) (hg : 0 < N → g < n₀) : KeepingS (KeepsS n₀ Ba) V g off N Ba where
  refl := fun _ => ⟨Below.refl _ _, fun _ h => h⟩
  trans := fun h k => h.trans k
  box := fun h hv => h.2 _ hv
  reads := fun h hr j hj => by
    obtain ⟨v, hc, hv⟩ := hr j hj
    exact ⟨v, (h.1.cell (p := ⟨g, off + j, none⟩) (hg (by omega))).trans hc, hv⟩
/-- A header of row i. -/
def HdV (w : World) (S : List (List Int)) (i : Nat) (v : HS) : Prop := v.2.1 = (ro S i).length ∧ Sl w v.1 v.2.2 (ro S i)
theorem Sll.spot {w : World} {A : Option Addr} {c : Nat} {S : List (List Int)} (h : Sll w A c S) : ∃ g off, (0 < S.length → A = some ⟨g, off, none⟩ ∧ g < w.heap.size) ∧ ReadsS (HdV w S) g off S.length w := by
  by_cases h0 : 0 < S.length
  · obtain ⟨g, off, A0, c0, hA, hg, _, _⟩ := h.rowAt (i := 0) h0 rfl
    refine ⟨g, off, fun _ => ⟨hA, hg⟩, fun j hj => ?_⟩
    obtain ⟨g', off', A1, c1, hA', _, hc, hs⟩ := h.rowAt (i := j) hj rfl
    rw [hA] at hA'
    cases hA'
    exact ⟨(A1, (ro S j).length, c1), hc, rfl, hs⟩
  · exact ⟨0, 0, fun h => absurd h h0, fun j hj => absurd hj (by omega)⟩

/-- Column j behind the rounds at the given indices. -/
def horL (p x : Int) (S : List (List Int)) (idx : List Nat) (j : Nat) : Int := idx.foldl (fun acc i => fadd p (fmul p acc x) (mx S i j)) 0
theorem horL_next (p x : Int) (S : List (List Int)) (idx : List Nat) (i j : Nat) : horL p x S (idx ++ [i]) j = fadd p (fmul p (horL p x S idx j) x) (mx S i j) := by unfold horL; rw [List.foldl_append]; rfl
theorem horL_bd {p x : Int} (hp : 0 < p) (S : List (List Int)) (idx : List Nat) (j : Nat) : 0 ≤ horL p x S idx j ∧ horL p x S idx j < p := by
  rcases List.eq_nil_or_concat idx with rfl | ⟨ys, y, rfl⟩
  · exact ⟨Int.le_refl _, hp⟩
  · rw [List.concat_eq_append, horL_next]; exact fadd_bd p _ _ hp
theorem horL_all (p x : Int) (S : List (List Int)) (j : Nat) : ∀ k, k ≤ S.length → horL p x S (dn S.length k) j = evf x k (fun i => co (colm S j) (i + (S.length - k))) % p
  | 0, _ => (Int.zero_emod p).symm
  | k + 1, hk => by
    rw [dn_next, horL_next, horL_all p x S j k (by omega), show S.length - k = (S.length - 1 - k) + 1 from by omega, show S.length - (k + 1) = S.length - 1 - k from by omega, ← co_colm]
    exact horner p x (co (colm S j)) k (S.length - 1 - k)
theorem horL_done (p x : Int) (S : List (List Int)) (j : Nat) : horL p x S (dn S.length S.length) j = pev p (colm S j) x := by
  rw [horL_all p x S j S.length (Nat.le_refl _)]; unfold pev; rw [Nat.sub_self, colm_len]; rfl
def rowL (p x : Int) (N : Nat) (S : List (List Int)) (idx : List Nat) : List Int := (List.range N).map (horL p x S idx)
theorem rowL_done (p x : Int) (S : List (List Int)) : rowL p x S.length S (dn S.length S.length) = brow p S x := by
  unfold rowL brow
  exact List.map_congr_left fun j _ => horL_done p x S j

/-- What a round finds. -/
structure MidR (w : World) (p x : Int) (A : Option Addr) (c N g s : Nat) (S : List (List Int)) (V : Nat → HS → Prop) (pre : List (ItS V N)) (W : World) : Prop where
  e1 : Boxed W w.heap.size 22 (.int .u64 p)
  e2 : Boxed W (w.heap.size + 1) 22 (.int .u64 x)
  e3 : Boxed W s 23 (.slice (some ⟨g, 0, none⟩) N N)
  e4 : Boxed W (s + 1) 24 (.slice A N c)
  row : OwnAt W w.heap.size g N N (rowL p x N S (pre.map fun y => y.1.1))
  below : Below w.heap.size w W
theorem MidR.own {w : World} {p x : Int} {A : Option Addr} {c N g s : Nat} {S : List (List Int)} {V : Nat → HS → Prop} {Z : Nat} (hg : w.heap.size + 1 < g) (hs : g < s) (hZ : s + 1 < Z) : OwnFrom Z (MidR w p x A c N g s S V) := by
  intro pre X Y row h hgr hr
  have ne : ∀ k, k < Z → some k ≠ row := fun k hk e => by have := (hr k e.symm).1; omega
  exact {
    e1 := h.e1.kept hgr (ne _ (by omega))
    e2 := h.e2.kept hgr (ne _ (by omega))
    e3 := h.e3.kept hgr (ne _ (by omega))
    e4 := h.e4.kept hgr (ne _ (by omega))
    row := h.row.kept hgr (ne _ (by omega))
    below := h.below.grown hgr (h.below.size) (fun k e => by have := (hr k e).1; omega) }

/-- A call hands back N words in new memory. -/
def RowN (w : World) (e : Ending) (w' : World) (N : Nat) (xs : List Int) : Prop := ∃ g, e = .returned (.slice (some ⟨g, 0, none⟩) N N) ∧ OwnAt w' w.heap.size g N N xs ∧ Below w.heap.size w w'

set_option maxHeartbeats 4000000 in
theorem row_any (p x : Int) (hp : OkP p) (hx : 0 ≤ x ∧ x < p) (A : Option Addr) (c N : Nat) (S : List (List Int)) (hl : S.length = N) (hN : N ≤ 100) (hE : ∀ r ∈ S, El p r) (w : World) (h : Sll w A c S) :
    Calls Tryz.prog 14 #[.int .u64 p, .slice A N c, .int .u64 x] w fun e w' => RowN w e w' N (brow p S x) := by
  have hbd := hp.bd
  obtain ⟨i0, hi, hz0, hz1, hz2⟩ := info_parts info_u64
  obtain ⟨g0, off, hAg, hre⟩ := h.spot
  rw [hl] at hAg hre
  have hEi : ∀ i, El p (ro S i) := fun i => by
    by_cases hi : i < S.length
    · exact hE _ (List.mem_of_getElem? (ro_get hi))
    · unfold ro; rw [List.getElem?_eq_none (by omega)]; exact El.nil p
  have hEnd := Lib.hid (rowL_done p x S)
  have hL := Lib.hid hl
  have hb8 : i0.bytes * N ≤ 281474976710656 := by rw [hz2]; omega
  have hB8 := Lib.hid hb8
  clear hb8 hl h hE
  refine (callsIn_wide (n := 3)).1 ?_
  refine callsIn_of_wp_marks Tryz.func14 rfl trivial ?_ rfl
  simp only [Tryz.ntmps14, List.size_toArray, List.length_cons, List.length_nil, Nat.reduceAdd, Nat.reduceSub, Array.replicate_succ, Array.replicate_zero, List.push_toArray, List.append_toArray, List.nil_append, List.cons_append]
  have m1 := (Boxed.new w 22 (.int .u64 p)).alloc (.cells #[.int .u64 x] 22)
  have m2 := Boxed.new (w.alloc (.cells #[.int .u64 p] 22)) 22 (.int .u64 x)
  simp only [World.size_alloc] at m2
  have hB2 : Below w.heap.size w ((w.alloc (.cells #[.int .u64 p] 22)).alloc (.cells #[.int .u64 x] 22)) := ((Below.refl _ w).alloc (Nat.le_refl _) _).alloc (by simp) _
  have hsz2 : ((w.alloc (.cells #[.int .u64 p] 22)).alloc (.cells #[.int .u64 x] 22)).heap.size = w.heap.size + 1 + 1 := by simp
  have hSZ2 := Lib.hid hsz2
  clear hsz2
  gi_wp2_with (gi_at_make; refine wpListIn_make_full _ rfl _ _ 23 rfl w.heap.size 22 i0 (.int .u64 0) 1 Tryz.underlying23 hi hz0 hz1 .i64 .i64 _ _ N rfl rfl (by omega) (by omega) hB8.out (by simp only [maxLen]; omega) hB2.size ?_; intro w7 hown7 hgrow7)
  have hb7 : Below w.heap.size w w7 := hB2.grown hgrow7 hB2.size (fun k e => by cases e)
  have n1 := m1.kept hgrow7 (by simp)
  have n2 := m2.kept hgrow7 (by simp)
  simp only [Value.cells, toList_madeCells_one, Nat.mul_one] at hown7
  rw [hSZ2.out] at hown7
  have hOq7 : OwnAt w7 w.heap.size (w.heap.size + 1 + 1) N N (rowL p x N S []) := by
    unfold OwnAt
    rw [show rowL p x N S [] = List.replicate N 0 from by unfold rowL horL; exact (List.map_const' ..).trans (by simp)]
    simpa using hown7
  have hq7 := hOq7.lt
  clear hown7 hgrow7 m1 m2
  refine ⟨trivial, ?_⟩
  refine (backS_in _ _ _ _ _).mono ?_
  rintro e w' ⟨rfl, rfl⟩
  gi_wp2_with fail
  have hsz8 : (w7.alloc (.cells #[.slice (some ⟨w.heap.size + 1 + 1, 0, none⟩) N N] 23)).heap.size = w7.heap.size + 1 := World.size_alloc _ _
  have hM0 : MidR w p x A c N (w.heap.size + 1 + 1) w7.heap.size S (HdV w S) [] ((w7.alloc (.cells #[.slice (some ⟨w.heap.size + 1 + 1, 0, none⟩) N N] 23)).alloc (.cells #[.slice A N c] 24)) := {
    e1 := (n1.alloc _).alloc _
    e2 := (n2.alloc _).alloc _
    e3 := (Boxed.new w7 _ _).alloc _
    e4 := by rw [← hsz8]; exact Boxed.new _ _ _
    row := (hOq7.push _).push _
    below := (hb7.alloc hb7.size _).alloc (by have := hb7.size; simp; omega) _ }
  have hsb := hb7.size
  have hrd : ReadsS (HdV w S) g0 off N ((w7.alloc (.cells #[.slice (some ⟨w.heap.size + 1 + 1, 0, none⟩) N N] 23)).alloc (.cells #[.slice A N c] 24)) := (keepingS (HdV w S) g0 off N w.heap.size (w7.heap.size + 1) (fun h => (hAg h).2)).reads (X := w) ⟨hM0.below, fun v hv => absurd hv.lt (by omega)⟩ hre
  have hMI := Lib.hid hM0
  have hRD := Lib.hid hrd
  clear n1 n2 hOq7 hsz8 hM0 hrd hre hb7
  refine wpIn_rangeFunc_ownG rfl (by omega) (gf := 55) (lb := #[.pointer (some ⟨w7.heap.size + 1, 0, none⟩)]) rfl trivial (enters_of Tryz.func55 (by kernel_rfl) rfl)
    (backS_stops (3 - 1) (by omega) (w7.heap.size + 1) g0 off N c A (fun h => (hAg h).1) (by omega) (HdV w S) (KeepsS w.heap.size (w7.heap.size + 1)) (keepingS _ _ _ _ _ _ (fun h => (hAg h).2)) _ (fun h => by have := (hAg h).2; simp; omega) hMI.out.e4 hRD.out) (fun h k => h.trans k) (KeepsS.book (by simp; omega) (by simp)) (Below.refl _ _) (fun _ => rfl)
    (MidR w p x A c N (w.heap.size + 1 + 1) w7.heap.size S (HdV w S))
    (fun _ _ _ => False)
    (MidR.own (by omega) (by omega) (by simp))
    (fun _ _ _ _ _ hs _ _ => hs)
    hMI.out
    (fun y => { tmps := #[.int .u64 p, .slice A N c, .int .u64 x, .pointer (some ⟨w.heap.size, 0, none⟩), undef, .pointer (some ⟨w.heap.size + 1, 0, none⟩), .slice none 0 0, .pointer (some ⟨w7.heap.size, 0, none⟩), undef, .slice y.1.2.1 y.1.2.2.1 y.1.2.2.2, undef, undef, .slice A N c, .int .i64 (N : Int), .slice (some ⟨w.heap.size + 1 + 1, 0, none⟩) N N, .slice A N c, .func (.func 55) #[] #[.pointer (some ⟨w7.heap.size + 1, 0, none⟩)], .int .i64 (y.1.1 : Int), .slice y.1.2.1 y.1.2.2.1 y.1.2.2.2, undef, undef, undef, undef, undef, undef, undef, undef, undef, undef, undef, undef, undef, undef, undef, undef, undef, undef, undef, undef, undef], defers := [] }) ?assign ?body ?done ?stop
  case assign =>
    intro l y W K hK
    gi_wp2
    exact hK
  case stop =>
    rintro D d pre W _ _ h _
    exact h.elim
  case body =>
    rintro l pre ⟨⟨i, A', L, c'⟩, hiN, hL', hs'⟩ W hM _
    change L = (ro S i).length at hL'
    change Sl w A' c' (ro S i) at hs'
    subst hL'
    have hi2 : i < N := hiN
    obtain ⟨idx, hidx⟩ : ∃ idx, pre.map (fun y => y.1.1) = idx := ⟨_, rfl⟩
    have hO := hM.row
    rw [hidx] at hO
    have hnx : Hid ((pre ++ [(⟨(i, A', (ro S i).length, c'), hiN, rfl, hs'⟩ : ItS (HdV w S) N)]).map (fun y => y.1.1) = idx ++ [i]) := Lib.hid (by rw [List.map_append, hidx]; rfl)
    have hMix : Hid (mixL (horL p x S (idx ++ [i])) (horL p x S idx) N 0 = rowL p x N S idx) := Lib.hid (mixL_start _ _ _)
    have hMxd : Hid (mixL (horL p x S (idx ++ [i])) (horL p x S idx) N N = rowL p x N S (idx ++ [i])) := Lib.hid (mixL_done _ _ _)
    have c3 := hM.e3.cell
    have hEr := hEi i
    clear hidx
    gi_wp2
    gi_loopw [21] (fun j wr => ∃ J : Nat, J ≤ N ∧ j = .int .i64 J ∧ OwnAt wr w.heap.size (w.heap.size + 1 + 1) N N (mixL (horL p x S (idx ++ [i])) (horL p x S idx) N J) ∧ W.grownBy wr (some (w.heap.size + 1 + 1))) (fun j _ => N - (intOf j).toNat)
    case atStart => exact ⟨0, Nat.zero_le _, rfl, by rw [hMix.out]; exact hO, World.grownBy.refl _ _⟩
    case round =>
      obtain ⟨J, hJ, rfl, hOJ, hGJ⟩ := hrel
      have hBJ := hM.below.grown hGJ hM.below.size (fun k e => by injection e with e; omega)
      by_cases hlt : J < N
      · have hget := hOJ.cell (show (mixL (horL p x S (idx ++ [i])) (horL p x S idx) N J)[J]? = some (horL p x S idx J) by rw [mixL_get _ _ N J J hlt, if_neg (Nat.lt_irrefl J)])
        have hfz := hOJ.frozen J
        have hS := mixL_set (horL p x S (idx ++ [i])) (horL p x S idx) N J
        have hcb := hEr.co (p := p) (by omega) J
        rw [horL_next] at hS
        rw [mx_ro] at hS
        have hzb := horL_bd (p := p) (x := x) (by omega) S idx J
        have hcf := fun W (h : Below w.heap.size w W) => coef_any A' c' (ro S i) J W (hs'.next h)
        rw [coI_nat] at hcf
        generalize horL p x S idx J = z at hget hS hzb
        generalize co (ro S i) J = y at hS hcb hcf
        have hmb := fmul_bd p z x (by omega)
        have hput := Lib.hid (hOJ.put J (fadd p (fmul p z x) y))
        have hgr2 := Lib.hid (hOJ.grow J (fadd p (fmul p z x) y))
        have hSS := Lib.hid hS
        have g1 := (hM.e1.kept hGJ (by simp; omega)).cell
        have g2 := (hM.e2.kept hGJ (by simp)).cell
        have g3 := (hM.e3.kept hGJ (by simp; omega)).cell
        have wj : (J : Int) < N := by omega
        clear hS
        gi_wp2
        refine wpIn_tail 12 (by kernel_rfl) (by kernel_rfl) (by kernel_rfl) ?_
        simp only [List.take_succ_cons, List.take_zero, List.drop_succ_cons, List.drop_zero]
        repeat still_step
        still_call (still_of (mul_any _ _ _ hp hzb.1 hzb.2 hx.1 hx.2 _))
        repeat still_step
        still_call (still_of (hcf _ hBJ.drew))
        repeat still_step
        still_call (still_of (add_any _ _ _ hp hmb.1 hmb.2 hcb.1 hcb.2 _))
        repeat still_step
        refine wpStill_nil ?_
        go_wp2
        gi_wp2
        go_roundw
        case rel => exact ⟨J + 1, by omega, by simp, by rw [← hSS.out]; exact hput.out.drew, grown_drew (grown_trans hGJ hgr2.out)⟩
        case measure => simp [intOf]; omega
      · obtain rfl : J = N := by omega
        gi_wp2
        exact ⟨KeepsFrom.of_grownBy hGJ (fun j e => by injection e with e; simp; omega),
          ⟨(Below.refl _ W).grown hGJ hM.below.size (fun k e => by injection e with e; omega), fun v hv => hv.kept hGJ (by simp; omega)⟩,
          { e1 := hM.e1.kept hGJ (by simp; omega)
            e2 := hM.e2.kept hGJ (by simp)
            e3 := hM.e3.kept hGJ (by simp; omega)
            e4 := hM.e4.kept hGJ (by simp; omega)
            row := by rw [hnx.out, ← hMxd.out]; exact hOJ
            below := hBJ }⟩
  case done =>
    rintro D ys W hD hS hM hK
    have hrow := hM.row
    rw [hS, show rowL p x N S (dn N N) = brow p S x from by rw [← hL.out]; exact hEnd.out] at hrow
    have c3 := hM.e3.cell
    have hBW := hM.below
    gi_wp2
    refine ⟨by simp, .inl ⟨_, _, rfl, run_takeDeferred hK, ?_⟩⟩
    have hDb : w7.heap.size + 1 + 1 ≤ D := by simpa using hD
    exact ⟨_, results_tmp rfl _ _ _, _, rfl, hrow.kept (grownBy_putObj' W D _) (by simp; omega), hBW.trans (belowK_b (w := w) (Nat.le_refl _) W D _ _ (by omega) hK rfl rfl)⟩
end Go.Proofs.YtkhiiiggmhncbaaGreat
