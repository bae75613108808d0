/- cloneRows and unit of package matrix: a matrix of the call's own with the rows of one that came in; a row of the identity. Conditions: at most 1000 rows and columns. -/
import Derived.Test.YtgkhngiiimnchaaRAdd
namespace Go.Proofs.Ytgkhngiiimnchaa
open Go.RowKit PolyMath FieldMath MatMath

/-- The headers that lie in a slice of slices. -/
def HeadsOf (w : World) (vs : List Value) (rows : List (List Int)) : Prop := ∀ j, j < rows.length → ∃ A' c', vs[j]? = some (.slice A' (ro rows j).length c') ∧ Sl w A' c' (ro rows j)
theorem Sll.vals {w : World} {ad : Addr} {c : Nat} {rows : List (List Int)} (h : Sll w (some ad) c rows) : ∃ vs : List Value, vs.length = rows.length ∧ (∀ j u, vs[j]? = some u → w.cell? (ad.add j) = some u) ∧ HeadsOf w vs rows := by
  by_cases h0 : rows = []
  · subst h0
    exact ⟨[], rfl, fun j u h => by simp at h, fun j h => absurd h (Nat.not_lt_zero _)⟩
  · obtain ⟨b, off, rfl, hb, hc⟩ := h.rd ad rfl h0
    have hc' : ∀ j, j < rows.length → ∃ A' c', w.cell? ⟨b, off + j, none⟩ = some (.slice A' (ro rows j).length c') ∧ Sl w A' c' (ro rows j) := fun j hj => hc j _ (ro_get hj)
    have hat : ∀ j, j < rows.length → ((List.range rows.length).map fun j => (w.cell? ⟨b, off + j, none⟩).getD (.slice none 0 0))[j]? = some ((w.cell? ⟨b, off + j, none⟩).getD (.slice none 0 0)) := fun j hj => by
      rw [List.getElem?_map, List.getElem?_range hj]; rfl
    refine ⟨(List.range rows.length).map fun j => (w.cell? ⟨b, off + j, none⟩).getD (.slice none 0 0), by simp, fun j u hu => ?_, fun j hj => ?_⟩
    · have hj : j < rows.length := by have := (List.getElem?_eq_some_iff.1 hu).1; simpa using this
      rw [hat j hj] at hu
      obtain ⟨A', c', h1, _⟩ := hc' j hj
      rw [h1] at hu
      rw [Addr.add_lit, h1]
      exact hu
    · obtain ⟨A', c', h1, h2⟩ := hc' j hj
      exact ⟨A', c', by rw [hat j hj, h1]; rfl, h2⟩
theorem HeadsOf.one {w : World} {vs : List Value} {rows : List (List Int)} (h : HeadsOf w vs rows) (hl : vs.length = rows.length) : ∀ u ∈ vs, u.oneCell' = true := fun u hu => by
  obtain ⟨j, hj⟩ := List.mem_iff_getElem?.1 hu
  obtain ⟨A', c', h1, _⟩ := h j (by have := (List.getElem?_eq_some_iff.1 hj).1; omega)
  rw [hj] at h1
  injection h1 with h1
  subst h1
  rfl
theorem own_litT (w : World) : Hid ((w.alloc (.cells #[] 24)).ownsRow w.heap.size 24 1 (.slice (some ⟨w.heap.size, 0, none⟩) 0 0) 0 []) := Lib.hid
  (by have := World.ownsRow_lit (base := w.heap.size) (e := 24) (size := 1) w #[] 0 (Nat.le_refl _) (by decide) (by simp); simpa using this)

theorem cloneT_any (A : Option Addr) (c : Nat) (rows : List (List Int)) (w : World) (h : Sll w A c rows) (hl : rows.length ≤ 1000) :
    Calls Try.prog 59 #[.slice A rows.length c] w fun e w' => ∃ v vs, e = .returned v ∧ w'.ownsRow w.heap.size 24 1 v rows.length vs ∧ HeadsOf w vs rows ∧ Below w.heap.size w w' := by
  obtain ⟨i0, hi, hz0, hz1, hz2⟩ := info_parts info_sl
  have hlit := own_litT w
  have q22 : ∀ (w : World) (a : Option Addr) (n c n' c' : Nat), (binOp .eql 23 (.slice a n c) (.slice none n' c')).run Try.prog w = .ok (.bool a.isNone) w := fun w a n c n' c' => Lib.run_eql_slice_nil w _ _ a n c n' c' Try.underlying23
  cases A with
  | none =>
    have hc0 := h.nil rfl
    have hcap := h.cap
    have : rows = [] := List.eq_nil_of_length_eq_zero (by omega)
    subst this hc0
    go_enter Try.func59, Try.ntmps59
    go_wp2
    go_ret
    exact ⟨_, [], rfl, World.ownsRow_nil _ _ _ _, fun j hj => absurd hj (Nat.not_lt_zero _), Below.refl _ _⟩
  | some ad =>
    obtain ⟨vs, hvl, hcell, hh⟩ := h.vals
    have hon := Lib.hid (hh.one hvl)
    have hnw : Hid (∀ j u, vs[j]? = some u → (w.alloc (.cells #[] 24)).cell? (ad.add j) = some u) := Lib.hid fun j u hu => (World.cell?_alloc_some _ _ _ (by rw [hcell j u hu]; rfl)).trans (hcell j u hu)
    have hln : Hid (vs.length = rows.length * 1) := Lib.hid (by omega)
    have HH := Lib.hid hh
    clear h hvl hcell hh
    go_enter Try.func59, Try.ntmps59
    go_wp2_with (at_builtin; refine wpList_append_own _ rfl _ _ 23 rfl w.heap.size 24 i0 (.slice none 0 0) 1 24 Try.underlying23 hi hz0 hz1 hz2 rfl (by decide) _ _ _ rfl hlit.out ad rows.length c vs rfl hln.out hnw.out hon.out (by simp only [maxLen]; omega) (by omega) (by simp) ?_; intro v' w1 hown hgrow _)
    go_ret
    refine ⟨v', vs, rfl, ?_, HH.out, ((Below.refl _ w).alloc (Nat.le_refl _) _).grown hgrow (by simp) (fun k e => (hlit.out.lt k e).1)⟩
    simpa using hown

/-- A call hands back a matrix of its own. -/
def MFresh (w : World) (e : Ending) (w' : World) (rows : List (List Int)) : Prop :=
  ∃ v vs, e = .returned v ∧ MP w.heap.size w' v rows.length rows.length vs rows ∧ Below w.heap.size w w'

theorem set_ro (rows : List (List Int)) (i : Nat) : rows.set i (ro rows i) = rows := by
  refine List.ext_getElem? fun j => ?_
  by_cases e : j = i
  · subst e
    by_cases h : j < rows.length
    · rw [List.getElem?_set_self h, ro_get h]
    · rw [List.getElem?_eq_none (by rw [List.length_set]; omega), List.getElem?_eq_none (by omega)]
  · rw [List.getElem?_set_ne (fun q => e q.symm)]

set_option maxHeartbeats 1000000 in
theorem cloneRows_any (A : Option Addr) (c : Nat) (rows : List (List Int)) (w : World) (h : Sll w A c rows) (hl : rows.length ≤ 1000) (hr : ∀ i, (ro rows i).length ≤ 1000) :
    Calls Try.prog 39 #[.slice A rows.length c] w fun e w' => MFresh w e w' rows := by
  have hcl := cloneT_any A c rows w h hl
  go_enter Try.func39, Try.ntmps39
  go_wp2_with fail
  refine hcl.mono ?_
  rintro e w1 ⟨v, vs, rfl, hown, hh, hB⟩
  clear hcl
  have hvl : vs.length = rows.length := by have := hown.1; omega
  by_cases h0 : rows.length = 0
  · have hR : rows = [] := List.eq_nil_of_length_eq_zero h0
    subst hR
    have hM : MP w.heap.size w1 v 0 0 vs [] := ⟨hown, rfl, Nat.le_refl _, fun i hi => absurd hi (Nat.not_lt_zero _), fun i j u x e hi => absurd hi (Nat.not_lt_zero _)⟩
    obtain ⟨A1, c1, rfl, _⟩ := hM.form
    clear hown hh hvl
    go_wp2_with fail
    go_loopw [10] (fun i wr => i = .int .i64 0 ∧ wr = w1) (fun i _ => (intOf i).toNat)
    case atStart => exact ⟨rfl, rfl⟩
    case round =>
      obtain ⟨rfl, rfl⟩ := hrel
      go_wp2
      go_ret
      exact ⟨_, vs, rfl, hM, hB⟩
  · obtain ⟨g, cg, rfl, hbg, hlt⟩ := World.ownsRow.form hown (by omega)
    have hS := h.next hB
    have hVL := Lib.hid hvl
    clear hvl
    go_wp2_with fail
    go_loopw [10] (fun i wr => ∃ (k : Nat) (us : List Value), k ≤ rows.length ∧ i = .int .i64 k ∧ MP w.heap.size wr (.slice (some ⟨g, 0, none⟩) rows.length cg) rows.length k us rows ∧ Hid (∀ j, k ≤ j → us[j]? = vs[j]?) ∧ Below w.heap.size w wr) (fun i _ => rows.length - (intOf i).toNat)
    case atStart => exact ⟨0, vs, Nat.zero_le _, rfl, ⟨hown, rfl, Nat.zero_le _, fun i hi => absurd hi (Nat.not_lt_zero _), fun i j u x e hi => absurd hi (Nat.not_lt_zero _)⟩, Lib.hid (fun j _ => rfl), hB⟩
    case round =>
      obtain ⟨k, us, hk, rfl, hM, hU, hBr⟩ := hrel
      by_cases hlt2 : k < rows.length
      · obtain ⟨A2, c2, hv2, hs2⟩ := hh k hlt2
        have hcell := hM.cell hlt2 ((hU.out k (Nat.le_refl _)).trans hv2)
        have hcl2 := clone_any A2 (ro rows k).length c2 (ro rows k) wr (hs2.next hBr) (Nat.le_refl _) (hr k)
        rw [List.take_length] at hcl2
        have hkn : (k : Int) < rows.length := by omega
        have hfz := World.ownsRow.frozenAt hM.head k
        have hgl := World.ownsRow.lt hM.head g rfl
        have hMH := Lib.hid hM
        clear hM hh
        go_wp2_with (go_at_call 60; refine hcl2.mono ?_; rintro e w3 ⟨u, rfl, hu, hb3⟩; obtain ⟨A3, c3, hu3, _⟩ := own_form hu; subst hu3; have hfz3 : w3.frozen? ⟨g, k, none⟩ = false := (hb3.frozen (p := ⟨g, k, none⟩) hgl.2).trans hfz; have hcell3 := (hb3.cell (p := ⟨g, k, none⟩) hgl.2).trans hcell; have hgl3 : g < w3.heap.size := Nat.lt_of_lt_of_le hgl.2 hb3.size; obtain ⟨w4, hw4⟩ : ∃ w4, w4 = w3.setCell ⟨g, k, none⟩ (.slice A3 (ro rows k).length c3) := ⟨_, rfl⟩; have hM4 : MP w.heap.size w4 (.slice (some ⟨g, 0, none⟩) rows.length cg) rows.length (k + 1) (us.set k (.slice A3 (ro rows k).length c3)) rows := (by
          have hsz : w.heap.size ≤ wr.heap.size := by have := hgl.1; omega
          have hu' : w3.ownsRow w.heap.size 22 1 (.slice A3 (ro rows k).length c3) (ro rows k).length ((ro rows k).map (Value.int .u64)) := ⟨hu.1, hu.2.imp id fun ⟨g', cap, cur, a1, a2, a3⟩ => ⟨g', cap, cur, a1, by omega, a3⟩⟩
          have := hMH.out.lay (w' := w3) (i := k) (k' := k + 1) (u := .slice A3 (ro rows k).length c3) (r := ro rows k) (row := none) (Nat.le_refl _) hlt2 (by omega) (grown_of hb3 none) (fun b e => by cases e) hu' (fun b e => .inl (World.ownsRow.lt hu b e).1)
          rw [set_ro] at this
          rw [hw4]; exact this); have hB4 : Below w.heap.size w w4 := (by rw [hw4]; exact (hBr.trans (hb3.mono (by have := hgl.1; omega))).setCell (p := ⟨g, k, none⟩) hgl.1 _))
        go_roundw
        case rel => exact ⟨k + 1, us.set k (.slice A3 (ro rows k).length c3), by omega, by simp, by rw [← hw4]; exact hM4, Lib.hid (fun j hj => by rw [List.getElem?_set_ne (by omega)]; exact hU.out j (by omega)), by rw [← hw4]; exact hB4⟩
        case measure => simp [intOf]; omega
      · obtain rfl : k = rows.length := by omega
        go_wp2
        go_ret
        exact ⟨_, us, rfl, hM, hBr⟩

/-- A row of the identity. -/
def unitL (n i : Nat) : List Int := (List.replicate n (0 : Int)).set i 1
theorem unitL_len (n i : Nat) : (unitL n i).length = n := by unfold unitL; simp
theorem unit_any (n i : Nat) (hi : i < n) (hn : n ≤ 1000) (w : World) :
    Calls Try.prog 46 #[.int .i64 n, .int .i64 i] w fun e w' => Fresh w e w' (unitL n i) := by
  obtain ⟨i0, hi0, hz0, hz1, hz2⟩ := info_parts info_u64
  have hb8 : Hid (i0.bytes * n ≤ 281474976710656) := Lib.hid (by rw [hz2]; omega)
  have hin : (i : Int) < n := by omega
  go_enter Try.func46, Try.ntmps46
  go_wp2_with (at_make; refine wpList_make_full _ rfl _ _ 24 rfl w.heap.size 22 i0 (.int .u64 0) 1 Try.underlying24 hi0 hz0 hz1 .i64 .i64 _ _ n rfl rfl (by omega) (by omega) hb8.out (by simp only [maxLen]; omega) (Nat.le_refl _) ?_; intro w1 hown1 hgrow1; simp only [Value.cells, toList_madeCells_one, Nat.mul_one] at hown1; have hown2 : OwnAt w1 w.heap.size w.heap.size n n (List.replicate n 0) := (by unfold OwnAt; simpa using hown1); have hfz := hown2.frozen i; have hlt := hown2.lt; have hcell := hown2.cell (i := i) (x := 0) (by rw [List.getElem?_replicate, if_pos hi]); have hH := Lib.hid hown2; clear hown1 hown2)
  go_ret
  refine ⟨_, rfl, ?_, ?_⟩
  · have := hH.out.put i 1
    rw [unitL_len]
    exact this
  · exact ((Below.refl _ w).grown hgrow1 (Nat.le_refl _) (fun k e => by cases e)).setCell (p := ⟨w.heap.size, i, none⟩) (Nat.le_refl _) _
end Go.Proofs.Ytgkhngiiimnchaa
