/- Submatrix of the reference of layer 7. Nothing that lay is changed. Conditions: at most 100 rows, columns and indices. -/
import Derived.Test.YtjijlefplidhpaaMF
import Derived.Test.YtjijlefplidhpaaME
namespace Go.Proofs.Ytjijlefplidhpaa
set_option maxRecDepth 100000
open Go.RowKit PolyMath FieldMath MatMath

/-- The rows of the submatrix so far. -/
theorem subM_next (m : List (List Int)) {R : List Int} (C : List Int) {k : Nat} {r : Int} (h : R[k]? = some r) : subM m (R.take (k + 1)) C = subM m (R.take k) C ++ [C.map fun j => co (ro m r.toNat) j.toNat] := by
  unfold subM
  rw [List.take_add_one, h, List.map_append]; rfl
theorem row_next {r C : List Int} {k : Nat} {j : Int} (h : C[k]? = some j) : ((C.take (k + 1)).map fun j => co r j.toNat) = ((C.take k).map fun j => co r j.toNat) ++ [co r j.toNat] := by
  rw [List.take_add_one, h, List.map_append]; rfl
theorem subB_row {m : List (List Int)} {R C : List Int} {k : Nat} {r : Int} (h : R[k]? = some r) (hb : ¬ (0 ≤ r ∧ r < (m.length : Int))) : subB m R C = false := by
  cases e : subB m R C with
  | false => rfl
  | true => exact absurd ((subB_iff.1 e).1 r (List.mem_of_getElem? h)) hb
theorem subB_col {m : List (List Int)} {R C : List Int} {k i : Nat} {r j : Int} (h : R[k]? = some r) (h2 : C[i]? = some j) (hb : ¬ (0 ≤ j ∧ j < ((ro m r.toNat).length : Int))) : subB m R C = false := by
  cases e : subB m R C with
  | false => rfl
  | true => exact absurd ((subB_iff.1 e).2 r (List.mem_of_getElem? h) j (List.mem_of_getElem? h2)) hb

/-- What Submatrix hands back. -/
def SubE (m : List (List Int)) (R C : List Int) (w : World) (e : Ending) (w' : World) : Prop :=
  (subB m R C = true ∧ MatE w e w' (subM m R C)) ∨ (subB m R C = false ∧ e = .returned (.tuple #[.slice none 0 0, .int .i64 1]) ∧ Below w.heap.size w w')

set_option maxHeartbeats 4000000 in
theorem rSubm_any (A B D : Option Addr) (c d f : Nat) (m : List (List Int)) (R C : List Int) (_hm : m.length ≤ 100) (_hml : ∀ i, (ro m i).length ≤ 100) (hl : R.length ≤ 100) (hl2 : C.length ≤ 100) (w : World) (h : Sll w A c m) (hi : Si w B d R) (hi2 : Si w D f C) :
    Calls Try.prog 23 #[.slice A m.length c, .slice B R.length d, .slice D C.length f] w fun e w' => SubE m R C w e w' := by
  obtain ⟨i0, hi0, hz0, hz1, hz2⟩ := info_parts info_u64
  obtain ⟨j0, hj0, hy0, hy1, hy2⟩ := info_parts info_sl
  go_enter Try.func23, Try.ntmps23
  go_wp2
  go_loopw [8, 9] (fun v i wr => ∃ (k : Nat) (vs : List Value), k ≤ R.length ∧ i = .int .i64 k ∧ MP w.heap.size wr v k k vs (subM m (R.take k) C) ∧ Hid (∀ q r, q < k → R[q]? = some r → (0 ≤ r ∧ r < (m.length : Int)) ∧ ∀ j ∈ C, 0 ≤ j ∧ j < ((ro m r.toNat).length : Int)) ∧ Below w.heap.size w wr) (fun _ i _ => R.length - (intOf i).toNat)
  case atStart => exact ⟨0, [], Nat.zero_le _, rfl, MP.zero _ _, Lib.hid (fun q r hq => absurd hq (Nat.not_lt_zero _)), Below.refl _ _⟩
  case round =>
    obtain ⟨k, vs, hk, rfl, hM, hG, hB⟩ := hrel
    have hsz := hB.size
    by_cases hlt : k < R.length
    · obtain ⟨b, off, r, hA, hbl, hx, hcx⟩ := hi.at_ hlt
      subst hA
      have hcxw := (hB.cell (p := ⟨b, off + k, none⟩) hbl).trans hcx
      have hkn : (k : Int) < R.length := by omega
      obtain ⟨Ao, co', ho⟩ := row_form hM.head
      subst ho
      by_cases hr0 : r < 0
      · have hF := Lib.hid (subB_row (m := m) (C := C) hx (fun h => by omega))
        clear hx hG hM
        go_wp2
        go_ret2
        exact .inr ⟨hF.out, rfl, hB⟩
      · by_cases hrm : (m.length : Int) ≤ r
        · have hF := Lib.hid (subB_row (m := m) (C := C) hx (fun h => by omega))
          clear hx hG hM
          go_wp2
          go_ret2
          exact .inr ⟨hF.out, rfl, hB⟩
        · obtain ⟨q, rfl⟩ : ∃ q : Nat, r = (q : Int) := ⟨r.toNat, by omega⟩
          obtain ⟨b2, off2, A2, c2, hA2, hbl2, hc2, hs2⟩ := h.rowAt (i := q) (L := (ro m q).length) (by omega) rfl
          subst hA2
          have hqm : (q : Int) < m.length := by omega
          have hNX := subM_next m C hx
          rw [Int.toNat_natCast] at hNX
          have HNX := Lib.hid hNX
          have HX := Lib.hid hx
          have hMH := Lib.hid hM
          clear hx hNX hM
          rename World => W0
          go_wp2
          go_loopw [10, 11] (fun v i wr => ∃ j : Nat, j ≤ C.length ∧ i = .int .i64 j ∧ wr.ownsRow W0.heap.size 22 1 v j (((C.take j).map fun j => co (ro m q) j.toNat).map (Value.int .u64)) ∧ Hid (∀ x ∈ C.take j, 0 ≤ x ∧ x < ((ro m q).length : Int)) ∧ Below W0.heap.size W0 wr) (fun _ i _ => C.length - (intOf i).toNat)
          case atStart => exact ⟨0, Nat.zero_le _, rfl, World.ownsRow_nil _ _ _ _, Lib.hid (fun x hx => by simp at hx), Below.refl _ _⟩
          case round =>
            obtain ⟨j, hj, rfl, hrow, hH, hB2⟩ := hrel
            have hBB := hB.trans (hB2.mono hB.size)
            by_cases hlt2 : j < C.length
            · obtain ⟨b3, off3, t, hA3, hbl3, ht, hct⟩ := hi2.at_ hlt2
              subst hA3
              have hctw := (hBB.cell (p := ⟨b3, off3 + j, none⟩) hbl3).trans hct
              have hcxv := (hBB.cell (p := ⟨b, off + k, none⟩) hbl).trans hcx
              have hc2v := (hBB.cell (p := ⟨b2, off2 + q, none⟩) hbl2).trans hc2
              have hjn : (j : Int) < C.length := by omega
              obtain ⟨Av, cv', hv⟩ := row_form hrow
              subst hv
              by_cases ht0 : t < 0
              · have hF : Hid (subB m R C = false) := Lib.hid (subB_col (m := m) HX.out ht (fun h => by omega))
                clear ht hH hG
                go_wp2
                go_quiet (fail)
                go_wp2
                go_ret2
                refine .inr ⟨hF.out, rfl, ?_⟩
                first | exact below_drewN hBB _ | exact hBB.drew | (simp; exact below_drewN hBB _)
              · by_cases htm : ((ro m q).length : Int) ≤ t
                · have hF : Hid (subB m R C = false) := Lib.hid (subB_col (m := m) HX.out ht (fun h => by rw [Int.toNat_natCast] at h; omega))
                  clear ht hH hG
                  go_wp2
                  go_quiet (fail)
                  go_wp2
                  go_ret2
                  refine .inr ⟨hF.out, rfl, ?_⟩
                  first | exact below_drewN hBB _ | exact hBB.drew | (simp; exact below_drewN hBB _)
                · obtain ⟨z, rfl⟩ : ∃ z : Nat, t = (z : Int) := ⟨t.toNat, by omega⟩
                  obtain ⟨b4, off4, y, hA4, hbl4, hy4, hcy4⟩ := hs2.at_ (k := z) (by omega)
                  subst hA4
                  have hcyv := (hBB.cell (p := ⟨b4, off4 + z, none⟩) hbl4).trans hcy4
                  have hzl : (z : Int) < (ro m q).length := by omega
                  have hRN := row_next (r := ro m q) ht
                  rw [Int.toNat_natCast, co_at hy4] at hRN
                  have HRN := Lib.hid hRN
                  have hH2 : Hid (∀ x ∈ C.take (j + 1), 0 ≤ x ∧ x < ((ro m q).length : Int)) := Lib.hid fun x hx => by
                    rw [List.take_add_one, ht, List.mem_append] at hx
                    rcases hx with hx | hx
                    · exact hH.out x hx
                    · simp at hx; subst hx; omega
                  go_wp2
                  go_quiet (fail)
                  go_wp2
                  obtain ⟨W1, hW1⟩ : ∃ W1, W1 = wr.drewN nq := ⟨_, rfl⟩
                  rw [← hW1]
                  have hbd1 : Below wr.heap.size wr W1 := by rw [hW1]; exact below_drewN (Below.refl _ wr) nq
                  have hB3 := hB2.trans (hbd1.mono hB2.size)
                  have hBB3 := hB.trans (hB3.mono hB.size)
                  have d1 := (hBB3.cell (p := ⟨b, off + k, none⟩) hbl).trans hcx
                  have d2 := (hBB3.cell (p := ⟨b3, off3 + j, none⟩) hbl3).trans hct
                  have d3 := (hBB3.cell (p := ⟨b2, off2 + q, none⟩) hbl2).trans hc2
                  have d4 := (hBB3.cell (p := ⟨b4, off4 + z, none⟩) hbl4).trans hcy4
                  have hrow1 := own_below hrow hbd1
                  have hsz2 := hB3.size
                  have hrowD : Hid (((W1.alloc (.cells #[.int .u64 y] 22)).drew).ownsRow W0.heap.size 22 1 (.slice Av j cv') j (((C.take j).map fun j => co (ro m q) j.toNat).map (Value.int .u64))) := Lib.hid (own_below hrow1 (((Below.refl _ W1).alloc (Nat.le_refl _) _).drew))
                  have hbA := (Below.refl _ W1).alloc (Nat.le_refl _) (.cells #[.int .u64 y] 22)
                  have hBA := hBB3.trans (hbA.mono hBB3.size)
                  have e1 := (hBA.cell (p := ⟨b, off + k, none⟩) hbl).trans hcx
                  have e2 := (hBA.cell (p := ⟨b3, off3 + j, none⟩) hbl3).trans hct
                  have e3 := (hBA.cell (p := ⟨b2, off2 + q, none⟩) hbl2).trans hc2
                  have e4 := (hBA.cell (p := ⟨b4, off4 + z, none⟩) hbl4).trans hcy4
                  clear hW1 hrow hrow1 ht hH hRN hy4 hcxv hctw hc2v hcyv hcxw hBA hbA
                  go_region_held3 (fun w' => w'.cell? ⟨b, off + k, none⟩ = some (.int .i64 (q : Int)) ∧ w'.cell? ⟨b3, off3 + j, none⟩ = some (.int .i64 (z : Int)) ∧ w'.cell? ⟨b2, off2 + q, none⟩ = some (.slice (some ⟨b4, off4, none⟩) (ro m q).length c2) ∧ w'.cell? ⟨b4, off4 + z, none⟩ = some (.int .u64 y))
                    (first | (refine ⟨?_, ?_, ?_, ?_⟩ <;> assumption) | exact ⟨e1, e2, e3, e4⟩)
                    (first | (refine step_append_own _ (by rfl) _ _ _ (by rfl) W0.heap.size 22 i0 (.int .u64 0) 1 8 Try.underlying31 hi0 hz0 hz1 hz2 rfl (by decide) _ _ _ (by rfl) hrowD.out ⟨W1.heap.size, 0, none⟩ 1 1 [.int .u64 y] (by rfl) (by rfl) (cell_one_new _ _ _) (by simp [Value.oneCell']) (by simp only [maxLen]; omega) (by omega) (by first | omega | (simp; done) | (simp; omega)) ?_; intro v8 w8 hown8 hgrow8; have hB8 : Below W0.heap.size W0 w8 := (((hB3.alloc hsz2 _).drew).grown hgrow8 (by first | omega | (simp; done) | (simp; omega)) (fun x e => (World.ownsRow.lt hrowD.out x e).1)); have hB8' := hB.trans (hB8.mono hB.size); have c18 := (hB8'.cell (p := ⟨b, off + k, none⟩) hbl).trans hcx; have c28 := (hB8'.cell (p := ⟨b3, off3 + j, none⟩) hbl3).trans hct; have c38 := (hB8'.cell (p := ⟨b2, off2 + q, none⟩) hbl2).trans hc2; have c48 := (hB8'.cell (p := ⟨b4, off4 + z, none⟩) hbl4).trans hcy4))
                  all_goals
                    go_wp2_with fail
                    go_roundw
                    case rel => exact ⟨j + 1, by omega, by simp, by rw [HRN.out, List.map_append]; exact hown8, hH2, hB8⟩
                    case measure => simp [intOf]; omega
            · obtain rfl : j = C.length := by omega
              rw [List.take_length] at hrow hH
              obtain ⟨A3, c3, hv3⟩ := row_form hrow
              subst hv3
              have hG2 : Hid (∀ q' r, q' < k + 1 → R[q']? = some r → (0 ≤ r ∧ r < (m.length : Int)) ∧ ∀ j ∈ C, 0 ≤ j ∧ j < ((ro m r.toNat).length : Int)) := Lib.hid fun q' r hq hr => by
                by_cases e : q' = k
                · subst e
                  have := HX.out
                  rw [hr] at this
                  injection this with this
                  subst this
                  rw [Int.toNat_natCast]
                  exact ⟨by omega, hH.out⟩
                · exact hG.out q' r (by omega) hr
              have hb4 := hB2.alloc hB2.size (.cells #[.slice A3 C.length c3] 31)
              have hhd := Lib.hid (hMH.out.next hb4).head
              have hu4 := Lib.hid (hrow.alloc (.cells #[.slice A3 C.length c3] 31))
              have hsz4 := Nat.le_trans hsz hb4.size
              have hlen := Lib.hid (show (C.map fun j => co (ro m q) j.toNat).length = C.length from List.length_map _)
              clear hrow hG hH
              go_wp2_with (at_builtin; refine wpList_append_own _ rfl _ _ 25 rfl w.heap.size 31 j0 (.slice none 0 0) 1 24 Try.underlying25 hj0 hy0 hy1 hy2 rfl (by decide) _ _ _ rfl hhd.out ⟨wr.heap.size, 0, none⟩ 1 1 [.slice A3 C.length c3] rfl rfl (cell_one_new _ _ _) (by simp [Value.oneCell']) (by simp only [maxLen]; omega) (by omega) hsz4 ?_; intro v6 w6 hown6 hgrow6 _)
              go_roundw
              case rel => exact ⟨k + 1, _, by omega, by simp, by rw [HNX.out]; exact hMH.out.add hb4 hsz (by rw [hlen.out]; exact hu4.out) hown6 hgrow6, hG2, (hB.trans (hb4.mono hsz)).grown hgrow6 hsz4 (fun x e => (World.ownsRow.lt hhd.out x e).1)⟩
              case measure => simp [intOf]; omega
    · obtain rfl : k = R.length := by omega
      rw [List.take_length] at hM
      have hT : Hid (subB m R C = true) := Lib.hid (subB_iff.2 ⟨fun i hi => by
        obtain ⟨q, hq⟩ := List.mem_iff_getElem?.1 hi
        exact (hG.out q i (List.getElem?_eq_some_iff.1 hq).1 hq).1, fun i hi => by
        obtain ⟨q, hq⟩ := List.mem_iff_getElem?.1 hi
        exact (hG.out q i (List.getElem?_eq_some_iff.1 hq).1 hq).2⟩)
      have hML := Lib.hid (subM_len m R C)
      obtain ⟨A2, c2, hv, hs2⟩ := hM.form
      subst hv
      clear hG
      go_wp2
      go_ret2
      exact .inl ⟨hT.out, _, _, by rw [hML.out]; rfl, hs2, hB⟩
end Go.Proofs.Ytjijlefplidhpaa
