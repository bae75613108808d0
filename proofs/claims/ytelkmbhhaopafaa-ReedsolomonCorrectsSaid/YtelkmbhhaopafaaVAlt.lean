/- Decode of altered points: the polynomial and the altered places come back where the bounds allow it; with a smaller bound the error. Conditions: a supported prime, at most thirteen points of a polynomial of at most four coefficients, as said. -/
import Derived.Test.YtelkmbhhaopafaaVMade
namespace Go.Proofs.Ytelkmbhhaopafaa
set_option maxRecDepth 100000
open Go.RowKit PolyMath FieldMath MatMath

section
variable {p : Int} {G : List Int} {n : Nat} {ps : List (Int × Int)} {bs : List Bool}
theorem errs_trim (p : Int) (G : List Int) (ps : List (Int × Int)) : errs p (trim G) ps = errs p G ps := by unfold errs; simp only [pev_trim]
theorem errI_trim (p : Int) (G : List Int) (ps : List (Int × Int)) : errI p (trim G) ps = errI p G ps := by unfold errI; rw [errs_trim]
theorem Alt.dec (h : Alt p G n ps bs) (hG : El p G) (hl : G.length ≤ 4) {wn : Nat} (hc : cnt bs n ≤ wn) : Dec p ps 3 wn (trim G) :=
  ⟨hG.trim, trim_trim _, by rw [trim_length]; have := tn_le G; omega, by rw [errs_trim, h.count]; exact hc⟩
theorem Alt.valid (h : Alt p G n ps bs) {wn : Nat} (hw : 4 + 2 * wn ≤ n) : Valid ps 3 wn := ⟨⟨by omega, by omega, by rw [h.pl]; omega⟩, h.nodup⟩
theorem Alt.err_at (h : Alt p G n ps bs) {i : Nat} {a : Int} (ha : (errI p G ps)[i]? = some a) : ∃ q : Nat, a = q ∧ q < n ∧ bs[q]? = some true := by
  unfold errI at ha
  rw [h.errs, List.getElem?_map] at ha
  obtain ⟨q, hq, rfl⟩ := Option.map_eq_some_iff.1 ha
  have hm := List.mem_filter.1 (List.mem_of_getElem? hq)
  have h1 := List.mem_range.1 hm.1
  refine ⟨q, rfl, h1, ?_⟩
  have h2 := List.getElem?_eq_getElem (l := bs) (i := q) (by rw [h.bl]; exact h1)
  rw [h2] at hm ⊢
  simpa using hm.2
theorem Alt.err_lt (h : Alt p G n ps bs) {i : Nat} {a b : Int} (hi : 1 ≤ i) (ha : (errI p G ps)[i - 1]? = some a) (hb : (errI p G ps)[i]? = some b) : a < b := by
  unfold errI at ha hb
  rw [h.errs, List.getElem?_map] at ha hb
  obtain ⟨x, hx, rfl⟩ := Option.map_eq_some_iff.1 ha
  obtain ⟨y, hy, rfl⟩ := Option.map_eq_some_iff.1 hb
  have hp : ((List.range n).filter fun i => bs[i]?.getD false).Pairwise (· < ·) := List.Pairwise.sublist List.filter_sublist List.pairwise_lt_range
  obtain ⟨h1, e1⟩ := List.getElem?_eq_some_iff.1 hx
  obtain ⟨h2, e2⟩ := List.getElem?_eq_some_iff.1 hy
  have := List.pairwise_iff_getElem.1 hp (i - 1) i h1 h2 (by omega)
  rw [e1, e2] at this
  omega
theorem Alt.len (h : Alt p G n ps bs) : (errI p G ps).length = cnt bs n := by rw [errI_len, h.count]

/-- What comes back. -/
theorem alt_ok (hp : OkP p) (h : Alt p G n ps bs) (hG : El p G) (hl : G.length ≤ 4) (hn : n ≤ 13) {wn : Nat} (hc : cnt bs n ≤ wn) (hw : 4 + 2 * wn ≤ n) (B : Option Addr) (cb : Nat) (w : World) (sp : Pt w B cb ps) :
    Calls Try.prog 11 #[.int .u64 p, .slice B n cb, .int .i64 3, .int .i64 wn] w fun e w' => ∃ A c A2 c2, e = .returned (.tuple #[.slice A (trim G).length c, .slice A2 (cnt bs n) c2, .int .i64 0]) ∧ Sl w' A c (trim G) ∧ Si w' A2 c2 (errI p G ps) ∧ Below w.heap.size w w' := by
  have hbd := hp.bd
  have hx := h.x (by omega)
  have hd := decode_any p hp B cb ps hx h.y 3 wn (by rw [h.pl]; rcases (show n ≤ 12 ∨ n = 13 by omega) with h1 | h1; exact .inl h1; exact .inr ⟨h1, by have := h.sort; rwa [h1] at this⟩) w sp
  rw [h.pl] at hd
  refine hd.mono ?_
  rintro e w' (⟨hv, _⟩ | ⟨_, hno, _⟩ | ⟨_, f, A1, c1, A2, c2, hf, rfl, h1, h2, hb⟩)
  · exact absurd (h.valid hw) hv
  · exact absurd (h.dec hG hl hc) (by simpa using hno (trim G))
  · have e := Dec.unique hp.good h.nodup hx (by rw [h.pl]; omega) (show Dec p ps 3 wn f by simpa using hf) (h.dec hG hl hc)
    subst e
    rw [errI_trim] at h2 ⊢
    rw [h.len]
    exact ⟨A1, c1, A2, c2, rfl, h1, h2, hb⟩
theorem alt_no (hp : OkP p) (h : Alt p G n ps bs) (hG : El p G) (hl : G.length ≤ 4) (hn : n ≤ 13) {wn M : Nat} (hc : cnt bs n ≤ M) (hM : 4 + 2 * M ≤ n) (hw : wn < cnt bs n) (B : Option Addr) (cb : Nat) (w : World) (sp : Pt w B cb ps) :
    Calls Try.prog 11 #[.int .u64 p, .slice B n cb, .int .i64 3, .int .i64 wn] w fun e w' => e = .returned (.tuple #[.slice none 0 0, .slice none 0 0, .int .i64 9]) ∧ Below w.heap.size w w' := by
  have hbd := hp.bd
  have hx := h.x (by omega)
  have hd := decode_any p hp B cb ps hx h.y 3 wn (by rw [h.pl]; rcases (show n ≤ 12 ∨ n = 13 by omega) with h1 | h1; exact .inl h1; exact .inr ⟨h1, by have := h.sort; rwa [h1] at this⟩) w sp
  rw [h.pl] at hd
  refine hd.mono ?_
  rintro e w' (⟨hv, _⟩ | ⟨_, _, rfl, hb⟩ | ⟨_, f, _, _, _, _, hf, _⟩)
  · exact absurd (h.valid (by omega)) hv
  · exact ⟨rfl, hb⟩
  · have hf' : Dec p ps 3 wn f := by simpa using hf
    have hf2 : Dec p ps 3 M f := ⟨hf'.el, hf'.tr, hf'.le, Nat.le_trans hf'.few (by omega)⟩
    have e := Dec.unique hp.good h.nodup hx (by rw [h.pl]; omega) hf2 (h.dec hG hl hc)
    have := hf'.few
    rw [e, errs_trim, h.count] at this
    omega
end
end Go.Proofs.Ytelkmbhhaopafaa
