/- For the laws of layer 6: headers of rows in a slice that grows; products and determinants whatever the arguments; a witness of a system without solution; a combination of rows. Conditions: a supported prime, words of its field, at most 100 rows and columns, where said. -/
import Derived.Test.YtgkhngiiimnchaaRMath
namespace Go.Proofs.Ytgkhngiiimnchaa
open Go.RowKit PolyMath FieldMath MatMath

theorem HeadsOf.next {w w' : World} {vs : List Value} {rows : List (List Int)} (h : HeadsOf w vs rows) (hb : Below w.heap.size w w') : HeadsOf w' vs rows := fun j hj => by
  obtain ⟨A, c, h1, h2⟩ := h j hj
  exact ⟨A, c, h1, h2.next hb⟩
theorem HeadsOf.snoc {w : World} {vs : List Value} {rows : List (List Int)} {A : Option Addr} {c : Nat} {r : List Int} (h : HeadsOf w vs rows) (hl : vs.length = rows.length) (s : Sl w A c r) : HeadsOf w (vs ++ [.slice A r.length c]) (rows ++ [r]) := fun j hj => by
  rw [List.length_append, List.length_singleton] at hj
  by_cases e : j < rows.length
  · obtain ⟨A', c', h1, h2⟩ := h j e
    have : ro (rows ++ [r]) j = ro rows j := by unfold ro; rw [List.getElem?_append_left e]
    rw [this]
    exact ⟨A', c', by rw [List.getElem?_append_left (by omega)]; exact h1, h2⟩
  · obtain rfl : j = rows.length := by omega
    have : ro (rows ++ [r]) rows.length = r := by unfold ro; rw [List.getElem?_append_right (by omega), Nat.sub_self]; rfl
    rw [this]
    exact ⟨A, c, by rw [List.getElem?_append_right (by omega), show rows.length - vs.length = 0 by omega]; rfl, s⟩
/-- Words stay where a row of headers grows. -/
theorem HeadsOf.grown {w w' : World} {base n : Nat} {v : Value} {vs us : List Value} {rows : List (List Int)} (h : ∀ j, j < rows.length → ∃ A' c', vs[j]? = some (.slice A' (ro rows j).length c') ∧ Sl w A' c' (ro rows j) ∧ (ro rows j ≠ [] → ∀ ad, A' = some ad → some ad.block ≠ v.ownBlock))
    (_ho : w.ownsRow base 24 1 v n us) (hg : w.grownBy w' v.ownBlock) : HeadsOf w' vs rows := fun j hj => by
  obtain ⟨A, c, h1, h2, h3⟩ := h j hj
  exact ⟨A, c, h1, h2.grownN hg h3⟩
theorem sll_heads {w : World} {base n : Nat} {v : Value} {vs : List Value} {rows : List (List Int)} (h : w.ownsRow base 24 1 v n vs) (hh : HeadsOf w vs rows) (hl : rows.length = n) : ∃ A c, v = .slice A n c ∧ Sll w A c rows := by
  rcases h.2 with ⟨rfl, h0⟩ | ⟨g, cap, cur, rfl, _, hg, hc, _, h3, h4⟩
  · have : rows = [] := List.eq_nil_of_length_eq_zero (by omega)
    subst this h0
    exact ⟨_, 0, rfl, Sll.nothing w⟩
  · refine ⟨some ⟨g, 0, .none⟩, cap, rfl, by omega, (fun h => by cases h), fun ad e _ => ?_⟩
    injection e with e
    subst e
    refine ⟨g, 0, rfl, heap_lt hg, fun j l hl' => ?_⟩
    have hj := (List.getElem?_eq_some_iff.1 hl').1
    obtain ⟨A, c, h5, h6⟩ := hh j hj
    rw [ro_at hl'] at h5 h6
    refine ⟨A, c, ?_, h6⟩
    rw [cell_of_row w g (0 + j) cur 24 (0, 0) hg, Nat.zero_add]
    rw [← h4, List.getElem?_take, if_pos (by omega), Array.getElem?_toList] at h5
    exact h5
/-- The headers of a matrix of one's own, and where their words lie. -/
theorem MP.heads {base N : Nat} {w : World} {v : Value} {vs : List Value} {rows : List (List Int)} (h : MP base w v N N vs rows) : ∀ j, j < rows.length → ∃ A' c', vs[j]? = some (.slice A' (ro rows j).length c') ∧ Sl w A' c' (ro rows j) ∧ (ro rows j ≠ [] → ∀ ad, A' = some ad → some ad.block ≠ v.ownBlock) := fun j hj => by
  have hj' : j < N := by rw [← h.len]; exact hj
  obtain ⟨u, h1, h2⟩ := h.row j hj'
  obtain ⟨A, c, rfl, h3⟩ := own_form h2
  refine ⟨A, c, h1, h3, fun _ ad e e' => ?_⟩
  subst e
  rcases h2.2 with ⟨h4, _⟩ | ⟨g, cap, cur, h4, _⟩
  · cases h4
  · injection h4 with h4
    injection h4 with h4
    subst h4
    exact h.far hj' h1 rfl e'.symm

/-! ### Whatever the arguments -/
def mulB (a b : List (List Int)) : Bool := rect a && rect b && (ncol a == b.length)
theorem mulB_iff {a b : List (List Int)} : mulB a b = true ↔ rect a = true ∧ rect b = true ∧ ncol a = b.length := by
  unfold mulB; rw [Bool.and_eq_true, Bool.and_eq_true, beq_iff_eq, and_assoc]
theorem mul_bad (p : Int) (A B : Option Addr) (ca cb : Nat) (a b : List (List Int)) (za : Sized a) (zb : Sized b) (h : mulB a b = false) (w : World) (sa : Sll w A ca a) (sb : Sll w B cb b) :
    Calls Try.prog 13 #[.int .u64 p, .slice A a.length ca, .slice B b.length cb] w fun e w' => e = .returned (.tuple #[.slice none 0 0, .int .i64 1]) ∧ Below w.heap.size w w' := by
  cases ha : rect a with
  | false => exact mul_bad1 p A B ca cb a b za zb ha w sa sb
  | true =>
    cases hb : rect b with
    | false => exact mul_bad2 p A B ca cb a b za zb ha hb w sa sb
    | true =>
      refine mul_bad3 p A B ca cb a b za zb ha hb (fun e => ?_) w sa sb
      rw [mulB_iff.2 ⟨ha, hb, e⟩] at h
      cases h
theorem mul_gen (p : Int) (hp : OkP p) (A B : Option Addr) (ca cb : Nat) (a b : List (List Int)) (za : Sized a) (zb : Sized b) (ea : ∀ r ∈ a, El p r) (eb : ∀ r ∈ b, El p r) (w : World) (sa : Sll w A ca a) (sb : Sll w B cb b) :
    Calls Try.prog 13 #[.int .u64 p, .slice A a.length ca, .slice B b.length cb] w fun e w' => ∃ v x, e = .returned (.tuple #[v, .int .i64 x]) ∧ Below w.heap.size w w' := by
  cases h : mulB a b with
  | false => exact (mul_bad p A B ca cb a b za zb h w sa sb).mono fun e w' ⟨h1, h2⟩ => ⟨_, _, h1, h2⟩
  | true =>
    obtain ⟨h1, h2, h3⟩ := mulB_iff.1 h
    exact (mul_ok p hp A B ca cb a b za zb ea eb h1 h2 h3 w sa sb).mono fun e w' ⟨_, _, q1, _, q2⟩ => ⟨_, _, q1, q2⟩
theorem det_gen (p : Int) (hp : OkP p) (A : Option Addr) (c : Nat) (rows : List (List Int)) (hz : Sized rows) (hE : ∀ r ∈ rows, El p r) (w : World) (h : Sll w A c rows) :
    Calls Try.prog 22 #[.int .u64 p, .slice A rows.length c] w fun e w' => ∃ d x, e = .returned (.tuple #[.int .u64 d, .int .i64 x]) ∧ Below w.heap.size w w' := by
  cases hs : squ rows with
  | false => exact (det_bad p A c rows hz hs w h).mono fun e w' ⟨h1, h2⟩ => ⟨_, _, h1, h2⟩
  | true => exact (det_ok p hp A c rows hz hE hs w h).mono fun e w' ⟨h1, h2⟩ => ⟨_, _, h1, h2⟩

/-- The struct's cells. -/
theorem valid_any (p : Int) (A B V : Option Addr) (ca cb cv : Nat) (a b : List (List Int)) (v : List Int) (w : World) (sa : Sll w A ca a) (sb : Sll w B cb b) (sv : Sl w V cv v) :
    Calls Try.prog 11 #[.agg #[.int .u64 p, .slice A a.length ca, .slice B b.length cb, .slice V v.length cv]] w fun e w' => e = .returned (.bool (fairB p a 10 && fairB p b 10 && belB p v 10)) ∧ Below w.heap.size w w' := by
  have o1 := sa.push (.cells #[.int .u64 p, .slice A a.length ca, .slice B b.length cb, .slice V v.length cv] 26)
  have o2 := sb.push (.cells #[.int .u64 p, .slice A a.length ca, .slice B b.length cb, .slice V v.length cv] 26)
  have o3 := sv.push (.cells #[.int .u64 p, .slice A a.length ca, .slice B b.length cb, .slice V v.length cv] 26)
  have k0 : (w.alloc (.cells #[.int .u64 p, .slice A a.length ca, .slice B b.length cb, .slice V v.length cv] 26)).cell? ⟨w.heap.size, 0, none⟩ = some (.int .u64 p) := by go_simp
  have k1 : (w.alloc (.cells #[.int .u64 p, .slice A a.length ca, .slice B b.length cb, .slice V v.length cv] 26)).cell? ⟨w.heap.size, 1, none⟩ = some (.slice A a.length ca) := by go_simp
  have k2 : (w.alloc (.cells #[.int .u64 p, .slice A a.length ca, .slice B b.length cb, .slice V v.length cv] 26)).cell? ⟨w.heap.size, 2, none⟩ = some (.slice B b.length cb) := by go_simp
  have k3 : (w.alloc (.cells #[.int .u64 p, .slice A a.length ca, .slice B b.length cb, .slice V v.length cv] 26)).cell? ⟨w.heap.size, 3, none⟩ = some (.slice V v.length cv) := by go_simp
  have hq : w.heap.size < (w.alloc (.cells #[.int .u64 p, .slice A a.length ca, .slice B b.length cb, .slice V v.length cv] 26)).heap.size := by simp
  have hB := bnew (Below.refl w.heap.size w) (.cells #[.int .u64 p, .slice A a.length ca, .slice B b.length cb, .slice V v.length cv] 26) (Nat.le_refl _)
  have g1 := fun W h => fair_any p A ca 10 a (by omega) W h
  have g2 := fun W h => fair_any p B cb 10 b (by omega) W h
  have g3 := fun W h => below_any p V cv 10 v (by omega) W h
  clear sa sb sv
  go_enter Try.func11, Try.ntmps11
  go_wp2_with fail
  refine (g1 _ o1).mono ?_
  rintro e w1 ⟨rfl, hb⟩
  replace o2 := o2.next hb
  replace o3 := o3.next hb
  replace k0 := (hb.cell (p := ⟨w.heap.size, 0, none⟩) hq).trans k0
  replace k2 := (hb.cell (p := ⟨w.heap.size, 2, none⟩) hq).trans k2
  replace k3 := (hb.cell (p := ⟨w.heap.size, 3, none⟩) hq).trans k3
  replace hq := Nat.lt_of_lt_of_le hq hb.size
  replace hB := hB.trans (hb.mono hB.size)
  clear hb k1
  cases h1 : fairB p a 10 with
  | false =>
    go_wp2_with fail
    go_ret
    exact ⟨by rw [h1]; rfl, hB⟩
  | true =>
    go_wp2_with fail
    refine (g2 _ o2).mono ?_
    rintro e w2 ⟨rfl, hb⟩
    replace o3 := o3.next hb
    replace k0 := (hb.cell (p := ⟨w.heap.size, 0, none⟩) hq).trans k0
    replace k3 := (hb.cell (p := ⟨w.heap.size, 3, none⟩) hq).trans k3
    replace hq := Nat.lt_of_lt_of_le hq hb.size
    replace hB := hB.trans (hb.mono hB.size)
    clear hb k2
    cases h2 : fairB p b 10 with
    | false =>
      go_wp2_with fail
      go_ret
      exact ⟨by rw [h1, h2]; rfl, hB⟩
    | true =>
      go_wp2_with fail
      refine (g3 _ o3).mono ?_
      rintro e w' ⟨rfl, rfl⟩
      go_wp2_with fail
      go_ret
      exact ⟨by rw [h1, h2]; rfl, hB⟩

/-! ### Witness and combination -/
theorem mat_snoc {p : Int} {N L : Nat} {A : List (List Int)} {r : List Int} (h : Mat p N L A) (hr : r.length = L ∧ El p r) : Mat p (N + 1) L (A ++ [r]) :=
  ⟨by rw [List.length_append, h.rows]; rfl, fun x hx => by
    rcases List.mem_append.1 hx with h1 | h1
    · exact h.row x h1
    · rw [List.mem_singleton] at h1; subst h1; exact hr⟩
theorem mx_snoc_old {A : List (List Int)} {r : List Int} {i : Nat} (h : i < A.length) (c : Nat) : mx (A ++ [r]) i c = mx A i c := by
  unfold mx; rw [List.getElem?_append_left h]
theorem mx_snoc_new {A : List (List Int)} {r : List Int} (c : Nat) : mx (A ++ [r]) A.length c = co r c := by
  unfold mx; rw [List.getElem?_append_right (by omega), Nat.sub_self]; rfl
theorem unitL_last (n : Nat) : (List.replicate (n + 1) (0 : Int)).set n 1 = unitL (n + 1) n := rfl
theorem wit_math {p : Int} (hg : GoodI p) {m : List (List Int)} {b : List Int} (hr : rect m = true) (hE : ∀ r ∈ m, El p r) (hb : El p b) (hn : m.length = b.length) (h : slv p m b = none) :
    0 < m.length ∧ Mat p (ncol m + 1) m.length (trn m ++ [b]) ∧ ∃ y, slv p (trn m ++ [b]) (unitL (ncol m + 1) (ncol m)) = some y ∧ y.length = m.length ∧ El p y ∧ dot p y b = 1 := by
  have hp := hg.two
  obtain ⟨_, y0, h1, h2⟩ := slv_none hg hr hE hb h
  have h0 : 0 < m.length := by
    rcases Nat.eq_zero_or_pos m.length with e | e
    · rw [e] at h2
      have : (0 : Int) % p = 1 := h2
      rw [Int.zero_emod] at this
      cases this
    · exact e
  have hT := mat_snoc (trn_mat (p := p) (by omega) (mat_of hr hE) h0) ⟨hn.symm, hb⟩
  have htl := trn_len m
  have hcol : ncol (trn m ++ [b]) = m.length := hT.cols (by omega)
  have hU := unitL_el (p := p) (by omega) (ncol m + 1) (ncol m)
  have hlen : (trn m ++ [b]).length = (unitL (ncol m + 1) (ncol m)).length := by rw [hT.rows, unitL_len]
  have hsol : Sol p (trn m ++ [b]).length (ncol (trn m ++ [b])) (mx (trn m ++ [b])) (co (unitL (ncol m + 1) (ncol m))) y0 := by
    rw [hT.rows, hcol]
    intro r hr'
    rw [unitL_co _ _ _ hr']
    by_cases e : r < ncol m
    · rw [one_ne (by omega), Int.zero_emod, ← h1 r e]
      congr 1
      exact sg_congr _ fun j hj => by rw [mx_snoc_old (by omega), trn_mx e hj]
    · obtain rfl : r = ncol m := by omega
      rw [one_same, small (by omega) (show (1 : Int) < p by omega), ← h2]
      congr 1
      exact sg_congr _ fun j _ => by
        have := mx_snoc_new (A := trn m) (r := b) j
        rw [htl] at this
        rw [this]
  obtain ⟨y, h3, h4, h5, h6⟩ := slv_ex hg hT.isRect hT.els hU hlen hsol
  rw [hcol] at h5
  refine ⟨h0, hT, y, h3, h5, h6, ?_⟩
  have h7 : co (app p (trn m ++ [b]) y) (ncol m) = 1 := by rw [h4, unitL_co _ _ _ (by omega), one_same]
  unfold app at h7
  rw [co_map, if_pos (by rw [hT.rows]; omega)] at h7
  have h8 : ro (trn m ++ [b]) (ncol m) = b := by unfold ro; rw [List.getElem?_append_right (by omega), htl, Nat.sub_self]; rfl
  rw [h8] at h7
  rw [dot_comm (by omega)]; exact h7
theorem span_math {p : Int} (hg : GoodI p) {m : List (List Int)} {v : List Int} (hr : rect m = true) (hE : ∀ r ∈ m, El p r) (_hv : El p v) (_hn : v.length = m.length) (h0 : 0 < m.length) (hc0 : 0 < ncol m) :
    Mat p (m.length + 1) (ncol m) (m ++ [app p (trn m) v]) ∧ rnk p (m ++ [app p (trn m) v]) = rnk p m ∧ ∃ x, slv p (trn m) (app p (trn m) v) = some x ∧ app p (trn m) x = app p (trn m) v ∧ x.length = m.length ∧ El p x := by
  have hp := hg.two
  have hm := mat_of hr hE
  have hT := trn_mat (p := p) (by omega) hm h0
  have hte := app_el (p := p) (by omega) (trn m) v
  have htl : (app p (trn m) v).length = ncol m := by rw [app_len, trn_len]
  have hM := mat_snoc hm ⟨htl, hte⟩
  have hs := (app_sol (x := v) hT.isRect hte (by omega) (by rw [htl, trn_len])).1 rfl
  refine ⟨hM, ?_, ?_⟩
  · obtain ⟨p1, r1⟩ := rnk_rr hg hM.isRect hM.els
    obtain ⟨p2, r2⟩ := rnk_rr hg hr hE
    rw [hM.rows, hM.cols (by omega)] at r1
    have e1 : ∀ x, Nul p (m.length + 1) (ncol m) (mx (m ++ [app p (trn m) v])) x → Nul p m.length (ncol m) (mx m) x := fun x hx r hr' => by
      rw [← hx r (by omega)]
      congr 1
      exact sg_congr _ fun j _ => by rw [mx_snoc_old hr']
    have e2 : ∀ x, Nul p m.length (ncol m) (mx m) x → Nul p (m.length + 1) (ncol m) (mx (m ++ [app p (trn m) v])) x := fun x hx r hr' => by
      by_cases e : r < m.length
      · rw [← hx r e]
        congr 1
        exact sg_congr _ fun j _ => by rw [mx_snoc_old e]
      · obtain rfl : r = m.length := by omega
        have h2 : sg (ncol m) (fun j => mx (m ++ [app p (trn m) v]) m.length j * x j) % p = sg (ncol m) (fun j => mat m.length (fun _ i => co v i) (mx m) 0 j * x j) % p := sg_mod _ fun j hj => mm (by
          rw [mx_snoc_new]
          unfold app dot
          rw [co_map, if_pos (by rw [trn_len]; exact hj), mdd, (hT.ro hj).1]
          unfold mat
          congr 1
          exact sg_congr _ fun i hi => by rw [← mx_ro, trn_mx hj hi, Int.mul_comm]) rfl
        have h3 := nul_mat (p := p) (m := 1) (A := fun _ i => co v i) hx 0 (by omega)
        rw [h2]; exact h3
    have q1 := rank_le_of (by omega) r1 r2 e2
    have q2 := rank_le_of (by omega) r2 r1 e1
    omega
  · obtain ⟨x, h1, h2, h3, h4⟩ := slv_ex hg hT.isRect hT.els hte (by rw [trn_len, htl]) hs
    exact ⟨x, h1, h2, by rw [h3, hT.cols hc0], h4⟩
end Go.Proofs.Ytgkhngiiimnchaa
