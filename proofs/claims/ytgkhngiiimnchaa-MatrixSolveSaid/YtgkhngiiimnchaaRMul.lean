/- Mul and Apply of package matrix. Nothing that lay is changed. Conditions: a supported prime, words of its field, at most 100 rows and columns. -/
import Derived.Test.YtgkhngiiimnchaaRDet
namespace Go.Proofs.Ytgkhngiiimnchaa
open Go.RowKit PolyMath FieldMath MatMath

theorem mixO_all (f : Nat → Int) (xs : List Int) : mixO f 0 xs.length xs = (List.range xs.length).map f := map_ext fun c hc => by rw [if_pos ⟨Nat.zero_le _, by omega⟩]
theorem mixO_get0 (f : Nat → Int) {n : Nat} (xs : List Int) (h : n < xs.length) : ∃ y, (mixO f 0 n xs)[n]? = some y := ⟨_, mixO_get f 0 n xs h⟩
theorem mixO_set0 (f : Nat → Int) (n : Nat) (xs : List Int) : (mixO f 0 n xs).set n (f n) = mixO f 0 (n + 1) xs := by have := mixO_set f 0 n xs; rwa [Nat.zero_add] at this

/-- A matrix applied to a vector. -/
def app (p : Int) (rows : List (List Int)) (v : List Int) : List Int := (List.range rows.length).map fun i => dot p (ro rows i) v
theorem app_len (p : Int) (rows : List (List Int)) (v : List Int) : (app p rows v).length = rows.length := by unfold app; simp
theorem app_el {p : Int} (hp : 0 < p) (rows : List (List Int)) (v : List Int) : El p (app p rows v) := fun x hx => by
  unfold app at hx
  obtain ⟨i, _, rfl⟩ := List.mem_map.1 hx
  exact dot_bd hp _ _

theorem apply_bad1 (p : Int) (A B : Option Addr) (c cv : Nat) (rows : List (List Int)) (v : List Int) (hz : Sized rows) (hr : rect rows = false) (w : World) (h : Sll w A c rows) :
    Calls Try.prog 15 #[.int .u64 p, .slice A rows.length c, .slice B v.length cv] w fun e w' => e = .returned (.tuple #[.slice none 0 0, .int .i64 1]) ∧ Below w.heap.size w w' := by
  have h1 := rectangular_any A c rows (by have := hz.1; omega) w h
  rw [hr] at h1
  go_enter Try.func15, Try.ntmps15
  go_wp2_with fail
  refine h1.mono ?_; rintro e w1 ⟨rfl, hB⟩
  go_wp2_with fail
  go_ret2
  exact ⟨rfl, hB⟩
theorem apply_bad2 (p : Int) (A B : Option Addr) (c cv : Nat) (rows : List (List Int)) (v : List Int) (hz : Sized rows) (hr : rect rows = true) (hn : ncol rows ≠ v.length) (w : World) (h : Sll w A c rows) :
    Calls Try.prog 15 #[.int .u64 p, .slice A rows.length c, .slice B v.length cv] w fun e w' => e = .returned (.tuple #[.slice none 0 0, .int .i64 1]) ∧ Below w.heap.size w w' := by
  have h1 := rectangular_any A c rows (by have := hz.1; omega) w h
  rw [hr] at h1
  have hn' : ((ncol rows : Int) != v.length) = true := bne_iff_ne.2 (by omega)
  go_enter Try.func15, Try.ntmps15
  go_wp2_with fail
  refine h1.mono ?_; rintro e w1 ⟨rfl, hB⟩
  have h2 := columns_any A c rows w1 (h.next hB)
  go_wp2_with fail
  refine h2.mono ?_; rintro e w' ⟨rfl, rfl⟩
  go_wp2_with fail
  go_ret2
  exact ⟨rfl, hB⟩

/-- A call hands back words and no error. -/
def RowE (w : World) (e : Ending) (w' : World) (ys : List Int) : Prop :=
  ∃ A c, e = .returned (.tuple #[.slice A ys.length c, .int .i64 0]) ∧ Sl w' A c ys ∧ Below w.heap.size w w'
/-- .. a matrix and no error. -/
def MatE (w : World) (e : Ending) (w' : World) (ys : List (List Int)) : Prop :=
  ∃ A c, e = .returned (.tuple #[.slice A ys.length c, .int .i64 0]) ∧ Sll w' A c ys ∧ Below w.heap.size w w'

set_option maxHeartbeats 1000000 in
theorem apply_ok (p : Int) (hp : OkP p) (A B : Option Addr) (c cv : Nat) (rows : List (List Int)) (v : List Int) (hz : Sized rows) (hE : ∀ r ∈ rows, El p r) (hv : El p v) (hr : rect rows = true) (hn : ncol rows = v.length) (w : World) (h : Sll w A c rows) (sv : Sl w B cv v) :
    Calls Try.prog 15 #[.int .u64 p, .slice A rows.length c, .slice B v.length cv] w fun e w' => RowE w e w' (app p rows v) := by
  obtain ⟨i0, hi0, hz0, hz1, hz2⟩ := info_parts info_u64
  have hbd := hp.bd
  have hN := hz.1
  have h1 := rectangular_any A c rows (by omega) w h
  have hmat := mat_of hr hE
  rw [hr] at h1
  have hvl : v.length ≤ 100 := by rw [← hn]; exact hz.2 0
  have hn' : ((ncol rows : Int) != v.length) = false := by rw [hn]; simp
  have hb8 : Hid (i0.bytes * rows.length ≤ 281474976710656) := Lib.hid (by rw [hz2]; omega)
  have HN := Lib.hid hn
  clear hr hn
  go_enter Try.func15, Try.ntmps15
  go_wp2_with fail
  refine h1.mono ?_; rintro e w1 ⟨rfl, hB1⟩
  have hs1 := h.next hB1
  have sv1 := sv.next hB1
  have h2 := columns_any A c rows w1 hs1
  go_wp2_with fail
  refine h2.mono ?_; rintro e w' ⟨rfl, rfl⟩
  clear h1 h2 h sv
  go_wp2_with (at_make; refine wpList_make_full _ rfl _ _ 24 rfl w1.heap.size 22 i0 (.int .u64 0) 1 Try.underlying24 hi0 hz0 hz1 .i64 .i64 _ _ rows.length rfl rfl (by omega) (by omega) hb8.out (by simp only [maxLen]; omega) (Nat.le_refl _) ?_; intro w2 hown1 hgrow1; simp only [Value.cells, toList_madeCells_one, Nat.mul_one] at hown1; have hown2 : OwnAt w2 w1.heap.size w1.heap.size rows.length rows.length (List.replicate rows.length 0) := (by unfold OwnAt; simpa using hown1); have hb2 : Below w1.heap.size w1 w2 := (Below.refl _ w1).grown hgrow1 (Nat.le_refl _) (fun k e => by cases e); clear hown1 hgrow1)
  go_loopw [26] (fun i wr => ∃ k : Nat, k ≤ rows.length ∧ i = .int .i64 k ∧ OwnAt wr w1.heap.size w1.heap.size rows.length rows.length (mixO (fun i => dot p (ro rows i) v) 0 k (List.replicate rows.length 0)) ∧ Below w1.heap.size w1 wr) (fun i _ => rows.length - (intOf i).toNat)
  case atStart => exact ⟨0, Nat.zero_le _, rfl, by rw [mixO_zero]; exact hown2, hb2⟩
  case round =>
    obtain ⟨k, hk, rfl, hO, hBr⟩ := hrel
    by_cases hlt : k < rows.length
    · obtain ⟨b, off, A', c', hA, hbw, hc, hs⟩ := (hs1.next hBr).rowAt (i := k) (L := v.length) hlt (by rw [← HN.out]; exact (hmat.ro hlt).1)
      subst hA
      have hin := inner_any p hp A' B c' cv v.length (ro rows k) v (hmat.ro hlt).2 hv (by rw [← HN.out]; exact (hmat.ro hlt).1) rfl (by omega) wr hs (sv1.next hBr)
      obtain ⟨y, hy⟩ := mixO_get0 (fun i => dot p (ro rows i) v) (n := k) (List.replicate rows.length 0) (by simpa using hlt)
      have hcell := hO.cell hy
      have hfz := hO.frozen k
      have hlt2 := hO.lt
      have hST := Lib.hid (show OwnAt (wr.setCell ⟨w1.heap.size, k, none⟩ (.int .u64 (dot p (ro rows k) v))) w1.heap.size w1.heap.size rows.length rows.length (mixO (fun i => dot p (ro rows i) v) 0 (k + 1) (List.replicate rows.length 0)) by rw [← mixO_set0]; exact hO.put _ _)
      have hBS := Lib.hid (hBr.setCell (p := ⟨w1.heap.size, k, none⟩) (Nat.le_refl _) (.int .u64 (dot p (ro rows k) v)))
      have hkn : (k : Int) < rows.length := by omega
      clear hO hy hs
      generalize dot p (ro rows k) v = D at *
      go_wp2_with (go_at_call 36; refine hin.mono ?_; rintro e w' ⟨rfl, rfl⟩)
      go_roundw
      case rel => exact ⟨k + 1, by omega, by simp, hST.out, hBS.out⟩
      case measure => simp [intOf]; omega
    · obtain rfl : k = rows.length := by omega
      have hR : Hid (mixO (fun i => dot p (ro rows i) v) 0 rows.length (List.replicate rows.length 0) = app p rows v) := Lib.hid (by
        have := mixO_all (fun i => dot p (ro rows i) v) (List.replicate rows.length 0)
        rw [List.length_replicate] at this
        exact this)
      go_wp2
      go_ret2
      rw [hR.out] at hO
      exact ⟨_, _, by rw [app_len]; rfl, hO.sl, hB1.trans (hBr.mono hB1.size)⟩

/-- The product. -/
def mulM (p : Int) (A B : List (List Int)) : List (List Int) := (List.range A.length).map fun i => (List.range (ncol B)).map fun c => sg (ro A i).length (fun j => co (ro A i) j * mx B j c) % p
/-- A row of it, made of the first j rows of B. -/
def mulR (p : Int) (a : List Int) (B : List (List Int)) (n j : Nat) : List Int := (List.range n).map fun c => sg j (fun t => co a t * mx B t c) % p
theorem mulM_len (p : Int) (A B : List (List Int)) : (mulM p A B).length = A.length := by unfold mulM; simp
theorem mulM_ro (p : Int) {A : List (List Int)} (B : List (List Int)) {i : Nat} (h : i < A.length) : ro (mulM p A B) i = mulR p (ro A i) B (ncol B) (ro A i).length := ro_map _ h
theorem mulR_len (p : Int) (a : List Int) (B : List (List Int)) (n j : Nat) : (mulR p a B n j).length = n := by unfold mulR; simp
theorem mulR_el {p : Int} (hp : 0 < p) (a : List Int) (B : List (List Int)) (n j : Nat) : El p (mulR p a B n j) := fun x hx => by
  unfold mulR at hx
  obtain ⟨i, _, rfl⟩ := List.mem_map.1 hx
  exact md _ _ hp
theorem mulR_zero (p : Int) (a : List Int) (B : List (List Int)) (n : Nat) : mulR p a B n 0 = List.replicate n 0 := by
  rw [← map_zero p]; rfl
theorem mulR_next (p : Int) (a : List Int) {B : List (List Int)} {n j : Nat} : mixO (addF p (co a j) (mulR p a B n j) (ro B j) 0) 0 n (mulR p a B n j) = mulR p a B n (j + 1) := by
  have hl := mulR_len p a B n j
  have h1 := mixO_all (addF p (co a j) (mulR p a B n j) (ro B j) 0) (mulR p a B n j)
  rw [hl] at h1
  rw [h1]
  refine map_ext fun c hc => ?_
  unfold addF
  have h2 : co (mulR p a B n j) c = sg j (fun t => co a t * mx B t c) % p := by unfold mulR; rw [co_map, if_pos hc]
  rw [h2, fadd_mod, sg_succ, Nat.sub_zero]; rfl
theorem mulM_mat {p : Int} (hp : 0 < p) (A B : List (List Int)) : Mat p A.length (ncol B) (mulM p A B) := .of (mulM_len p A B) fun i hi => by
  rw [mulM_ro p B hi]; exact ⟨mulR_len _ _ _ _ _, mulR_el hp _ _ _ _⟩
/-- The rows made so far. -/
def mulP (p : Int) (A B : List (List Int)) (k : Nat) : List (List Int) := (List.range A.length).map fun i => if i < k then ro (mulM p A B) i else []
theorem mulP_len (p : Int) (A B : List (List Int)) (k : Nat) : (mulP p A B k).length = A.length := by unfold mulP; simp
theorem mulP_next (p : Int) (A B : List (List Int)) {k : Nat} (hk : k < A.length) : (mulP p A B k).set k (ro (mulM p A B) k) = mulP p A B (k + 1) :=
  rows_ext (by rw [List.length_set, mulP_len, mulP_len]) fun i hi => by
    rw [List.length_set, mulP_len] at hi
    rw [ro_set (by rw [mulP_len]; exact hk)]
    unfold mulP
    rw [ro_map _ hi, ro_map _ hi]
    by_cases e : i = k
    · subst e; rw [if_pos rfl, if_pos (by omega)]
    · rw [if_neg e]
      by_cases h : i < k
      · rw [if_pos h, if_pos (by omega)]
      · rw [if_neg h, if_neg (by omega)]
theorem mulP_done (p : Int) (A B : List (List Int)) : mulP p A B A.length = mulM p A B := rows_ext (by rw [mulP_len, mulM_len]) fun i hi => by
  rw [mulP_len] at hi
  unfold mulP
  rw [ro_map _ hi, if_pos hi]
/-- Rows that are all nil. -/
theorem MP.nils {base N : Nat} {w : World} {v : Value} {rows : List (List Int)} (h : w.ownsRow base 24 1 v N (List.replicate N (.slice none 0 0))) (hl : rows.length = N) (hr : ∀ i, ro rows i = []) : MP base w v N N (List.replicate N (.slice none 0 0)) rows := by
  refine ⟨h, hl, Nat.le_refl _, fun i hi => ⟨_, by rw [List.getElem?_replicate, if_pos hi], ?_⟩, fun i j u x e hi hj hu hx he he' => ?_⟩
  · rw [hr i]; exact World.ownsRow_nil _ _ _ _
  · rw [List.getElem?_replicate, if_pos hi] at hu
    injection hu with hu
    subst hu
    cases he
theorem mulP_zero (p : Int) (A B : List (List Int)) (i : Nat) : ro (mulP p A B 0) i = [] := by
  unfold mulP
  by_cases h : i < A.length
  · rw [ro_map _ h, if_neg (by omega)]
  · unfold ro; rw [List.getElem?_eq_none (by simpa using h)]; rfl
end Go.Proofs.Ytgkhngiiimnchaa
