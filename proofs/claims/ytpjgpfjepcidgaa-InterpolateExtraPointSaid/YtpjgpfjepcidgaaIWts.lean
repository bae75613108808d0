/- LagrangeWeights and Vandermonde of package interpolate: the weights (or the error where two abscissas agree), the rows of powers; nothing that lay is changed. Conditions: a supported prime, elements of its field, at most 100 of them and 100 columns. -/
import Derived.Test.YtpjgpfjepcidgaaIScl
namespace Go.Proofs.Ytpjgpfjepcidgaa
open Go.RowKit PolyMath FieldMath

/-- What LagrangeWeights hands back. -/
def WtRow (p : Int) (xs : List Int) (z : Int) (w : World) (e : Ending) (w' : World) : Prop :=
  (xs.Nodup ∧ ∃ A c, e = .returned (.tuple #[.slice A (wts p xs z).length c, .int .i64 0]) ∧ Sl w' A c (wts p xs z) ∧ Below w.heap.size w w') ∨
  (¬ xs.Nodup ∧ e = .returned (.tuple #[.slice none 0 0, .int .i64 1]) ∧ Below w.heap.size w w')

set_option maxHeartbeats 2000000 in
theorem wt_any (p z : Int) (hp : OkP p) (hz : 0 ≤ z ∧ z < p) (A : Option Addr) (c : Nat) (xs : List Int) (hxs : El p xs) (hl : xs.length ≤ 100) (w : World) (h : Sl w A c xs) :
    Calls Try.prog 20 #[.int .u64 p, .slice A xs.length c, .int .u64 z] w fun e w' => WtRow p xs z w e w' := by
  have hbd := hp.bd
  have hscl := scl_row p hp A c xs hxs hl w h
  go_enter Try.func20, Try.ntmps20
  go_wp2_with fail
  refine hscl.mono ?_
  clear hscl
  rintro e w2 (⟨hnd, g, rfl, hO2, hb2⟩ | ⟨hnd, rfl, hb2⟩)
  case inr =>
    go_wp2_with fail
    go_ret2
    exact .inr ⟨hnd, rfl, hb2⟩
  case inl =>
    have hstart : OwnAt w2 w.heap.size g xs.length xs.length (mixL (fun i => pev p (base p xs i) z) (scl p xs) xs.length 0) := by rw [mixL_start]; exact hO2
    have hend := Lib.hid (show mixL (fun i => pev p (base p xs i) z) (scl p xs) xs.length xs.length = wts p xs z from mixL_done _ _ _)
    have hstep := Lib.hid (fun k (hk : k < xs.length) => wt_eq hp.good hnd hxs hk z)
    have hND := Lib.hid hnd
    have hWl := Lib.hid (wts_len p xs z)
    clear hnd hO2
    go_wp2
    go_loopw [23] (fun i wr => ∃ k : Nat, k ≤ xs.length ∧ i = .int .i64 k ∧ OwnAt wr w.heap.size g xs.length xs.length (mixL (fun i => pev p (base p xs i) z) (scl p xs) xs.length k) ∧ Below w.heap.size w wr) (fun i _ => xs.length - (intOf i).toNat)
    case atStart => exact ⟨0, Nat.zero_le _, rfl, hstart, hb2⟩
    case round =>
      obtain ⟨k, hk, rfl, hO, hB⟩ := hrel
      by_cases hlt : k < xs.length
      · have hbp := bprod_any p z hp hz A c xs hxs (by omega) k hlt wr (h.next hB)
        have hget := mixL_get (fun i => pev p (base p xs i) z) (scl p xs) xs.length k k hlt
        rw [if_neg (Nat.lt_irrefl k)] at hget
        have hset := mixL_set (fun i => pev p (base p xs i) z) (scl p xs) xs.length k
        rw [← hstep.out k hlt] at hset
        have hsb := scl_bd (p := p) (by omega) xs k
        have hgb := gpr_bd (p := p) (by omega) z (xs.eraseIdx k) 1 (by omega)
        generalize scl p xs k = s at *
        generalize gpr p z 1 (xs.eraseIdx k) = G at *
        have hcell := hO.cell hget
        have hlt2 := hO.lt
        have hG := Lib.hid hget
        have hS := Lib.hid hset
        have hkN : (k : Int) < xs.length := by omega
        clear hget hset
        go_wp2_with (first | (go_at_call 41; refine hbp.mono ?_; clear hbp; rintro e w3 ⟨rfl, hb3⟩; have hO3 := hO.next hb3; have hcell3 := hO3.cell hG.out; have hfz3 := hO3.frozen k) | (go_at_call 23; refine (mul_any _ _ _ hp hsb.1 hsb.2 hgb.1 hgb.2 _).mono ?_; rintro e w' ⟨rfl, rfl⟩))
        have hB3 := hB.trans (hb3.mono hB.size)
        go_roundw
        case rel => exact ⟨k + 1, by omega, by simp, by rw [← hS.out]; exact hO3.put k _, hB3.setCell (p := ⟨g, k, none⟩) hlt2.1 _⟩
        case measure => simp [intOf]; omega
      · obtain rfl : k = xs.length := by omega
        rw [hend.out] at hO
        have hs3 := Lib.hid hO.sl
        go_wp2
        go_ret2
        exact .inl ⟨hND.out, _, _, by rw [hWl.out]; rfl, hs3.out, hB⟩

/-- The rows of powers. -/
def vmx (p : Int) (xs : List Int) (N : Nat) : List (List Int) := xs.map fun x => pows p x N
theorem vmx_len (p : Int) (xs : List Int) (N : Nat) : (vmx p xs N).length = xs.length := by unfold vmx; simp

/-- What the loop over the rows holds. -/
structure Rows5 (w : World) (p : Int) (xs : List Int) (N k : Nat) (vs : List Value) (wr : World) : Prop where
  own : wr.ownsRow w.heap.size 27 1 (.slice (some ⟨w.heap.size, 0, none⟩) xs.length xs.length) xs.length vs
  row : ∀ j, j < k → ∃ b, w.heap.size < b ∧ vs[j]? = some (.slice (some ⟨b, 0, none⟩) N N) ∧ Sl wr (some ⟨b, 0, none⟩) N (pows p (co xs j) N)
  below : Below w.heap.size w wr

theorem Rows5.store {w wr : World} {p : Int} {xs : List Int} {N k : Nat} {vs : List Value} {b : Nat} (h : Rows5 w p xs N k vs wr) (hk : k < xs.length) (hb : w.heap.size < b) (hs : Sl wr (some ⟨b, 0, none⟩) N (pows p (co xs k) N)) :
    Rows5 w p xs N (k + 1) (vs.set k (.slice (some ⟨b, 0, none⟩) N N)) (wr.setCell ⟨w.heap.size, k, none⟩ (.slice (some ⟨b, 0, none⟩) N N)) := by
  have hst := World.ownsRow.stored h.own k (.slice (some ⟨b, 0, none⟩) N N)
  have hvl : vs.length = xs.length := by have := h.own.1; omega
  refine ⟨hst.1, fun j hj => ?_, h.below.setCell (p := ⟨w.heap.size, k, none⟩) (Nat.le_refl _) _⟩
  rcases (show j < k ∨ j = k by omega) with h1 | rfl
  · obtain ⟨b', hb', hv, hs'⟩ := h.row j h1
    exact ⟨b', hb', by rw [List.getElem?_set_ne (by omega)]; exact hv, hs'.grown hst.2 (fun ad e => by injection e with e; subst e; intro e2; injection e2 with e2; change b' = w.heap.size at e2; omega)⟩
  · exact ⟨b, hb, by rw [List.getElem?_set_self (by omega)], hs.grown hst.2 (fun ad e => by injection e with e; subst e; intro e2; injection e2 with e2; change b = w.heap.size at e2; omega)⟩
theorem Rows5.next {w wr w' : World} {p : Int} {xs : List Int} {N k : Nat} {vs : List Value} (h : Rows5 w p xs N k vs wr) (hb : Below wr.heap.size wr w') : Rows5 w p xs N k vs w' :=
  ⟨own_below h.own hb, fun j hj => by obtain ⟨b', hb', hv, hs'⟩ := h.row j hj; exact ⟨b', hb', hv, hs'.next hb⟩, h.below.trans (hb.mono h.below.size)⟩
theorem Rows5.sll {w wr : World} {p : Int} {xs : List Int} {N : Nat} {vs : List Value} (h : Rows5 w p xs N xs.length vs wr) : Sll wr (some ⟨w.heap.size, 0, none⟩) xs.length (vmx p xs N) := by
  refine ⟨by rw [vmx_len]; exact Nat.le_refl _, (fun h => by cases h), fun ad e _ => ?_⟩
  injection e with e
  subst e
  refine ⟨w.heap.size, 0, rfl, (World.ownsRow.lt h.own w.heap.size rfl).2, fun j r hr => ?_⟩
  unfold vmx at hr
  rw [List.getElem?_map] at hr
  obtain ⟨x, hx, rfl⟩ := Option.map_eq_some_iff.1 hr
  have hj := (List.getElem?_eq_some_iff.1 hx).1
  obtain ⟨b, hb, hv, hs⟩ := h.row j hj
  rw [co_at hx] at hs
  refine ⟨some ⟨b, 0, none⟩, N, ?_, hs⟩
  rw [pows_len, Nat.zero_add]
  exact (World.ownsRow.cellAt h.own j (by omega)).trans hv

theorem info_sl : (Try.prog.info? 27).map (fun i => (i.zero, i.size, i.bytes)) = some (some (.slice none 0 0), 1, 24) := by kernel_rfl

/-- What Vandermonde hands back. -/
def VRow (p : Int) (xs : List Int) (N : Nat) (w : World) (e : Ending) (w' : World) : Prop :=
  ∃ A c, e = .returned (.slice A xs.length c) ∧ Sll w' A c (vmx p xs N) ∧ Below w.heap.size w w'

set_option maxHeartbeats 2000000 in
theorem vand_any (p cols : Int) (hp : OkP p) (N : Nat) (hN : N ≤ 100) (hc : max cols 0 = N) (A : Option Addr) (c : Nat) (xs : List Int) (hxs : El p xs) (hl : xs.length ≤ 100) (w : World) (h : Sl w A c xs) :
    Calls Try.prog 26 #[.int .u64 p, .slice A xs.length c, .int .i64 cols] w fun e w' => VRow p xs N w e w' := by
  obtain ⟨i0, hi, hz0, hz1, hz2⟩ := info_parts info_sl
  have hbd := hp.bd
  have hb8 : i0.bytes * xs.length ≤ 281474976710656 := by rw [hz2]; omega
  have hB8 := Lib.hid hb8
  have hpw := fun (x : Int) (hx : 0 ≤ x ∧ x < p) W => pows_own p x hp hx N hN W
  have hC : (cols < 0 ∧ N = 0) ∨ (0 ≤ cols ∧ (N : Int) = cols) := by omega
  clear hb8 hc
  generalize hNI : (N : Int) = n at hpw hC
  have hNI' := Lib.hid hNI
  clear hNI
  have hC2 : (cols < 0 ∧ n = 0) ∨ (0 ≤ cols ∧ n = cols) := by
    rcases hC with ⟨h1, h2⟩ | h1
    · subst h2; exact .inl ⟨h1, hNI'.out.symm⟩
    · exact .inr h1
  clear hC
  go_enter Try.func26, Try.ntmps26
  go_wp2_with (at_make; refine wpList_make_full _ rfl _ _ 48 rfl w.heap.size 27 i0 (.slice none 0 0) 1 Try.underlying48 hi hz0 hz1 .i64 .i64 _ _ xs.length rfl rfl (by omega) (by omega) hB8.out (by simp only [maxLen]; omega) (Nat.le_refl _) ?_; intro w1 hown1 hgrow1)
  have hb1 : Below w.heap.size w w1 := (Below.refl _ w).grown hgrow1 (Nat.le_refl _) (fun k e => by cases e)
  have hown2 : Rows5 w p xs N 0 _ w1 := ⟨hown1, fun j hj => absurd hj (by omega), hb1⟩
  clear hown1 hgrow1
  go_loopw [15] (fun i wr => ∃ (k : Nat) (vs : List Value), k ≤ xs.length ∧ i = .int .i64 k ∧ Rows5 w p xs N k vs wr) (fun i _ => xs.length - (intOf i).toNat)
  case atStart => exact ⟨0, _, Nat.zero_le _, rfl, hown2⟩
  case round =>
    obtain ⟨k, vs, hk, rfl, hR⟩ := hrel
    by_cases hlt : k < xs.length
    · obtain ⟨b, off, x, hA, _, hx, hcx⟩ := (h.next hR.below).at_ hlt
      subst hA
      have hxb := hxs x (List.mem_of_getElem? hx)
      have hX := Lib.hid (co_at hx)
      have hpx := hpw x hxb wr
      have hkN : (k : Int) < xs.length := by omega
      have hvl : vs.length = xs.length := by have := hR.own.1; omega
      obtain ⟨u, hu⟩ : ∃ u, vs[k]? = some u := ⟨_, List.getElem?_eq_getElem (by omega)⟩
      have hU := Lib.hid hu
      have hsz := (World.ownsRow.lt hR.own w.heap.size rfl).2
      clear hx hu
      rcases hC2 with ⟨hcz, rfl⟩ | ⟨hcz, rfl⟩
      all_goals
        go_wp2_with (go_at_call 47; refine hpx.mono ?_; clear hpx; rintro e w2 ⟨rfl, hs2, hb2⟩; have hR2 := hR.next hb2; have hcell := (World.ownsRow.cellAt hR2.own k (by omega)).trans hU.out; have hfz := World.ownsRow.frozenAt hR2.own k)
        rw [← hX.out] at hs2
        have hR3 := hR2.store hlt hsz hs2
        go_roundw
        case rel => exact ⟨k + 1, _, by omega, by simp, hR3⟩
        case measure => simp [intOf]; omega
    · obtain rfl : k = xs.length := by omega
      have hS := Lib.hid hR.sll
      have hB := hR.below
      go_wp2
      go_ret
      exact ⟨_, _, rfl, hS.out, hB⟩
end Go.Proofs.Ytpjgpfjepcidgaa
