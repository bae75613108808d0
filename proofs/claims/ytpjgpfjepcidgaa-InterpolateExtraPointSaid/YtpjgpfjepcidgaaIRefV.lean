/- Vandermonde of the reference of layer 5: the rows of powers; nothing that lay is changed. Conditions: a supported prime, elements of its field, at most 100 of them and 100 columns. -/
import Derived.Test.YtpjgpfjepcidgaaIRefA
import Derived.Test.YtpjgpfjepcidgaaIWts
namespace Go.Proofs.Ytpjgpfjepcidgaa
open Go.RowKit PolyMath FieldMath

/-- The block of the slice at A is one of words. -/
def Ty (w : World) (A : Option Addr) : Prop := ∀ ad, A = some ad → ∃ cur fz, w.heap[ad.block]? = some (.cells cur 22 fz)
theorem heap_lt {w : World} {b : Nat} {o : Obj} (h : w.heap[b]? = some o) : b < w.heap.size := (Array.getElem?_eq_some_iff.1 h).1
theorem Ty.next {w w' : World} {A : Option Addr} (h : Ty w A) (hb : Below w.heap.size w w') : Ty w' A := fun ad e => by
  obtain ⟨cur, fz, h1⟩ := h ad e
  exact ⟨cur, fz, (hb.block _ (heap_lt h1)).trans h1⟩
theorem Ty.grown {w w' : World} {A : Option Addr} {row : Option Nat} (h : Ty w A) (hg : w.grownBy w' row) (hr : ∀ ad, A = some ad → some ad.block ≠ row) : Ty w' A := fun ad e => by
  obtain ⟨cur, fz, h1⟩ := h ad e
  exact ⟨cur, fz, (hg.block _ (heap_lt h1) (hr ad e)).trans h1⟩
theorem own_tag {w : World} {base t n : Nat} {v : Value} {xs : List Value} (h : w.ownsRow base t 1 v n xs) : ∀ g, v.ownBlock = some g → ∃ cur fz, w.heap[g]? = some (.cells cur t fz) := by
  intro g hg
  rcases h.2 with ⟨rfl, _⟩ | ⟨g', cap, cur, rfl, _, hh, _⟩
  · cases hg
  · cases hg
    exact ⟨cur, (0, 0), hh⟩
theorem Ty.of_own {w : World} {base n m c : Nat} {A : Option Addr} {xs : List Value} (h : w.ownsRow base 22 1 (.slice A m c) n xs) : Ty w A := fun ad e => by
  subst e
  rcases h.2 with ⟨h0, _⟩ | ⟨g', cap, cur, h0, _, hh, _⟩
  · cases h0
  · cases h0
    exact ⟨cur, (0, 0), hh⟩
/-- Words lie in no block of slices. -/
theorem Ty.apart {w : World} {A : Option Addr} {base n : Nat} {v : Value} {xs : List Value} (h : Ty w A) (ho : w.ownsRow base 27 1 v n xs) : ∀ ad, A = some ad → some ad.block ≠ v.ownBlock := fun ad e e2 => by
  obtain ⟨cur, fz, h1⟩ := h ad e
  obtain ⟨cur', fz', h2⟩ := own_tag ho _ e2.symm
  rw [h1] at h2
  cases h2

/-- A row of slices that the call itself makes, which hold the lists rows. -/
def LOwn (base : Nat) (w : World) (v : Value) (rows : List (List Int)) : Prop :=
  ∃ vs : List Value, w.ownsRow base 27 1 v rows.length vs ∧ ∀ (j : Nat) (r : List Int), rows[j]? = some r → ∃ A c, vs[j]? = some (Value.slice A r.length c) ∧ Sl w A c r ∧ Ty w A
theorem LOwn.none (base : Nat) (w : World) : LOwn base w (.slice none 0 0) [] := ⟨[], World.ownsRow_nil _ _ _ _, fun j l h => by simp at h⟩
theorem LOwn.next {base : Nat} {w w' : World} {v : Value} {rows : List (List Int)} (h : LOwn base w v rows) (hb : Below w.heap.size w w') : LOwn base w' v rows := by
  obtain ⟨vs, h1, h2⟩ := h
  refine ⟨vs, own_below h1 hb, fun j l hl => ?_⟩
  obtain ⟨A, c, h3, h0, h4⟩ := h2 j l hl
  exact ⟨A, c, h3, h0.next hb, h4.next hb⟩
theorem LOwn.add {base : Nat} {w w2 : World} {v v' : Value} {rows : List (List Int)} {vs : List Value} {l : List Int} {A : Option Addr} {c : Nat} (h1 : w.ownsRow base 27 1 v rows.length vs)
    (h2 : ∀ (j : Nat) (r : List Int), rows[j]? = some r → ∃ A c, vs[j]? = some (Value.slice A r.length c) ∧ Sl w A c r ∧ Ty w A) (hs : Sl w A c l) (ht : Ty w A)
    (hown : w2.ownsRow base 27 1 v' (rows.length + 1) (vs ++ [Value.slice A l.length c])) (hg : w.grownBy w2 v.ownBlock) : LOwn base w2 v' (rows ++ [l]) := by
  have hvl : vs.length = rows.length := by simpa using h1.1
  refine ⟨vs ++ [.slice A l.length c], by rw [List.length_append]; exact hown, fun j l' hj => ?_⟩
  by_cases hlt : j < rows.length
  · rw [List.getElem?_append_left hlt] at hj
    obtain ⟨A', c', h3, h5, h4⟩ := h2 j l' hj
    exact ⟨A', c', by rw [List.getElem?_append_left (by omega)]; exact h3, h5.grown hg (h4.apart h1), h4.grown hg (h4.apart h1)⟩
  · rw [List.getElem?_append_right (by omega)] at hj
    obtain ⟨hj', e⟩ := List.getElem?_eq_some_iff.1 hj
    simp only [List.length_singleton] at hj'
    obtain rfl : j = rows.length := by omega
    simp only [Nat.sub_self, List.getElem_cons_zero] at e
    subst e
    exact ⟨A, c, by rw [List.getElem?_append_right (by omega), hvl, Nat.sub_self]; rfl, hs.grown hg (ht.apart h1), ht.grown hg (ht.apart h1)⟩
theorem LOwn.form {base : Nat} {w : World} {v : Value} {rows : List (List Int)} (h : LOwn base w v rows) : ∃ A c, v = .slice A rows.length c ∧ Sll w A c rows := by
  obtain ⟨vs, h1, h2⟩ := h
  rcases h1.2 with ⟨rfl, h0⟩ | ⟨g, cap, cur, rfl, _, hh, hc, _, h3, h4⟩
  · have : rows = [] := List.eq_nil_of_length_eq_zero h0
    subst this
    exact ⟨_, 0, rfl, Sll.nothing w⟩
  · refine ⟨some ⟨g, 0, .none⟩, cap, rfl, hc, (fun h => by cases h), fun ad e _ => ?_⟩
    injection e with e
    subst e
    refine ⟨g, 0, rfl, heap_lt hh, fun j l hl => ?_⟩
    obtain ⟨A, c, h5, h7, h6⟩ := h2 j l hl
    refine ⟨A, c, ?_, h7⟩
    rw [cell_of_row w g (0 + j) cur 27 (0, 0) hh, Nat.zero_add]
    have hj := (List.getElem?_eq_some_iff.1 hl).1
    rw [← h4, List.getElem?_take, if_pos (by omega), Array.getElem?_toList] at h5
    exact h5

theorem vmx_next (p : Int) {xs : List Int} {k : Nat} {x : Int} (N : Nat) (hx : xs[k]? = some x) : vmx p (xs.take (k + 1)) N = vmx p (xs.take k) N ++ [pows p x N] := by
  unfold vmx; rw [List.take_add_one, hx, List.map_append]; rfl

set_option maxHeartbeats 2000000 in
theorem rVand_any (p : Int) (hp : OkP p) (N : Nat) (hN : N ≤ 100) (A : Option Addr) (c : Nat) (xs : List Int) (hxs : El p xs) (hl : xs.length ≤ 100) (w : World) (h : Sl w A c xs) :
    Calls Try.prog 28 #[.int .u64 p, .slice A xs.length c, .int .i64 N] w fun e w' => VRow p xs N w e w' := by
  obtain ⟨i0, hi, hz0, hz1, hz2⟩ := info_parts info_u64
  obtain ⟨j0, hj, hy0, hy1, hy2⟩ := info_parts info_sl
  have hbd := hp.bd
  go_enter Try.func28, Try.ntmps28
  go_wp2
  go_loopw [7, 8] (fun v i wr => ∃ k : Nat, k ≤ xs.length ∧ i = .int .i64 k ∧ LOwn w.heap.size wr v (vmx p (xs.take k) N) ∧ Below w.heap.size w wr) (fun _ i _ => xs.length - (intOf i).toNat)
  case atStart => exact ⟨0, Nat.zero_le _, rfl, LOwn.none _ _, Below.refl _ _⟩
  case round =>
    obtain ⟨k, hk, rfl, hL, hB⟩ := hrel
    have hsz := hB.size
    by_cases hlt : k < xs.length
    · have hx : xs[k]? = some (co xs k) := by rw [co_get hlt]; exact List.getElem?_eq_getElem hlt
      have hxb := hxs.co (p := p) (by omega) k
      have hNX := Lib.hid (vmx_next p N hx)
      have hX := Lib.hid hx
      have hk' : (k : Int) < xs.length := by omega
      have hvl : (vmx p (xs.take k) N).length = k := by rw [vmx_len, List.length_take]; omega
      clear hx
      generalize co xs k = x at *
      generalize hRR : vmx p (xs.take k) N = R at *
      clear hRR
      rename World => W0
      go_wp2
      go_loopw [9, 10, 11] (fun v q i wr => ∃ (j : Nat) (P : Int), j ≤ N ∧ i = .int .i64 j ∧ q = .int .u64 P ∧ 0 ≤ P ∧ P < p ∧ Hid (x ^ j % p = P) ∧ wr.ownsRow W0.heap.size 22 1 v j (((List.range j).map fun n => x ^ n % p).map (Value.int .u64)) ∧ Below W0.heap.size W0 wr) (fun _ _ i _ => N - (intOf i).toNat)
      case atStart => exact ⟨0, 1, Nat.zero_le _, rfl, rfl, by omega, by omega, Lib.hid (show x ^ 0 % p = 1 from by rw [Int.pow_zero]; exact small (by omega) (by omega)), World.ownsRow_nil _ _ _ _, Below.refl _ _⟩
      case round =>
        obtain ⟨j, P, hjN, rfl, rfl, hP0, hP, hQ, hrow, hB2⟩ := hrel
        by_cases hlt2 : j < N
        · obtain ⟨b, off, y, hA, hbw, hy, hcy⟩ := h.at_ hlt
          subst hA
          obtain rfl : y = x := by have := hX.out; rw [hy] at this; injection this
          have hn2 := pow_next p y j
          rw [hQ.out] at hn2
          have hN2 := Lib.hid hn2.symm
          have hm2 := fmul_bd p P y (by omega)
          have hj' : (j : Int) < N := by omega
          have hs2 := hB2.size
          clear hn2 hy
          go_wp2_with (first | (at_builtin; refine wpList_append_own _ rfl _ _ 27 rfl W0.heap.size 22 i0 (.int .u64 0) 1 8 Try.underlying27 hi hz0 hz1 hz2 rfl (by decide) _ _ _ rfl (hrow.alloc _) ⟨wr.heap.size, 0, none⟩ 1 1 [.int .u64 P] rfl rfl (cell_one_new _ _ _) (by simp [Value.oneCell']) (by simp only [maxLen]; omega) (by omega) (by simp; omega) ?_; intro v' w3 hown' hgrow _; have hB3 : Below W0.heap.size W0 w3 := (hB2.alloc hs2 _).grown hgrow (by simp; omega) (fun k e => (hrow.lt k e).1); have hcy3 := ((hB.trans (hB3.mono hsz)).cell (p := ⟨b, off + k, none⟩) hbw).trans hcy) | (go_at_call 48; refine (rMul_any _ _ _ hp hP0 hP hxb.1 hxb.2 _).mono ?_; rintro e w' ⟨rfl, rfl⟩))
          go_roundw
          case rel => exact ⟨j + 1, _, by omega, by simp, rfl, hm2.1, hm2.2, hN2, own_next (f := fun n => y ^ n % p) (by show World.ownsRow _ _ _ _ _ _ (_ ++ [.int .u64 (y ^ j % p)]); rw [hQ.out]; exact hown'), hB3⟩
          case measure => simp [intOf]; omega
        · obtain rfl : j = N := by omega
          obtain ⟨A2, c2, hv, hs2⟩ := own_form hrow
          have hty : Ty wr A2 := by rw [hv] at hrow; exact Ty.of_own hrow
          have hlen : (((List.range j).map fun n => x ^ n % p)).length = j := by simp
          have hpw : ((List.range j).map fun n => x ^ n % p) = pows p x j := rfl
          rw [hpw] at hs2
          rw [hlen] at hv
          subst hv
          obtain ⟨vs, h1, h2⟩ := hL.next hB2
          have hs3 := hs2.push (.cells #[.slice A2 j c2] 27)
          have ht3 := hty.next ((Below.refl _ wr).alloc (Nat.le_refl _) (.cells #[.slice A2 j c2] 27))
          have h1' := own_below h1 ((Below.refl _ wr).alloc (Nat.le_refl _) (.cells #[.slice A2 j c2] 27))
          have h2' : ∀ (i : Nat) (r : List Int), R[i]? = some r → ∃ A c, vs[i]? = some (Value.slice A r.length c) ∧ Sl (wr.alloc (.cells #[.slice A2 j c2] 27)) A c r ∧ Ty (wr.alloc (.cells #[.slice A2 j c2] 27)) A := fun i r hr => by
            obtain ⟨A', c', q1, q2, q3⟩ := h2 i r hr
            exact ⟨A', c', q1, q2.push _, q3.next ((Below.refl _ wr).alloc (Nat.le_refl _) _)⟩
          have hadd := fun (v' : Value) (w2 : World) (hown) (hg) => LOwn.add (v' := v') (w2 := w2) h1' h2' hs3 ht3 hown hg
          have hBB := hB.trans (hB2.mono hsz)
          have hszB := hBB.size
          have hADD := Lib.hid hadd
          have hS3 := Lib.hid hs3
          have hH2 := Lib.hid h2'
          clear hadd hs3 h2' h2 hs2 hpw hrow
          rw [hvl] at h1'
          go_wp2_with (at_builtin; refine wpList_append_own _ rfl _ _ 48 rfl w.heap.size 27 j0 (.slice none 0 0) 1 24 Try.underlying48 hj hy0 hy1 hy2 rfl (by decide) _ _ _ rfl h1' ⟨wr.heap.size, 0, none⟩ 1 1 [.slice A2 j c2] rfl rfl (cell_one_new _ _ _) (by simp [Value.oneCell']) (by simp only [maxLen]; omega) (by omega) (by simp; omega) ?_; intro v' w2 hown' hgrow _)
          have hB4 : Below w.heap.size w w2 := (hBB.alloc hszB _).grown hgrow (by simp; omega) (fun k e => (World.ownsRow.lt h1' k e).1)
          have hLL := hADD.out v' w2 (by rw [pows_len, hvl]; exact hown') hgrow
          rw [← hNX.out] at hLL
          go_roundw
          case rel => exact ⟨k + 1, by omega, by simp, hLL, hB4⟩
          case measure => simp [intOf]; omega
    · obtain rfl : k = xs.length := by omega
      rw [List.take_length] at hL
      obtain ⟨A2, c2, hv, hs2⟩ := hL.form
      rw [vmx_len] at hv
      subst hv
      go_wp2
      go_ret
      exact ⟨A2, c2, rfl, hs2, hB⟩
end Go.Proofs.Ytpjgpfjepcidgaa
