import Derived.Test.YtkhiiiggmhncbaaGreatERefT
import Derived.Test.YtkhiiiggmhncbaaGreatEAgr
import Derived.Test.YtkhiiiggmhncbaaGreatEVan
import Derived.Test.YtkhiiiggmhncbaaGreatEInv
import Derived.Test.YtkhiiiggmhncbaaGreatME
import Derived.Maps.AppendAt
namespace Go.Proofs.YtkhiiiggmhncbaaGreat
set_option maxRecDepth 100000
open Go.ChangeShapes Go.WideShapes Go.ChangeAt Go.RowKit PolyMath FieldMath MatMath

theorem pw_next (p x : Int) (k : Nat) : fmul p (x ^ k % p) x = x ^ (k + 1) % p := by
  show (x ^ k % p * x) % p = _
  rw [Int.mul_emod, Int.emod_emod, ← Int.mul_emod, Int.pow_succ]

set_option maxHeartbeats 4000000 in
theorem rPows_any (p x : Int) (hp : OkP p) (hx : 0 ≤ x ∧ x < p) (N : Nat) (hN : N ≤ 100) (w : World) :
    Calls Tryz.prog 22 #[.int .u64 p, .int .u64 x, .int .i64 (N : Int)] w fun e w' => ∃ v, e = .returned v ∧ w'.ownsRow w.heap.size 22 1 v N ((pows p x N).map (Value.int .u64)) ∧ Below w.heap.size w w' := by
  obtain ⟨i0, hi, hz0, hz1, hz2⟩ := info_parts info_u64
  have hbd := hp.bd
  have h1p : x ^ 0 % p = 1 := by rw [Int.pow_zero]; exact Int.emod_eq_of_lt (by omega) (by omega)
  go_enter Tryz.func22, Tryz.ntmps22
  go_wp2
  go_loopw [7, 8, 9] (fun v u i wr => ∃ k : Nat, k ≤ N ∧ i = .int .i64 k ∧ u = .int .u64 (x ^ k % p) ∧ wr.ownsRow w.heap.size 22 1 v k (((List.range k).map fun k : Nat => x ^ k % p).map (Value.int .u64)) ∧ Below w.heap.size w wr) (fun _ _ i _ => N - (intOf i).toNat)
  case atStart => exact ⟨0, Nat.zero_le _, rfl, by rw [h1p], World.ownsRow_nil _ _ _ _, Below.refl _ _⟩
  case round =>
    obtain ⟨k, hk, rfl, rfl, hrow, hB⟩ := hrel
    have hsz := hB.size
    rename World => W0
    by_cases hlt : k < N
    · have hkN : (k : Int) < N := by omega
      have hzb := md (x ^ k) p (by omega)
      have HZN := Lib.hid (pw_next p x k)
      obtain ⟨z, hz⟩ : ∃ z, x ^ k % p = z := ⟨_, rfl⟩
      have HZ := Lib.hid hz
      rw [hz] at hzb HZN
      have h1' := hrow.alloc (.cells #[.int .u64 z] 22)
      rw [hz]
      clear hz hrow
      go_wp2_with (at_builtin; refine wpList_append_own _ rfl _ _ 23 rfl w.heap.size 22 i0 (.int .u64 0) 1 8 Tryz.underlying23 hi hz0 hz1 hz2 rfl (by decide) _ _ _ rfl h1' ⟨W0.heap.size, 0, none⟩ 1 1 [.int .u64 z] rfl rfl (cell_one_new _ _ _) (by simp [Value.oneCell']) (by simp only [maxLen]; omega) (by omega) (by simp; omega) ?_; intro v' w2 hown' hgrow _)
      have hB4 : Below w.heap.size w w2 := (hB.alloc hsz _).grown hgrow (by simp; omega) (fun k e => (World.ownsRow.lt h1' k e).1)
      have HO := Lib.hid hown'
      clear hown' hgrow h1'
      go_wp2_with fail
      refine (rMul_any p z x hp hzb.1 hzb.2 hx.1 hx.2 _).mono ?_
      rintro e w' ⟨rfl, rfl⟩
      go_wp2
      go_roundw
      case rel => exact ⟨k + 1, by omega, by simp, by rw [HZN.out], own_next (f := fun k : Nat => x ^ k % p) (by show World.ownsRow _ _ _ _ _ _ (_ ++ [.int .u64 (x ^ k % p)]); rw [HZ.out]; exact HO.out), hB4⟩
      case measure => simp [intOf]; omega
    · obtain rfl : k = N := by omega
      go_wp2
      go_ret
      exact ⟨_, rfl, hrow, hB⟩

/-- A row of slices that the call itself makes, which hold lists that lay before it. -/
def LOld (base : Nat) (w : World) (v : Value) (rows : List (List Int)) : Prop :=
  ∃ vs : List Value, w.ownsRow base 23 1 v rows.length vs ∧ ∀ (j : Nat) (r : List Int), rows[j]? = some r → ∃ A c, vs[j]? = some (Value.slice A r.length c) ∧ Sl w A c r ∧ ∀ ad, A = some ad → ad.block < base
theorem lold_none (base : Nat) (w : World) : LOld base w (.slice none 0 0) [] := ⟨[], World.ownsRow_nil _ _ _ _, fun j l h => by simp at h⟩
theorem lold_next {base : Nat} {w w' : World} {v : Value} {rows : List (List Int)} (h : LOld base w v rows) (hb : Below w.heap.size w w') : LOld base w' v rows := by
  obtain ⟨vs, h1, h2⟩ := h
  refine ⟨vs, own_below h1 hb, fun j l hl => ?_⟩
  obtain ⟨A, c, h3, h0, h4⟩ := h2 j l hl
  exact ⟨A, c, h3, h0.next hb, h4⟩
theorem old_apart {w : World} {A : Option Addr} {base t n : Nat} {u : Value} {xs : List Value} (h : ∀ ad, A = some ad → ad.block < base) (ho : w.ownsRow base t 1 u n xs) : ∀ ad, A = some ad → some ad.block ≠ u.ownBlock := fun ad e e2 => by
  have h1 := h ad e
  have h2 := (World.ownsRow.lt ho _ e2.symm).1
  omega
theorem apart_or {v u : Value} (ne : ∀ e, v.ownBlock = some e → u.ownBlock = some e → False) : v.ownBlock = none ∨ v.ownBlock ≠ u.ownBlock := by
  cases hv : v.ownBlock with
  | none => exact .inl rfl
  | some e => exact .inr fun e2 => ne e hv e2.symm
theorem lown_kept {base k : Nat} {w w2 : World} {v u : Value} {rows : List (List Int)} {us : List Value} (h : LOwn base w v rows) (hu : w.ownsRow base 23 1 u k us) (ne : ∀ e, v.ownBlock = some e → u.ownBlock = some e → False) (hg : w.grownBy w2 u.ownBlock) : LOwn base w2 v rows := by
  obtain ⟨vs, h1, h2⟩ := h
  refine ⟨vs, World.ownsRow.kept h1 hg (apart_or ne), fun j r hr => ?_⟩
  obtain ⟨A, c, h3, h5, h4⟩ := h2 j r hr
  exact ⟨A, c, h3, h5.grown hg (h4.apart hu), h4.grown hg (h4.apart hu)⟩
theorem lold_kept {base k : Nat} {w w2 : World} {v u : Value} {rows : List (List Int)} {us : List Value} (h : LOld base w v rows) (hu : w.ownsRow base 23 1 u k us) (ne : ∀ e, v.ownBlock = some e → u.ownBlock = some e → False) (hg : w.grownBy w2 u.ownBlock) : LOld base w2 v rows := by
  obtain ⟨vs, h1, h2⟩ := h
  refine ⟨vs, World.ownsRow.kept h1 hg (apart_or ne), fun j r hr => ?_⟩
  obtain ⟨A, c, h3, h5, h4⟩ := h2 j r hr
  exact ⟨A, c, h3, h5.grown hg (old_apart h4 hu), h4⟩
theorem lold_add {base : Nat} {w w2 : World} {v v' : Value} {rows : List (List Int)} {vs : List Value} {l : List Int} {A : Option Addr} {c : Nat} (h1 : w.ownsRow base 23 1 v rows.length vs)
    (h2 : ∀ (j : Nat) (r : List Int), rows[j]? = some r → ∃ A c, vs[j]? = some (Value.slice A r.length c) ∧ Sl w A c r ∧ ∀ ad, A = some ad → ad.block < base) (hs : Sl w A c l) (ht : ∀ ad, A = some ad → ad.block < base)
    (hown : w2.ownsRow base 23 1 v' (rows.length + 1) (vs ++ [Value.slice A l.length c])) (hg : w.grownBy w2 v.ownBlock) : LOld base w2 v' (rows ++ [l]) := by
  have hvl : vs.length = rows.length := by simpa using h1.1
  refine ⟨vs ++ [.slice A l.length c], by rw [List.length_append]; exact hown, fun j l' hj => ?_⟩
  by_cases hlt : j < rows.length
  · rw [List.getElem?_append_left hlt] at hj
    obtain ⟨A', c', h3, h5, h4⟩ := h2 j l' hj
    exact ⟨A', c', by rw [List.getElem?_append_left (by omega)]; exact h3, h5.grown hg (old_apart h4 h1), h4⟩
  · rw [List.getElem?_append_right (by omega)] at hj
    obtain ⟨hj', e⟩ := List.getElem?_eq_some_iff.1 hj
    simp only [List.length_singleton] at hj'
    obtain rfl : j = rows.length := by omega
    simp only [Nat.sub_self, List.getElem_cons_zero] at e
    subst e
    exact ⟨A, c, by rw [List.getElem?_append_right (by omega), hvl, Nat.sub_self]; rfl, hs.grown hg (old_apart ht h1), ht⟩
theorem lold_form {base : Nat} {w : World} {v : Value} {rows : List (List Int)} (h : LOld base w v rows) : ∃ A c, v = .slice A rows.length c ∧ Sll w A c rows := by
  obtain ⟨vs, h1, h2⟩ := h
  rcases h1.2 with ⟨rfl, h0⟩ | ⟨g, cap, cur, rfl, _, hh, hc, _, h3, h4⟩
  · have : rows = [] := List.eq_nil_of_length_eq_zero h0
    subst this
    exact ⟨_, 0, rfl, Sll.nothing w⟩
  · refine ⟨some ⟨g, 0, Option.none⟩, cap, rfl, hc, (fun h => by cases h), fun ad e _ => ?_⟩
    injection e with e
    subst e
    refine ⟨g, 0, rfl, heap_lt hh, fun j l hl => ?_⟩
    obtain ⟨A, c, h5, h7, h6⟩ := h2 j l hl
    refine ⟨A, c, ?_, h7⟩
    rw [cell_of_row w g (0 + j) cur 23 (0, 0) hh, Nat.zero_add]
    have hj := (List.getElem?_eq_some_iff.1 hl).1
    rw [← h4, List.getElem?_take, if_pos (by omega), Array.getElem?_toList] at h5
    exact h5

/-- Two rows of slices side by side: one more in the first. -/
theorem two_v {base N k c7 : Nat} {w : World} {v u : Value} {rv ru : List (List Int)} {r : List Int} {A7 : Option Addr} (hV : LOwn base w v rv) (hU : LOld base w u ru) (ne : ∀ e, v.ownBlock = some e → u.ownBlock = some e → False) (hk : rv.length = k) (hs : Sl w A7 c7 r) (ht : Ty w A7) (hr : r.length = N) :
    ∃ vs, (w.alloc (.cells #[.slice A7 N c7] 23)).ownsRow base 23 1 v k vs ∧ ∀ v' w2, w2.ownsRow base 23 1 v' (k + 1) (vs ++ [.slice A7 N c7]) → (w.alloc (.cells #[.slice A7 N c7] 23)).grownBy w2 v.ownBlock →
      (v'.ownBlock = v.ownBlock ∨ v'.ownBlock = some (w.alloc (.cells #[.slice A7 N c7] 23)).heap.size) → LOwn base w2 v' (rv ++ [r]) ∧ LOld base w2 u ru ∧ ∀ e, v'.ownBlock = some e → u.ownBlock = some e → False := by
  have hst : Below w.heap.size w (w.alloc (.cells #[.slice A7 N c7] 23)) := (Below.refl _ w).alloc (Nat.le_refl _) _
  obtain ⟨vs, h1, h2⟩ := hV.next hst
  have hU' := lold_next hU hst
  refine ⟨vs, by rw [← hk]; exact h1, fun v' w2 hown hg hat => ⟨?_, ?_, ?_⟩⟩
  · exact LOwn.add h1 h2 (hs.next hst) (ht.next hst) (by rw [hk, hr]; exact hown) hg
  · exact lold_kept hU' h1 (fun e a b => ne e b a) hg
  · intro e e1 e2
    rcases hat with h3 | h3
    · exact ne e (h3.symm.trans e1) e2
    · obtain ⟨us, h4, _⟩ := hU'
      have h5 := (World.ownsRow.lt h4 e e2).2
      rw [h3] at e1
      injection e1 with e1
      omega
/-- One more in the second. -/
theorem two_u {base N k c7 : Nat} {w : World} {v u : Value} {rv ru : List (List Int)} {r : List Int} {A7 : Option Addr} (hV : LOwn base w v rv) (hU : LOld base w u ru) (ne : ∀ e, v.ownBlock = some e → u.ownBlock = some e → False) (hk : ru.length = k) (hs : Sl w A7 c7 r) (ht : ∀ ad, A7 = some ad → ad.block < base) (hr : r.length = N) :
    ∃ vs, (w.alloc (.cells #[.slice A7 N c7] 23)).ownsRow base 23 1 u k vs ∧ ∀ u' w2, w2.ownsRow base 23 1 u' (k + 1) (vs ++ [.slice A7 N c7]) → (w.alloc (.cells #[.slice A7 N c7] 23)).grownBy w2 u.ownBlock →
      (u'.ownBlock = u.ownBlock ∨ u'.ownBlock = some (w.alloc (.cells #[.slice A7 N c7] 23)).heap.size) → LOwn base w2 v rv ∧ LOld base w2 u' (ru ++ [r]) ∧ ∀ e, v.ownBlock = some e → u'.ownBlock = some e → False := by
  have hst : Below w.heap.size w (w.alloc (.cells #[.slice A7 N c7] 23)) := (Below.refl _ w).alloc (Nat.le_refl _) _
  obtain ⟨vs, h1, h2⟩ := lold_next hU hst
  have hV' := hV.next hst
  refine ⟨vs, by rw [← hk]; exact h1, fun u' w2 hown hg hat => ⟨?_, ?_, ?_⟩⟩
  · exact lown_kept hV' h1 ne hg
  · exact lold_add h1 h2 (hs.next hst) ht (by rw [hk, hr]; exact hown) hg
  · intro e e1 e2
    rcases hat with h3 | h3
    · exact ne e e1 (h3.symm.trans e2)
    · obtain ⟨us, h4, _⟩ := hV'
      have h5 := (World.ownsRow.lt h4 e e1).2
      rw [h3] at e2
      injection e2 with e2
      omega
end Go.Proofs.YtkhiiiggmhncbaaGreat
