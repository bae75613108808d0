/- Eval, Add, Scale, Sub, Words of the reference of layer 4: values, sums, multiples, differences; nothing that lay is changed. Conditions: a supported prime, polynomials over its field of at most 400 coefficients, elements. -/
import Derived.Test.YtpjgpfjepcidgaaPMul
import Derived.Maps.AppendAt
namespace Go.Proofs.Ytpjgpfjepcidgaa
open Go.RowKit PolyMath FieldMath

set_option maxHeartbeats 1000000 in
theorem rEval_any (p x : Int) (hp : OkP p) (hx : 0 ≤ x ∧ x < p) (A : Option Addr) (c : Nat) (xs : List Int) (hxs : El p xs) (hl : xs.length ≤ 400) (w : World) (h : Sl w A c xs) :
    Calls Try.prog 42 #[.int .u64 p, .slice A xs.length c, .int .u64 x] w fun e w' => e = .returned (.int .u64 (pev p xs x)) ∧ w = w' := by
  have hbd := hp.bd
  go_enter Try.func42, Try.ntmps42
  go_wp2
  go_loop [7, 8, 9] (fun o q i => ∃ (k : Nat) (O P : Int), k ≤ xs.length ∧ i = .int .i64 k ∧ o = .int .u64 O ∧ q = .int .u64 P ∧ 0 ≤ O ∧ O < p ∧ 0 ≤ P ∧ P < p ∧ Hid (evp x (co xs) k % p = O) ∧ Hid (x ^ k % p = P)) (fun _ _ i => xs.length - (intOf i).toNat)
  case atStart => exact ⟨0, 0, 1, Nat.zero_le _, rfl, rfl, rfl, by omega, by omega, by omega, by omega, Lib.hid (Int.zero_emod p), Lib.hid (show x ^ 0 % p = 1 from by rw [Int.pow_zero]; exact small (by omega) (by omega))⟩
  case round =>
    obtain ⟨k, O, P, hk, rfl, rfl, rfl, hO0, hO, hP0, hP, hE, hQ⟩ := hrel
    by_cases hlt : k < xs.length
    · obtain ⟨b, off, y, hA, _, hy, hcy⟩ := h.at_ hlt
      subst hA
      have hyb := hxs y (List.mem_of_getElem? hy)
      have hn := evp_next p x (co xs) k
      have hn2 := pow_next p x k
      rw [co_at hy, hE.out, hQ.out] at hn
      rw [hQ.out] at hn2
      have hm := fmul_bd p y P (by omega)
      have hm2 := fmul_bd p P x (by omega)
      have hm3 := fadd_bd p O (fmul p y P) (by omega)
      have hN := Lib.hid hn.symm
      have hN2 := Lib.hid hn2.symm
      have hk' : (k : Int) < xs.length := by omega
      clear hn hn2 hy
      go_wp2_with (first | (go_at_call 48; refine (rMul_any _ _ _ hp (by omega) (by omega) (by omega) (by omega) _).mono ?_; rintro e w' ⟨rfl, rfl⟩) | (go_at_call 57; refine (rAdd_any _ _ _ hp (by omega) (by omega) (by omega) (by omega) _).mono ?_; rintro e w' ⟨rfl, rfl⟩))
      go_round
      case rel => exact ⟨k + 1, _, _, by omega, by simp, rfl, rfl, hm3.1, hm3.2, hm2.1, hm2.2, hN, hN2⟩
      case measure => simp [intOf]; omega
    · obtain rfl : k = xs.length := by omega
      have hF := Lib.hid ((pev_evp p x xs).symm.trans hE.out)
      go_wp2
      go_ret
      exact ⟨by rw [hF.out]; rfl, rfl⟩

theorem own_next {w : World} {base k : Nat} {v : Value} {f : Nat → Int} (h : w.ownsRow base 22 1 v (k + 1) (((List.range k).map f).map (Value.int .u64) ++ [.int .u64 (f k)])) :
    w.ownsRow base 22 1 v (k + 1) (((List.range (k + 1)).map f).map (Value.int .u64)) := by
  rw [map_next, List.map_append]; exact h

set_option maxHeartbeats 1000000 in
theorem rAddP_row (p : Int) (hp : OkP p) (A B : Option Addr) (ca cb : Nat) (a b : List Int) (ha : El p a) (hb : El p b) (la : a.length ≤ 400) (lb : b.length ≤ 400) (w : World)
    (hra : Sl w A ca a) (hrb : Sl w B cb b) :
    Calls Try.prog 37 #[.int .u64 p, .slice A a.length ca, .slice B b.length cb] w fun e w' => Row w e w' (padd p a b) := by
  obtain ⟨i0, hi, hz0, hz1, hz2⟩ := info_parts info_u64
  have hbd := hp.bd
  go_enter Try.func37, Try.ntmps37
  go_wp2
  go_loopw [7, 8] (fun v i wr => ∃ k : Nat, k ≤ max a.length b.length ∧ i = .int .i64 k ∧ wr.ownsRow w.heap.size 22 1 v k (((List.range k).map fun n => fadd p (co a n) (co b n)).map (Value.int .u64)) ∧ Below w.heap.size w wr) (fun _ i _ => max a.length b.length - (intOf i).toNat)
  case atStart => exact ⟨0, Nat.zero_le _, rfl, World.ownsRow_nil _ _ _ _, Below.refl _ _⟩
  case round =>
    obtain ⟨k, hk, rfl, hrow, hB⟩ := hrel
    have hsz := hB.size
    by_cases hlt : k < max a.length b.length
    · have hbx := rCoef_any A ca a k wr (hra.next hB)
      have hby := rCoef_any B cb b k wr (hrb.next hB)
      rw [coI_nat] at hbx hby
      have hxb := ha.co (p := p) (by omega) k
      have hyb := hb.co (p := p) (by omega) k
      obtain ⟨x, hx⟩ : ∃ x, co a k = x := ⟨_, rfl⟩
      obtain ⟨y, hy⟩ : ∃ y, co b k = y := ⟨_, rfl⟩
      rw [hx] at hbx hxb
      rw [hy] at hby hyb
      have hX := Lib.hid hx
      have hY := Lib.hid hy
      clear hx hy
      have hAB : (k : Int) < a.length ∨ ((a.length : Int) ≤ k ∧ (k : Int) < b.length) := by omega
      rcases hAB with hA | ⟨hA, hBB⟩
      all_goals
        go_wp2_with (first | (go_at_call 58; refine hbx.mono ?_; clear hbx; rintro e w' ⟨rfl, rfl⟩) | (go_at_call 58; refine hby.mono ?_; clear hby; rintro e w' ⟨rfl, rfl⟩) | (go_at_call 57; refine (rAdd_any _ _ _ hp hxb.1 hxb.2 hyb.1 hyb.2 _).mono ?_; rintro e w' ⟨rfl, rfl⟩) | (at_builtin; refine wpList_append_own _ rfl _ _ 27 rfl w.heap.size 22 i0 (.int .u64 0) 1 8 Try.underlying27 hi hz0 hz1 hz2 rfl (by decide) _ _ _ rfl (hrow.alloc _) ⟨wr.heap.size, 0, none⟩ 1 1 [.int .u64 (fadd p x y)] rfl rfl (cell_one_new _ _ _) (by simp [Value.oneCell']) (by simp only [maxLen]; omega) (by omega) (by simp; omega) ?_; intro v' w2 hown' hgrow _))
        have hB2 : Below w.heap.size w w2 := (hB.alloc hsz _).grown hgrow (by simp; omega) (fun k e => (hrow.lt k e).1)
        go_roundw
        case rel => exact ⟨k + 1, by omega, by simp, own_next (f := fun n => fadd p (co a n) (co b n)) (by show World.ownsRow _ _ _ _ _ _ (_ ++ [.int .u64 (fadd p (co a k) (co b k))]); rw [hX.out, hY.out]; exact hown'), hB2⟩
        case measure => simp [intOf]; omega
    · obtain rfl : k = max a.length b.length := by omega
      have hA' : (a.length : Int) ≤ (max a.length b.length : Nat) := by omega
      have hB' : (b.length : Int) ≤ (max a.length b.length : Nat) := by omega
      obtain ⟨A2, c2, hv, hs2⟩ := own_form hrow
      have ht := rTrim_any A2 c2 _ wr hs2 (by simp; omega)
      rw [List.length_map, List.length_range] at hv ht
      subst hv
      have hE : trim ((List.range (max a.length b.length)).map fun n => fadd p (co a n) (co b n)) = padd p a b := rfl
      rw [hE] at ht
      clear hE hrow hs2
      go_wp2_with (go_at_call 19; refine ht.mono ?_; rintro e w3 ⟨A3, c3, rfl, hs3, hb3⟩)
      go_ret
      exact ⟨A3, c3, rfl, hs3, hB.trans (hb3.mono hsz)⟩

set_option maxHeartbeats 1000000 in
theorem rScale_row (p q : Int) (hp : OkP p) (hq : 0 ≤ q ∧ q < p) (A : Option Addr) (ca : Nat) (a : List Int) (ha : El p a) (la : a.length ≤ 400) (w : World) (hra : Sl w A ca a) :
    Calls Try.prog 38 #[.int .u64 p, .int .u64 q, .slice A a.length ca] w fun e w' => Row w e w' (pscl p q a) := by
  obtain ⟨i0, hi, hz0, hz1, hz2⟩ := info_parts info_u64
  have hbd := hp.bd
  go_enter Try.func38, Try.ntmps38
  go_wp2
  go_loopw [7, 8] (fun v i wr => ∃ k : Nat, k ≤ a.length ∧ i = .int .i64 k ∧ wr.ownsRow w.heap.size 22 1 v k (((List.range k).map fun n => fmul p q (co a n)).map (Value.int .u64)) ∧ Below w.heap.size w wr) (fun _ i _ => a.length - (intOf i).toNat)
  case atStart => exact ⟨0, Nat.zero_le _, rfl, World.ownsRow_nil _ _ _ _, Below.refl _ _⟩
  case round =>
    obtain ⟨k, hk, rfl, hrow, hB⟩ := hrel
    have hsz := hB.size
    by_cases hlt : k < a.length
    · obtain ⟨b, off, x, hA, _, hx, hcx⟩ := (hra.next hB).at_ hlt
      subst hA
      have hxb := ha x (List.mem_of_getElem? hx)
      have hX := Lib.hid (co_at hx)
      have hk' : (k : Int) < a.length := by omega
      clear hx
      go_wp2_with (first | (go_at_call 48; refine (rMul_any _ _ _ hp hq.1 hq.2 hxb.1 hxb.2 _).mono ?_; rintro e w' ⟨rfl, rfl⟩) | (at_builtin; refine wpList_append_own _ rfl _ _ 27 rfl w.heap.size 22 i0 (.int .u64 0) 1 8 Try.underlying27 hi hz0 hz1 hz2 rfl (by decide) _ _ _ rfl (hrow.alloc _) ⟨wr.heap.size, 0, none⟩ 1 1 [.int .u64 (fmul p q x)] rfl rfl (cell_one_new _ _ _) (by simp [Value.oneCell']) (by simp only [maxLen]; omega) (by omega) (by simp; omega) ?_; intro v' w2 hown' hgrow _))
      have hB2 : Below w.heap.size w w2 := (hB.alloc hsz _).grown hgrow (by simp; omega) (fun k e => (hrow.lt k e).1)
      go_roundw
      case rel => exact ⟨k + 1, by omega, by simp, own_next (f := fun n => fmul p q (co a n)) (by show World.ownsRow _ _ _ _ _ _ (_ ++ [.int .u64 (fmul p q (co a k))]); rw [hX.out]; exact hown'), hB2⟩
      case measure => simp [intOf]; omega
    · obtain rfl : k = a.length := by omega
      obtain ⟨A2, c2, hv, hs2⟩ := own_form hrow
      have ht := rTrim_any A2 c2 _ wr hs2 (by simp; omega)
      rw [List.length_map, List.length_range] at hv ht
      subst hv
      have hE : trim ((List.range a.length).map fun n => fmul p q (co a n)) = pscl p q a := rfl
      rw [hE] at ht
      clear hE hrow hs2
      go_wp2_with (go_at_call 19; refine ht.mono ?_; rintro e w3 ⟨A3, c3, rfl, hs3, hb3⟩)
      go_ret
      exact ⟨A3, c3, rfl, hs3, hB.trans (hb3.mono hsz)⟩

theorem rInv_any (p a : Int) (hp : OkP p) (ha0 : 0 < a) (ha : a < p) (w : World) :
    Calls Try.prog 59 #[.int .u64 p, .int .u64 a] w fun e w' => e = .returned (.tuple #[.int .u64 (fpow p a (p - 2)), .int .i64 0]) ∧ w = w' := by
  have hbd := hp.bd
  go_enter Try.func59, Try.ntmps59
  go_wp2_with (go_at_call 70; refine (rPow_any _ _ _ hp (by omega) (by omega) (by omega) (by omega) _).mono ?_; rintro e w' ⟨rfl, rfl⟩)
  go_ret2
  exact ⟨rfl, rfl⟩

/-- The elements that Words makes of the first twelve words. -/
def wds (p : Int) (l : List Int) : List Int := (l.take 12).map (· % p)
theorem wds_len (p : Int) (l : List Int) : (wds p l).length ≤ 12 := by unfold wds; rw [List.length_map, List.length_take]; omega
theorem wds_el {p : Int} (hp : 0 < p) (l : List Int) : El p (wds p l) := by
  intro x hx
  obtain ⟨y, _, rfl⟩ := List.mem_map.1 hx
  exact md _ _ hp
theorem wds_eq (p : Int) (l : List Int) : (List.range (min l.length 12)).map (fun n => co l n % p) = wds p l := by
  unfold wds
  rw [show (l.take 12) = (List.range (min l.length 12)).map (co l) from ?_, List.map_map]
  · rfl
  · apply List.ext_getElem (by simp; omega)
    intro n h1 h2
    rw [List.getElem_map, List.getElem_range, List.getElem_take, co_get]

end Go.Proofs.Ytpjgpfjepcidgaa
