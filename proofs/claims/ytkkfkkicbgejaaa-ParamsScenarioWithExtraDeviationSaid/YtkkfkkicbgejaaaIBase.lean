/- The helpers of package interpolate: products of differences through a function that is handed on, factors, abscissas, the constants of the places; nothing that lay is changed. Conditions: a supported prime, elements of its field, at most 100 of them. -/
import Derived.Test.YtkkfkkicbgejaaaIFac
import Derived.Test.YtkkfkkicbgejaaaIMem
namespace Go.Proofs.Ytkkfkkicbgejaaa
set_option maxRecDepth 100000
open Go.RowKit PolyMath FieldMath

theorem clos_any (p v y : Int) (hp : OkP p) (hv : 0 ≤ v ∧ v < p) (hy : 0 ≤ y ∧ y < p) (Bp Bq : Nat) (w : World) (b1 : Boxed w Bp 22 (.int .u64 p)) (b2 : Boxed w Bq 22 (.int .u64 v)) :
    Calls Try.prog 83 #[.int .u64 y, .pointer (some ⟨Bp, 0, none⟩), .pointer (some ⟨Bq, 0, none⟩)] w fun e w' => (∃ r, e = .returned r) ∧ w' = w.setCell ⟨Bq, 0, none⟩ (.int .u64 (fmul p v y)) := by
  have c1 := b1.cell
  have c2 := b2.cell
  have f2 := b2.frozen
  clear b1 b2
  go_enter Try.func83, Try.ntmps83
  go_wp2_with (go_at_call 42; refine (mul_any _ _ _ hp hv.1 hv.2 hy.1 hy.2 _).mono ?_; rintro e w' ⟨rfl, rfl⟩)
  go_end0
  exact ⟨⟨_, rfl⟩, rfl⟩

/-- What the loop over the factors holds. -/
structure Facs (w0 : World) (p : Int) (Bp Bq : Nat) (v : Int) (w : World) : Prop where
  b1 : Boxed w Bp 22 (.int .u64 p)
  b2 : Boxed w Bq 22 (.int .u64 v)
  below : Below w0.heap.size w0 w

set_option maxHeartbeats 1000000 in
theorem eachf_any (p z : Int) (hp : OkP p) (hz : 0 ≤ z ∧ z < p) (A : Option Addr) (c : Nat) (xs : List Int) (hxs : El p xs) (hl : xs.length ≤ 400) (i : Nat) (hi : i < xs.length) (Bp Bq : Nat) (w0 w : World) (h : Sl w0 A c xs)
    (h2 : w0.heap.size ≤ Bq) (hne : Bp ≠ Bq) (h0 : Facs w0 p Bp Bq 1 w) :
    Calls Try.prog 82 #[.int .u64 p, .slice A xs.length c, .int .i64 i, .int .u64 z, .func (.func 83) #[] #[.pointer (some ⟨Bp, 0, none⟩), .pointer (some ⟨Bq, 0, none⟩)]] w
      fun e w' => (∃ v, e = .returned v) ∧ Facs w0 p Bp Bq (gpr p z 1 (xs.eraseIdx i)) w' := by
  have hbd := hp.bd
  go_enter Try.func82, Try.ntmps82
  go_wp2
  go_loopw [14] (fun j wr => ∃ k : Nat, k ≤ xs.length ∧ j = .int .i64 k ∧ Facs w0 p Bp Bq (gpr p z 1 (oth xs i k)) wr) (fun j _ => xs.length - (intOf j).toNat)
  case atStart => exact ⟨0, Nat.zero_le _, rfl, h0⟩
  case round =>
    obtain ⟨k, hk, rfl, hF⟩ := hrel
    by_cases hlt : k < xs.length
    · obtain ⟨b, off, x, hA, _, hx, hcx⟩ := (h.next hF.below).at_ hlt
      subst hA
      have hxb := hxs x (List.mem_of_getElem? hx)
      have hk' : (k : Int) < xs.length := by omega
      by_cases hki : k = i
      · subst hki
        have hE := Lib.hid (oth_here (xs := xs) hlt)
        clear hx
        go_wp2
        go_roundw
        case rel => exact ⟨k + 1, by omega, by simp, by rw [hE.out]; exact hF⟩
        case measure => simp [intOf]; omega
      · have hE := Lib.hid (oth_next (i := i) hx hki)
        have hG := Lib.hid (gpr_snoc p z (oth xs i k) 1 x)
        have hki' : (k : Int) ≠ i := by omega
        have hv := gpr_bd (p := p) (by omega) z (oth xs i k) 1 (by omega)
        have hy := fsub_bd p z x (by omega)
        have hcl := clos_any p _ _ hp hv hy Bp Bq wr hF.b1 hF.b2
        have hb2 := Lib.hid (hF.b2.set (.int .u64 (fmul p (gpr p z 1 (oth xs i k)) (fsub p z x))))
        have hb1 := Lib.hid (hF.b1.other hne (.int .u64 (fmul p (gpr p z 1 (oth xs i k)) (fsub p z x))))
        have hbl := Lib.hid (hF.below.setCell (p := ⟨Bq, 0, none⟩) h2 (.int .u64 (fmul p (gpr p z 1 (oth xs i k)) (fsub p z x))))
        clear hx hF
        go_wp2_with (first | (go_at_call 77; refine (sub_any _ _ _ hp hz.1 hz.2 hxb.1 hxb.2 _).mono ?_; rintro e w' ⟨rfl, rfl⟩) | (go_at_call 83; refine hcl.mono ?_; rintro e w2 ⟨⟨v, rfl⟩, rfl⟩))
        go_roundw
        case rel => exact ⟨k + 1, by omega, by simp, by rw [hE.out, hG.out]; exact ⟨hb1.out, hb2.out, hbl.out⟩⟩
        case measure => simp [intOf]; omega
    · obtain rfl : k = xs.length := by omega
      rw [oth_all] at hF
      go_wp2
      go_end0
      exact ⟨⟨_, rfl⟩, hF⟩

theorem bprod_any (p z : Int) (hp : OkP p) (hz : 0 ≤ z ∧ z < p) (A : Option Addr) (c : Nat) (xs : List Int) (hxs : El p xs) (hl : xs.length ≤ 400) (i : Nat) (hi : i < xs.length) (w : World) (h : Sl w A c xs) :
    Calls Try.prog 72 #[.int .u64 p, .slice A xs.length c, .int .i64 i, .int .u64 z] w fun e w' => e = .returned (.int .u64 (gpr p z 1 (xs.eraseIdx i))) ∧ Below w.heap.size w w' := by
  have h0 : Facs w p w.heap.size (w.heap.size + 1) 1 ((w.alloc (.cells #[.int .u64 p] 22)).alloc (.cells #[.int .u64 1] 22)) :=
    ⟨(Boxed.new w _ _).alloc _, by have := Boxed.new (w.alloc (.cells #[.int .u64 p] 22)) 22 (.int .u64 1); rwa [World.size_alloc] at this, ((Below.refl _ w).alloc (Nat.le_refl _) _).alloc (by simp) _⟩
  have he := eachf_any p z hp hz A c xs hxs hl i hi w.heap.size (w.heap.size + 1) w _ h (by omega) (by omega) h0
  clear h0
  go_enter Try.func72, Try.ntmps72
  go_wp2_with fail
  refine he.mono ?_
  rintro e w2 ⟨⟨v, rfl⟩, hF⟩
  have hc := hF.b2.cell
  have hB := hF.below
  clear he hF
  go_wp2_with fail
  go_ret
  exact ⟨rfl, hB⟩

theorem lin_row (p x : Int) (hp : OkP p) (hx : 0 ≤ x ∧ x < p) (w : World) :
    Calls Try.prog 56 #[.int .u64 p, .int .u64 x] w fun e w' => Row w e w' (lin p x) := by
  go_enter Try.func56, Try.ntmps56
  go_wp2_with (go_at_call 79; refine (neg_any _ _ hp hx.1 hx.2 _).mono ?_; rintro e w' ⟨rfl, rfl⟩)
  go_ret
  exact ⟨_, _, rfl, Sl.l2 w (fneg p x) 1, bnew (Below.refl _ _) _ (Nat.le_refl _)⟩
end Go.Proofs.Ytkkfkkicbgejaaa
