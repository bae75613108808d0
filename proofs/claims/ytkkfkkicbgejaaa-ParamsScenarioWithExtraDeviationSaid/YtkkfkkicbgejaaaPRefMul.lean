/- Mul and DivMod of the reference of layer 4: product, quotient and remainder; nothing that lay is changed. Conditions: a supported prime, polynomials over its field of at most 400 coefficients. -/
import Derived.Test.YtkkfkkicbgejaaaPRef
import Derived.Test.YtkkfkkicbgejaaaPDivI
import Derived.IntWalk
namespace Go.Proofs.Ytkkfkkicbgejaaa
set_option maxRecDepth 100000
open Go.RowKit PolyMath FieldMath

set_option maxRecDepth 100000 in
set_option maxHeartbeats 2000000 in
theorem rMulP_row (p : Int) (hp : OkP p) (A B : Option Addr) (ca cb : Nat) (a b : List Int) (ha : El p a) (hb : El p b) (la : a.length ≤ 400) (lb : b.length ≤ 400) (w : World)
    (hra : Sl w A ca a) (hrb : Sl w B cb b) :
    Calls Try.prog 38 #[.int .u64 p, .slice A a.length ca, .slice B b.length cb] w fun e w' => Row w e w' (pmul p a b) := by
  have hbd := hp.bd
  by_cases h1 : a.length = 0
  · have hE := Lib.hid (pmul_nil (p := p) (a := a) (b := b) (.inl (by have := tn_le a; omega)))
    have h2 : ((a.length : Int) == 0) = true := beq_iff_eq.2 (by omega)
    clear h1
    go_enter Try.func38, Try.ntmps38
    go_wp2
    go_ret
    rw [hE.out]
    exact ⟨none, 0, rfl, Sl.nothing _, Below.refl _ _⟩
  have h2 : ((a.length : Int) == 0) = false := beq_eq_false_iff_ne.2 (by omega)
  by_cases h3 : b.length = 0
  · have hE := Lib.hid (pmul_nil (p := p) (a := a) (b := b) (.inr (by have := tn_le b; omega)))
    have h4 : ((b.length : Int) == 0) = true := beq_iff_eq.2 (by omega)
    clear h3
    go_enter Try.func38, Try.ntmps38
    go_wp2
    go_ret
    rw [hE.out]
    exact ⟨none, 0, rfl, Sl.nothing _, Below.refl _ _⟩
  have h4 : ((b.length : Int) == 0) = false := beq_eq_false_iff_ne.2 (by omega)
  obtain ⟨i0, hi, hz0, hz1, hz2⟩ := info_parts info_u64
  have hb8 : i0.bytes * (a.length + b.length - 1) ≤ 281474976710656 := by rw [hz2]; omega
  have hB8 := Lib.hid hb8
  clear hb8
  have hE := Lib.hid (mulL_done p a b)
  have ha1 : 0 < a.length := by omega
  have hb1 : 0 < b.length := by omega
  clear h1 h3
  go_enter Try.func38, Try.ntmps38
  go_wp2_with (at_make; refine wpList_make_full _ rfl _ _ 33 rfl w.heap.size 22 i0 (.int .u64 0) 1 Try.underlying33 hi hz0 hz1 .i64 .i64 _ _ (a.length + b.length - 1) rfl rfl (by omega) (by omega) hB8.out (by simp only [maxLen]; omega) (Nat.le_refl _) ?_; intro w1 hown1 hgrow1)
  have hbw : Below w.heap.size w w1 := (Below.refl _ w).grown hgrow1 (Nat.le_refl _) (fun k e => by cases e)
  simp only [Value.cells, toList_madeCells_one, Nat.mul_one] at hown1
  have hown2 : OwnAt w1 w.heap.size w.heap.size (a.length + b.length - 1) (a.length + b.length - 1) (mulL p a b (a.length + b.length - 1) 0 0) := by
    unfold OwnAt; rw [mulL_start]; simpa using hown1
  clear hown1 hgrow1
  obtain ⟨N, hN⟩ : ∃ N, N = a.length + b.length - 1 := ⟨_, rfl⟩
  have hN1 : a.length + b.length ≤ N + 1 := by omega
  have hN2 : N ≤ 800 := by omega
  rw [← hN] at hown2 hE ⊢
  have hNN := Lib.hid hN
  clear hN hB8
  go_loopw [8] (fun i wr => ∃ I : Nat, I ≤ a.length ∧ i = .int .i64 I ∧ OwnAt wr w.heap.size w.heap.size N N (mulL p a b N I 0) ∧ Below w.heap.size w wr) (fun i _ => a.length - (intOf i).toNat)
  case atStart => exact ⟨0, Nat.zero_le _, rfl, hown2, hbw⟩
  case round =>
    obtain ⟨I, hI, rfl, hO, hB⟩ := hrel
    by_cases hltI : I < a.length
    · have hI' : (I : Int) < a.length := by omega
      go_wp2
      go_loopw [9] (fun k wr => ∃ K : Nat, K ≤ b.length ∧ k = .int .i64 K ∧ OwnAt wr w.heap.size w.heap.size N N (mulL p a b N I K) ∧ Below w.heap.size w wr) (fun k _ => b.length - (intOf k).toNat)
      case atStart => exact ⟨0, Nat.zero_le _, rfl, hO, hB⟩
      case round =>
        obtain ⟨K, hK, rfl, hO2, hB2⟩ := hrel
        by_cases hltK : K < b.length
        · obtain ⟨ba, oa, x, hA, _, hx, hcx⟩ := (hra.next hB2).at_ hltI
          obtain ⟨bb, ob, y, hBB, _, hy, hcy⟩ := (hrb.next hB2).at_ hltK
          subst hA hBB
          have hxb := ha x (List.mem_of_getElem? hx)
          have hyb := hb y (List.mem_of_getElem? hy)
          have hK' : (K : Int) < b.length := by omega
          have hm := fmul_bd p x y (by omega)
          have hz := md (mulAt (co a) (co b) I K (I + K)) p (by omega)
          have hset := mulL_set p a b N I K
          rw [co_at hx, co_at hy] at hset
          have hcz := hO2.cell (mulL_get p a b N I K (I + K) (by omega))
          have hfz := hO2.frozen (I + K)
          generalize mulAt (co a) (co b) I K (I + K) % p = z at hset hcz hz
          have hS := Lib.hid hset
          have hput := Lib.hid (hO2.put (I + K) (fadd p z (fmul p x y)))
          have wi : (I : Int) + K < N := by omega
          clear hx hy hset
          have wr1 : IntKind.i64.wrap ((I : Int) + (K : Int)) = (I : Int) + (K : Int) := IntWalk.i64_in _ (by omega)
          have wr2 : ((I : Int) + (K : Int)).toNat = I + K := by omega
          have wr3 : (0 : Int) ≤ (I : Int) + (K : Int) := by omega
          go_wp2
          refine wp_region_still_tail 23 (by kernel_rfl) (by kernel_rfl) ?_
          simp only [List.take_succ_cons, List.take_zero, List.drop_succ_cons, List.drop_zero]
          change wpStill _ _ (World.drew _) (fun a' => wpList _ _ _ _ a' (World.drew _)) _ _
          repeat still_step
          still_call (still_of (rMul_any _ _ _ hp hxb.1 hxb.2 hyb.1 hyb.2 _))
          repeat still_step
          still_call (still_of (rAdd_any _ _ _ hp hz.1 hz.2 hm.1 hm.2 _))
          repeat still_step
          refine wpStill_nil ?_
          go_wp2
          clear wr1 wr2 wr3 wi
          go_roundw
          case rel => exact ⟨K + 1, by omega, by simp, by rw [← hS.out]; exact hput.out.drew, (hB2.setCell (p := ⟨w.heap.size, I + K, none⟩) (Nat.le_refl _) _).drew⟩
          case measure => simp [intOf]; omega
        · obtain rfl : K = b.length := by omega
          have hO3 := hO2
          rw [mulL_row] at hO3
          have hH := Lib.hid hO3
          clear hO3
          go_wp2
          go_roundw
          case rel => exact ⟨I + 1, by omega, by simp, hH.out, hB2⟩
          case measure => simp [intOf]; omega
    · obtain rfl : I = a.length := by omega
      have ht3 := rTrim_any _ _ _ wr hO.sl (by rw [mulL_len]; omega)
      rw [mulL_len, hE.out] at ht3
      clear hO
      have hsz := hB.size
      go_wp2_with (go_at_call 62; refine ht3.mono ?_; rintro e w3 ⟨A3, c3, rfl, hs3, hb3⟩)
      go_ret
      exact ⟨A3, c3, rfl, hs3, hB.trans (hb3.mono hsz)⟩

def slen : Value → Nat
  | .slice _ n _ => n
  | _ => 0

/-- What the loop of the reference's division holds. -/
structure RDiv (p : Int) (a b q r : List Int) : Prop where
  qt : trim q = q
  rt : trim r = r
  qe : El p q
  re : El p r
  ql : q.length ≤ a.length
  rl : r.length ≤ a.length
  eq : ∀ n, (conv (co q) (co b) n + co r n) % p = co a n % p

theorem RDiv.start {p : Int} {a : List Int} (ha : El p a) (b : List Int) : RDiv p a b [] (trim a) where
  qt := rfl
  rt := trim_trim _
  qe := El.nil p
  re := ha.trim
  ql := Nat.zero_le _
  rl := by rw [trim_length]; exact tn_le a
  eq := fun n => by rw [show co [] = fun _ => 0 from funext co_nil, conv_null, Int.zero_add, co_trim]
theorem RDiv.next {p inv : Int} (hp : 0 < p) {a b q r : List Int} (h : RDiv p a b q r) (h0 : 0 < b.length) (hl : b.length ≤ r.length) (hi : fmul p (co b (b.length - 1)) inv = 1) :
    RDiv p a b (padd p q (List.replicate (r.length - b.length) 0 ++ [fmul p (co r (r.length - 1)) inv])) (psub p r (pmul p (List.replicate (r.length - b.length) 0 ++ [fmul p (co r (r.length - 1)) inv]) b)) where
  qt := padd_trim _ _ _
  rt := psub_trim _ _ _
  qe := padd_el hp _ _
  re := psub_el hp _ _
  ql := by
    have h1 := padd_len p q (List.replicate (r.length - b.length) 0 ++ [fmul p (co r (r.length - 1)) inv])
    have h2 := h.ql
    have h3 := h.rl
    rw [List.length_append, List.length_replicate, List.length_singleton] at h1
    omega
  rl := by have := div_less h0 hl hi; have := h.rl; omega
  eq := div_step h.eq
theorem RDiv.done {p : Int} {a b q r : List Int} (h : RDiv p a (trim b) q r) (hl : r.length < tn b) : DM p a b q r :=
  ⟨h.qt, h.rt, h.qe, h.re, hl, fun n => by rw [← h.eq n, conv_ext (fun _ => rfl) (co_trim b)]⟩

end Go.Proofs.Ytkkfkkicbgejaaa
