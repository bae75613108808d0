/- Mul and DivMod of the reference of layer 4: product, quotient and remainder; nothing that lay is changed. Conditions: a supported prime, polynomials over its field of at most 400 coefficients. -/
import Derived.Test.YtcnmiodgdnohfaaPRef
import Derived.Test.YtcnmiodgdnohfaaPDivI
import Derived.IntWalk
namespace Go.Proofs.Ytcnmiodgdnohfaa
open Go.RowKit PolyMath FieldMath

set_option maxHeartbeats 2000000 in
theorem rMulP_row (p : Int) (hp : OkP p) (A B : Option Addr) (ca cb : Nat) (a b : List Int) (ha : El p a) (hb : El p b) (la : a.length ≤ 400) (lb : b.length ≤ 400) (w : World)
    (hra : Sl w A ca a) (hrb : Sl w B cb b) :
    Calls Try.prog 28 #[.int .u64 p, .slice A a.length ca, .slice B b.length cb] w fun e w' => Row w e w' (pmul p a b) := by
  have hbd := hp.bd
  by_cases h1 : a.length = 0
  · have hE := Lib.hid (pmul_nil (p := p) (a := a) (b := b) (.inl (by have := tn_le a; omega)))
    have h2 : ((a.length : Int) == 0) = true := beq_iff_eq.2 (by omega)
    clear h1
    go_enter Try.func28, Try.ntmps28
    go_wp2
    go_ret
    rw [hE.out]
    exact ⟨none, 0, rfl, Sl.nothing _, Below.refl _ _⟩
  have h2 : ((a.length : Int) == 0) = false := beq_eq_false_iff_ne.2 (by omega)
  by_cases h3 : b.length = 0
  · have hE := Lib.hid (pmul_nil (p := p) (a := a) (b := b) (.inr (by have := tn_le b; omega)))
    have h4 : ((b.length : Int) == 0) = true := beq_iff_eq.2 (by omega)
    clear h3
    go_enter Try.func28, Try.ntmps28
    go_wp2
    go_ret
    rw [hE.out]
    exact ⟨none, 0, rfl, Sl.nothing _, Below.refl _ _⟩
  have h4 : ((b.length : Int) == 0) = false := beq_eq_false_iff_ne.2 (by omega)
  obtain ⟨i0, hi, hz0, hz1, hz2⟩ := info_parts info_u64
  have hb8 : i0.bytes * (a.length + b.length - 1) ≤ 281474976710656 := by rw [hz2]; omega
  have hB8 := Lib.hid hb8
  clear hb8
  have hE := Lib.hid (mulL_done p a b)
  have ha1 : 0 < a.length := by omega
  have hb1 : 0 < b.length := by omega
  clear h1 h3
  go_enter Try.func28, Try.ntmps28
  go_wp2_with (at_make; refine wpList_make_full _ rfl _ _ 22 rfl w.heap.size 27 i0 (.int .u64 0) 1 Try.underlying22 hi hz0 hz1 .i64 .i64 _ _ (a.length + b.length - 1) rfl rfl (by omega) (by omega) hB8.out (by simp only [maxLen]; omega) (Nat.le_refl _) ?_; intro w1 hown1 hgrow1)
  have hbw : Below w.heap.size w w1 := (Below.refl _ w).grown hgrow1 (Nat.le_refl _) (fun k e => by cases e)
  simp only [Value.cells, toList_madeCells_one, Nat.mul_one] at hown1
  have hown2 : OwnAt w1 w.heap.size w.heap.size (a.length + b.length - 1) (a.length + b.length - 1) (mulL p a b (a.length + b.length - 1) 0 0) := by
    unfold OwnAt; rw [mulL_start]; simpa using hown1
  clear hown1 hgrow1
  obtain ⟨N, hN⟩ : ∃ N, N = a.length + b.length - 1 := ⟨_, rfl⟩
  have hN1 : a.length + b.length ≤ N + 1 := by omega
  have hN2 : N ≤ 800 := by omega
  rw [← hN] at hown2 hE ⊢
  have hNN := Lib.hid hN
  clear hN hB8
  go_loopw [8] (fun i wr => ∃ I : Nat, I ≤ a.length ∧ i = .int .i64 I ∧ OwnAt wr w.heap.size w.heap.size N N (mulL p a b N I 0) ∧ Below w.heap.size w wr) (fun i _ => a.length - (intOf i).toNat)
  case atStart => exact ⟨0, Nat.zero_le _, rfl, hown2, hbw⟩
  case round =>
    obtain ⟨I, hI, rfl, hO, hB⟩ := hrel
    by_cases hltI : I < a.length
    · have hI' : (I : Int) < a.length := by omega
      go_wp2
      go_loopw [9] (fun k wr => ∃ K : Nat, K ≤ b.length ∧ k = .int .i64 K ∧ OwnAt wr w.heap.size w.heap.size N N (mulL p a b N I K) ∧ Below w.heap.size w wr) (fun k _ => b.length - (intOf k).toNat)
      case atStart => exact ⟨0, Nat.zero_le _, rfl, hO, hB⟩
      case round =>
        obtain ⟨K, hK, rfl, hO2, hB2⟩ := hrel
        by_cases hltK : K < b.length
        · obtain ⟨ba, oa, x, hA, _, hx, hcx⟩ := (hra.next hB2).at_ hltI
          obtain ⟨bb, ob, y, hBB, _, hy, hcy⟩ := (hrb.next hB2).at_ hltK
          subst hA hBB
          have hxb := ha x (List.mem_of_getElem? hx)
          have hyb := hb y (List.mem_of_getElem? hy)
          have hK' : (K : Int) < b.length := by omega
          have hm := fmul_bd p x y (by omega)
          have hz := md (mulAt (co a) (co b) I K (I + K)) p (by omega)
          have hset := mulL_set p a b N I K
          rw [co_at hx, co_at hy] at hset
          have hcz := hO2.cell (mulL_get p a b N I K (I + K) (by omega))
          have hfz := hO2.frozen (I + K)
          generalize mulAt (co a) (co b) I K (I + K) % p = z at hset hcz hz
          have hS := Lib.hid hset
          have hput := Lib.hid (hO2.put (I + K) (fadd p z (fmul p x y)))
          have wi : (I : Int) + K < N := by omega
          clear hx hy hset
          have wr1 : IntKind.i64.wrap ((I : Int) + (K : Int)) = (I : Int) + (K : Int) := IntWalk.i64_in _ (by omega)
          have wr2 : ((I : Int) + (K : Int)).toNat = I + K := by omega
          have wr3 : (0 : Int) ≤ (I : Int) + (K : Int) := by omega
          go_wp2
          refine wp_region_still_tail 23 (by kernel_rfl) (by kernel_rfl) ?_
          simp only [List.take_succ_cons, List.take_zero, List.drop_succ_cons, List.drop_zero]
          change wpStill _ _ (World.drew _) (fun a' => wpList _ _ _ _ a' (World.drew _)) _ _
          repeat still_step
          still_call (still_of (rMul_any _ _ _ hp hxb.1 hxb.2 hyb.1 hyb.2 _))
          repeat still_step
          still_call (still_of (rAdd_any _ _ _ hp hz.1 hz.2 hm.1 hm.2 _))
          repeat still_step
          refine wpStill_nil ?_
          go_wp2
          clear wr1 wr2 wr3 wi
          go_roundw
          case rel => exact ⟨K + 1, by omega, by simp, by rw [← hS.out]; exact hput.out.drew, (hB2.setCell (p := ⟨w.heap.size, I + K, none⟩) (Nat.le_refl _) _).drew⟩
          case measure => simp [intOf]; omega
        · obtain rfl : K = b.length := by omega
          have hO3 := hO2
          rw [mulL_row] at hO3
          have hH := Lib.hid hO3
          clear hO3
          go_wp2
          go_roundw
          case rel => exact ⟨I + 1, by omega, by simp, hH.out, hB2⟩
          case measure => simp [intOf]; omega
    · obtain rfl : I = a.length := by omega
      have ht3 := rTrim_any _ _ _ wr hO.sl (by rw [mulL_len]; omega)
      rw [mulL_len, hE.out] at ht3
      clear hO
      have hsz := hB.size
      go_wp2_with (go_at_call 13; refine ht3.mono ?_; rintro e w3 ⟨A3, c3, rfl, hs3, hb3⟩)
      go_ret
      exact ⟨A3, c3, rfl, hs3, hB.trans (hb3.mono hsz)⟩

theorem rDiv_zero (p : Int) (A B : Option Addr) (ca cb : Nat) (a b : List Int) (lb : b.length ≤ 400) (w : World) (hrb : Sl w B cb b) (hb0 : tn b = 0) :
    Calls Try.prog 30 #[.int .u64 p, .slice A a.length ca, .slice B b.length cb] w fun e w' => e = .returned (.tuple #[.slice none 0 0, .slice none 0 0, .int .i64 8]) ∧ Below w.heap.size w w' := by
  have ht := rTrim_any B cb b w hrb (by omega)
  rw [(trim_nil_iff b).2 hb0] at ht
  go_enter Try.func30, Try.ntmps30
  go_wp2_with fail
  refine ht.mono ?_; rintro e w2 ⟨A2, c2, rfl, hs2, hb2⟩
  clear ht hs2 hb0
  go_wp2_with fail
  refine bodyPost_ret (results_tmp3 rfl _ _ _) rfl ?_
  exact ⟨rfl, hb2⟩

def slen : Value → Nat
  | .slice _ n _ => n
  | _ => 0

/-- What the loop of the reference's division holds. -/
structure RDiv (p : Int) (a b q r : List Int) : Prop where
  qt : trim q = q
  rt : trim r = r
  qe : El p q
  re : El p r
  ql : q.length ≤ a.length
  rl : r.length ≤ a.length
  eq : ∀ n, (conv (co q) (co b) n + co r n) % p = co a n % p

theorem RDiv.start {p : Int} {a : List Int} (ha : El p a) (b : List Int) : RDiv p a b [] (trim a) where
  qt := rfl
  rt := trim_trim _
  qe := El.nil p
  re := ha.trim
  ql := Nat.zero_le _
  rl := by rw [trim_length]; exact tn_le a
  eq := fun n => by rw [show co [] = fun _ => 0 from funext co_nil, conv_null, Int.zero_add, co_trim]
theorem RDiv.next {p inv : Int} (hp : 0 < p) {a b q r : List Int} (h : RDiv p a b q r) (h0 : 0 < b.length) (hl : b.length ≤ r.length) (hi : fmul p (co b (b.length - 1)) inv = 1) :
    RDiv p a b (padd p q (List.replicate (r.length - b.length) 0 ++ [fmul p (co r (r.length - 1)) inv])) (psub p r (pmul p (List.replicate (r.length - b.length) 0 ++ [fmul p (co r (r.length - 1)) inv]) b)) where
  qt := padd_trim _ _ _
  rt := psub_trim _ _ _
  qe := padd_el hp _ _
  re := psub_el hp _ _
  ql := by
    have h1 := padd_len p q (List.replicate (r.length - b.length) 0 ++ [fmul p (co r (r.length - 1)) inv])
    have h2 := h.ql
    have h3 := h.rl
    rw [List.length_append, List.length_replicate, List.length_singleton] at h1
    omega
  rl := by have := div_less h0 hl hi; have := h.rl; omega
  eq := div_step h.eq
theorem RDiv.done {p : Int} {a b q r : List Int} (h : RDiv p a (trim b) q r) (hl : r.length < tn b) : DM p a b q r :=
  ⟨h.qt, h.rt, h.qe, h.re, hl, fun n => by rw [← h.eq n, conv_ext (fun _ => rfl) (co_trim b)]⟩

set_option maxHeartbeats 4000000 in
theorem rDiv_row (p : Int) (hp : OkP p) (A B : Option Addr) (ca cb d : Nat) (a b : List Int) (ha : El p a) (hb : El p b) (la : a.length ≤ 400) (lb : b.length ≤ 400) (w : World)
    (hra : Sl w A ca a) (hrb : Sl w B cb b) (hd : tn b = d + 1) :
    Calls Try.prog 30 #[.int .u64 p, .slice A a.length ca, .slice B b.length cb] w fun e w' => DivRow p a b w e w' := by
  have hbd := hp.bd
  obtain ⟨i0, hi, hz0, hz1, hz2⟩ := info_parts info_u64
  have ht := rTrim_any B cb b w hrb (by omega)
  have hdone := fun q r (h : RDiv p a (trim b) q r) hl => h.done hl
  rw [hd] at hdone
  have hlen := trim_length b
  rw [hd] at hlen
  have hle := tn_le b
  have hbe := hb.trim
  have hld0 := tn_top b (by omega)
  rw [hd, Nat.add_sub_cancel, ← co_trim] at hld0
  have hstart := RDiv.start ha (trim b)
  generalize trim b = b2 at ht hdone hlen hbe hld0 hstart
  have hldb := hbe.co (p := p) (by omega) d
  have hinv := hp.good.inv (a := co b2 d) (by omega) hldb.2
  have hic := fun W => rInv_any p (co b2 d) hp (by omega) hldb.2 W
  have hivb := fpow_bd p (co b2 d) (p - 2) (by omega)
  have hnext := fun q r (h : RDiv p a b2 q r) (hl : b2.length ≤ r.length) => h.next (inv := fpow p (co b2 d) (p - 2)) (by omega) (by omega) hl (by rw [hlen, Nat.add_sub_cancel]; exact hinv)
  have hless := fun r : List Int => fun (hl : b2.length ≤ r.length) => div_less (p := p) (inv := fpow p (co b2 d) (p - 2)) (r := r) (b := b2) (by omega) hl (by rw [hlen, Nat.add_sub_cancel]; exact hinv)
  obtain ⟨ld, hld⟩ : ∃ ld, co b2 d = ld := ⟨_, rfl⟩
  have hldx : b2[d]? = some ld := by rw [← hld, co_get (by omega)]; exact List.getElem?_eq_getElem _
  rw [hld] at hic hivb hnext hless
  generalize fpow p ld (p - 2) = iv at hic hivb hnext hless
  have hb2l : b2.length ≤ 400 := by omega
  have hb2d : d < b2.length := by omega
  have hDone := Lib.hid hdone
  have hNext := Lib.hid hnext
  have hLess := Lib.hid hless
  have hStart := Lib.hid hstart
  have hLen := Lib.hid hlen
  have hLdx := Lib.hid hldx
  have hz : ((b2.length : Int) == 0) = false := beq_eq_false_iff_ne.2 (by omega)
  have hbl0 : 0 < b2.length := by omega
  have hbl1 : (b2.length : Int) - 1 < b2.length := by omega
  clear hdone hnext hless hstart hlen hldx hld hinv hldb hld0 hd hle
  go_enter Try.func30, Try.ntmps30
  go_wp2_with fail
  refine ht.mono ?_; rintro e w2 ⟨Ab, c2, rfl, hs2, hb2⟩
  have hta := rTrim_any A ca a w2 (hra.next hb2) (by omega)
  clear ht
  go_wp2_with fail
  refine hta.mono ?_; rintro e w3 ⟨Ar, c3, rfl, hs3, hb3⟩
  clear hta
  have hsb := hs2.next hb3
  have hB3 := hb2.trans (hb3.mono hb2.size)
  obtain ⟨bb, ob, y, hAb, _, hy, hcy⟩ := hsb.at_ hb2d
  have hyl : y = ld := by have := hLdx.out; rw [hy] at this; injection this
  subst hyl hAb
  have hSB := Lib.hid hsb
  have hdl : (b2.length : Int) - 1 = d := by have := hLen.out; omega
  have hdl2 : (d : Int) < b2.length := by omega
  clear hs2 hsb hb2 hb3 hy
  go_wp2_with fail
  refine (hic _).mono ?_; rintro e w' ⟨rfl, rfl⟩
  clear hdl hdl2 hcy hic
  go_wp2_with fail
  go_loopw [9, 12] (fun rv qv wr => ∃ (q r : List Int) (Ar Aq : Option Addr) (cr cq : Nat), rv = .slice Ar r.length cr ∧ qv = .slice Aq q.length cq ∧ Sl wr Ar cr r ∧ Sl wr Aq cq q ∧ Sl wr (some ⟨bb, ob, none⟩) c2 b2 ∧ Hid (RDiv p a b2 q r) ∧ Below w.heap.size w wr) (fun rv _ _ => slen rv)
  case atStart => exact ⟨[], trim a, Ar, none, c3, 0, rfl, rfl, hs3, Sl.nothing _, hSB.out, hStart, hB3⟩
  case round =>
    obtain ⟨q, r, Ar, Aq, cr, cq, rfl, rfl, hsr, hsq, hsb, hRD, hB⟩ := hrel
    have hrl := hRD.out.rl
    have hql := hRD.out.ql
    have hre := hRD.out.re
    have hqe := hRD.out.qe
    by_cases hge : b2.length ≤ r.length
    · have hge' : (b2.length : Int) ≤ r.length := by omega
      obtain ⟨k1, hk1⟩ : ∃ k1 : Nat, (r.length : Int) - 1 = k1 := ⟨r.length - 1, by omega⟩
      obtain ⟨m, hm⟩ : ∃ m : Nat, m = r.length - b2.length := ⟨_, rfl⟩
      obtain ⟨br, or, x, hAr, _, hx, hcx⟩ := hsr.at_ (k := k1) (by omega)
      subst hAr
      have hxb := hre x (List.mem_of_getElem? hx)
      have hcb := fmul_bd p x iv (by omega)
      have hnx := hNext.out q r hRD.out hge
      have hls := hLess.out r hge
      rw [← hm, show r.length - 1 = k1 from by omega, co_at hx] at hnx hls
      have hte := el_mono (p := p) hcb m
      have htl : (List.replicate m (0 : Int) ++ [fmul p x iv]).length = m + 1 := by simp
      have hNX := Lib.hid hnx
      have hLS := Lib.hid hls
      have hTL := Lib.hid htl
      have hm400 : m + 1 ≤ 400 := by omega
      have hmb : m + b2.length ≤ r.length := by omega
      have hkr : (k1 : Int) < r.length := by omega
      have hmv : (r.length : Int) - b2.length + 1 = ((m + 1 : Nat) : Int) := by omega
      have hMV := Lib.hid hmv
      have hb8 : i0.bytes * (m + 1) ≤ 281474976710656 := by rw [hz2]; omega
      have hB8 := Lib.hid hb8
      have hset := Lib.hid (set_mono (fmul p x iv) m)
      clear hnx hls htl hm hb8 hx hmv
      go_wp2_with (first | (at_make; refine wpList_make_full _ rfl _ _ 22 rfl wr.heap.size 27 i0 (.int .u64 0) 1 Try.underlying22 hi hz0 hz1 .i64 .i64 _ _ (m + 1) rfl rfl (by have := hMV.out; omega) (by have := hMV.out; omega) hB8.out (by simp only [maxLen]; omega) (Nat.le_refl _) ?_; intro w4 hown4 hgrow4; have hcx4 := hgrow4.cell hcx (by simp); simp only [Value.cells, toList_madeCells_one, Nat.mul_one] at hown4; have hT4 : OwnAt w4 wr.heap.size wr.heap.size (m + 1) (m + 1) (List.replicate (m + 1) 0) := (by unfold OwnAt; simpa using hown4); have htc := hT4.cell (i := m) (x := 0) (by simp); have htf := hT4.frozen m; clear hown4) | (go_at_call 32; refine (rMul_any _ _ _ hp hxb.1 hxb.2 hivb.1 hivb.2 _).mono ?_; rintro e w' ⟨rfl, rfl⟩))
      have hB4 : Below wr.heap.size wr w4 := (Below.refl _ _).grown hgrow4 (Nat.le_refl _) (fun k e => by cases e)
      have hB5 := hB4.setCell (p := ⟨wr.heap.size, m, none⟩) (Nat.le_refl _) (.int .u64 (fmul p x iv))
      have hT5 := hT4.put m (fmul p x iv)
      rw [hset.out] at hT5
      have hst5 := hT5.sl
      have hsr5 := hsr.next hB5
      have hsq5 := hsq.next hB5
      have hsb5 := hsb.next hB5
      clear hT4 hT5 hset htc htf hcx4 hcx hB4 hk1 hkr hsr hsq hsb
      have hB6 := hB.trans (hB5.mono hB.size)
      clear hB5 hgrow4
      generalize w4.setCell ⟨wr.heap.size, m, none⟩ (.int .u64 (fmul p x iv)) = w5 at *
      have hadd := rAddP_row p hp Aq (some ⟨wr.heap.size, 0, none⟩) cq (m + 1) q _ hqe hte (by omega) (by rw [hTL.out]; omega) w5 hsq5 hst5
      rw [hTL.out] at hadd
      have hmulr := fun w' (h : Sl w' (some ⟨wr.heap.size, 0, none⟩) (m + 1) (List.replicate m 0 ++ [fmul p x iv])) (h' : Sl w' (some ⟨bb, ob, none⟩) c2 b2) => rMulP_row p hp _ _ (m + 1) c2 _ b2 hte hbe (by rw [hTL.out]; omega) hb2l w' h h'
      rw [hTL.out] at hmulr
      generalize List.replicate m 0 ++ [fmul p x iv] = T at *
      refine hadd.mono ?_; rintro e w6 ⟨A6, c6, rfl, hs6, hb6⟩
      have hst6 := hst5.next hb6
      have hsr6 := hsr5.next hb6
      have hsb6 := hsb5.next hb6
      have hB7 := hB6.trans (hb6.mono hB6.size)
      clear hadd hb6 hst5 hsr5 hsq5 hsb5 hB6
      have hmul6 := hmulr w6 hst6 hsb6
      clear hmulr
      go_wp2_with fail
      refine hmul6.mono ?_; rintro e w7 ⟨A7, c7, rfl, hs7, hb7⟩
      have hsr7 := hsr6.next hb7
      have hsb7 := hsb6.next hb7
      have hsq7 := hs6.next hb7
      have hB8' := hB7.trans (hb7.mono hB7.size)
      have hpl := pmul_len p T b2
      have htl2 := hTL.out
      have hsub := rSubP_row p hp _ A7 cr c7 r (pmul p T b2) hre (pmul_el (by omega) _ _) (by omega) (by omega) w7 hsr7 hs7
      clear hmul6 hb7 hst6 hsr6 hsb6 hs6 hB7 hsr7 hs7 hpl htl2
      go_wp2_with fail
      refine hsub.mono ?_; rintro e w8 ⟨A8, c8, rfl, hs8, hb8⟩
      have hsb8 := hsb7.next hb8
      have hsq8 := hsq7.next hb8
      have hB9 := hB8'.trans (hb8.mono hB8'.size)
      clear hsub hb8 hsb7 hsq7 hB8'
      go_wp2_with fail
      go_roundw
      case rel => exact ⟨_, _, A8, A6, c8, c6, rfl, rfl, hs8, hsq8, hsb8, hNX, hB9⟩
      case measure => exact hLS.out
    · have hge' : (r.length : Int) < b2.length := by omega
      have hDM := Lib.hid (hDone.out q r hRD.out (by have := hLen.out; omega))
      go_wp2
      refine bodyPost_ret (results_tmp3 rfl _ _ _) rfl ?_
      exact ⟨q, r, _, _, _, _, rfl, hsq, hsr, hDM.out, hql, hB⟩

end Go.Proofs.Ytcnmiodgdnohfaa
