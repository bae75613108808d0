/- PolyDivisionAlgorithm: for every supported prime and polynomials, quotient times divisor plus remainder is the dividend and the remainder has a smaller degree than the divisor; and a polynomial q b + r with deg r < deg b is divided into q and r; the examples of the document hold. No conditions. -/
import Derived.Test.YtcnmiodgdnohfaaPMore
namespace Go.Proofs.Ytcnmiodgdnohfaa.polyDivisionAlgorithm
open Go.ChangeShapes Go.WideShapes Go.ChangeAt Go.RowKit Go.Joins PolyMath FieldMath

set_option maxRecDepth 100000 in
set_option maxHeartbeats 4000000 in
theorem walk : AskWalk 8 := by
  intro w v P X K A B C ca cb cc xa xb xc hI
  obtain ⟨rfl, hP, hX, hK, wa, wb, wc, sa, sb, sc⟩ := hI
  have hp := fitP_ok P
  have hfit := fun W (h1 : Sl W A ca xa) (h2 : Sl W B cb xb) (h3 : Sl W C cc xc) => fit_row P X K A B C ca cb cc xa xb xc hP.1 hP.2 wa wb wc W h1 h2 h3
  generalize fitP P = p at hp hfit
  have hbd := hp.bd
  have la := wds_len p xa
  have lb := wds_len p xb
  have lc := wds_len p xc
  have ea := wds_el (p := p) (by omega) xa
  have eb := wds_el (p := p) (by omega) xb
  have ec := wds_el (p := p) (by omega) xc
  have split : ∀ l : List Int, tn l = 0 ∨ ∃ d, tn l = d + 1 := fun l => by
    cases tn l with
    | zero => exact .inl rfl
    | succ d => exact .inr ⟨d, rfl⟩
  rcases split (wds p xb) with hb0 | ⟨d, hb0⟩
  · have hb0 := Lib.hid hb0
    clear split
    go_enter Try.func8, Try.ntmps8
    go_wp2_with fail
    refine (hfit _ (sa.push _) (sb.push _) (sc.push _)).mono ?_
    rintro e w1 ⟨A1, c1, A2, c2, A3, c3, rfl, s1, s2, s3, hb⟩
    have hB : Below w.heap.size w w1 := ((Below.refl _ _).alloc (Nat.le_refl _) _).trans (hb.mono (by simp))
    clear hb hfit sa sb sc wa wb wc
    generalize wds p xa = a at *
    generalize wds p xb = b at *
    generalize wds p xc = c at *
    go_wp2_with fail
    refine (rDeg_zero _ _ b _ s2 (by omega) hb0.out).mono ?_; rintro e w2 ⟨rfl, hb⟩
    replace s1 := s1.next hb
    replace s2 := s2.next hb
    replace s3 := s3.next hb
    replace hB := hB.trans (hb.mono hB.size)
    clear hb
    go_wp2_with fail
    refine (awake_any _).mono ?_; rintro e w3 ⟨rfl, hb⟩
    replace s1 := s1.next hb
    replace s2 := s2.next hb
    replace s3 := s3.next hb
    replace hB := hB.trans (hb.mono hB.size)
    clear hb
    go_wp2_with fail
    go_ret
    exact ⟨rfl, hB⟩
  have hdb : d < 400 := by have h1 := tn_le (wds p xb); omega
  have hcl := tn_le (wds p xc)
  by_cases hcd : d + 1 ≤ tn (wds p xc)
  · have hb0 := Lib.hid hb0
    clear split
    go_enter Try.func8, Try.ntmps8
    go_wp2_with fail
    refine (hfit _ (sa.push _) (sb.push _) (sc.push _)).mono ?_
    rintro e w1 ⟨A1, c1, A2, c2, A3, c3, rfl, s1, s2, s3, hb⟩
    have hB : Below w.heap.size w w1 := ((Below.refl _ _).alloc (Nat.le_refl _) _).trans (hb.mono (by simp))
    clear hb hfit sa sb sc wa wb wc
    generalize wds p xa = a at *
    generalize wds p xb = b at *
    generalize wds p xc = c at *
    have hc1 : (d : Int) ≤ ((tn c : Nat) : Int) - 1 := by omega
    go_wp2_with fail
    refine (rDeg_pos _ _ d b _ s2 (by omega) hb0.out).mono ?_; rintro e w2 ⟨rfl, hb⟩
    replace s1 := s1.next hb
    replace s2 := s2.next hb
    replace s3 := s3.next hb
    replace hB := hB.trans (hb.mono hB.size)
    clear hb
    go_wp2_with fail
    refine (div_row p hp _ _ _ _ d a b ea eb (by omega) (by omega) _ s1 s2 hb0.out).mono ?_; rintro e w3 ⟨q, r, A4, c4, A5, c5, rfl, s4, s5, hD, hq, hb⟩
    replace s1 := s1.next hb
    replace s2 := s2.next hb
    replace s3 := s3.next hb
    replace hB := hB.trans (hb.mono hB.size)
    clear hb
    have hbk := Lib.hid (hD.back (by omega) ea)
    have hqe := hD.qe
    have hre := hD.re
    have hrl : r.length ≤ d := by have h1 := hD.lt; have h2 := hb0.out; omega
    have hrt := tn_le r
    have hgt : ((tn r : Nat) : Int) - 1 < d := by omega
    have hge : decide ((d : Int) ≤ ((tn r : Nat) : Int) - 1) = false := decide_eq_false (by omega)
    clear hD
    go_wp2_with fail
    refine (degree_any _ _ r _ s5 (by omega)).mono ?_; rintro e w' ⟨rfl, rfl⟩
    go_wp2_with fail
    refine (deg_pos _ _ d b _ s2 (by omega) hb0.out).mono ?_; rintro e w' ⟨rfl, rfl⟩
    go_wp2_with fail
    refine (mul_row p hp _ _ _ _ q b hqe eb (by omega) (by omega) _ s4 s2).mono ?_; rintro e w4 ⟨At1, ct1, rfl, t1, hb⟩
    replace s1 := s1.next hb
    replace s2 := s2.next hb
    replace s3 := s3.next hb
    replace s4 := s4.next hb
    replace s5 := s5.next hb
    replace hB := hB.trans (hb.mono hB.size)
    clear hb
    go_wp2_with fail
    refine (add_row p hp _ _ _ _ (pmul p q b) r (pmul_el (by omega) _ _) hre (by have := pmul_len p (q) (b); omega) (by omega) _ t1 s5).mono ?_; rintro e w5 ⟨At2, ct2, rfl, t2, hb⟩
    replace s1 := s1.next hb
    replace s2 := s2.next hb
    replace s3 := s3.next hb
    replace s4 := s4.next hb
    replace s5 := s5.next hb
    replace t1 := t1.next hb
    replace hB := hB.trans (hb.mono hB.size)
    clear hb
    go_wp2_with fail
    refine ((trim_any _ _ a _ s1 (by omega)).mono fun _ _ h => Fresh.row h).mono ?_; rintro e w6 ⟨At3, ct3, rfl, t3, hb⟩
    replace s1 := s1.next hb
    replace s2 := s2.next hb
    replace s3 := s3.next hb
    replace s4 := s4.next hb
    replace s5 := s5.next hb
    replace t1 := t1.next hb
    replace t2 := t2.next hb
    replace hB := hB.trans (hb.mono hB.size)
    clear hb
    go_wp2_with fail
    refine (equal_is _ _ (padd p (pmul p q b) r) (trim a) _ _ _ t2 t3 (by have h1 := pmul_len p q b; have h2 := padd_len p (pmul p q b) r; omega) (hbk.out)).mono ?_; rintro e w7 ⟨rfl, hb⟩
    replace s1 := s1.next hb
    replace s2 := s2.next hb
    replace s3 := s3.next hb
    replace s4 := s4.next hb
    replace s5 := s5.next hb
    replace t1 := t1.next hb
    replace t2 := t2.next hb
    replace t3 := t3.next hb
    replace hB := hB.trans (hb.mono hB.size)
    clear hb
    clear t1
    clear t2
    clear t3
    go_wp2_with fail
    refine (degree_any _ _ c _ s3 (by omega)).mono ?_; rintro e w' ⟨rfl, rfl⟩
    go_wp2_with fail
    refine (deg_pos _ _ d b _ s2 (by omega) hb0.out).mono ?_; rintro e w' ⟨rfl, rfl⟩
    go_wp2_with fail
    refine (awake_any _).mono ?_; rintro e w8 ⟨rfl, hb⟩
    replace s1 := s1.next hb
    replace s2 := s2.next hb
    replace s3 := s3.next hb
    replace s4 := s4.next hb
    replace s5 := s5.next hb
    replace hB := hB.trans (hb.mono hB.size)
    clear hb
    go_wp2_with fail
    go_ret
    exact ⟨rfl, hB⟩
  · have hb0 := Lib.hid hb0
    clear split
    go_enter Try.func8, Try.ntmps8
    go_wp2_with fail
    refine (hfit _ (sa.push _) (sb.push _) (sc.push _)).mono ?_
    rintro e w1 ⟨A1, c1, A2, c2, A3, c3, rfl, s1, s2, s3, hb⟩
    have hB : Below w.heap.size w w1 := ((Below.refl _ _).alloc (Nat.le_refl _) _).trans (hb.mono (by simp))
    clear hb hfit sa sb sc wa wb wc
    generalize wds p xa = a at *
    generalize wds p xb = b at *
    generalize wds p xc = c at *
    have hc1 : ((tn c : Nat) : Int) - 1 < d := by omega
    have hc2 : decide ((d : Int) ≤ ((tn c : Nat) : Int) - 1) = false := decide_eq_false (by omega)
    go_wp2_with fail
    refine (rDeg_pos _ _ d b _ s2 (by omega) hb0.out).mono ?_; rintro e w2 ⟨rfl, hb⟩
    replace s1 := s1.next hb
    replace s2 := s2.next hb
    replace s3 := s3.next hb
    replace hB := hB.trans (hb.mono hB.size)
    clear hb
    go_wp2_with fail
    refine (div_row p hp _ _ _ _ d a b ea eb (by omega) (by omega) _ s1 s2 hb0.out).mono ?_; rintro e w3 ⟨q, r, A4, c4, A5, c5, rfl, s4, s5, hD, hq, hb⟩
    replace s1 := s1.next hb
    replace s2 := s2.next hb
    replace s3 := s3.next hb
    replace hB := hB.trans (hb.mono hB.size)
    clear hb
    have hbk := Lib.hid (hD.back (by omega) ea)
    have hqe := hD.qe
    have hre := hD.re
    have hrl : r.length ≤ d := by have h1 := hD.lt; have h2 := hb0.out; omega
    have hrt := tn_le r
    have hgt : ((tn r : Nat) : Int) - 1 < d := by omega
    have hge : decide ((d : Int) ≤ ((tn r : Nat) : Int) - 1) = false := decide_eq_false (by omega)
    clear hD
    go_wp2_with fail
    refine (degree_any _ _ r _ s5 (by omega)).mono ?_; rintro e w' ⟨rfl, rfl⟩
    go_wp2_with fail
    refine (deg_pos _ _ d b _ s2 (by omega) hb0.out).mono ?_; rintro e w' ⟨rfl, rfl⟩
    go_wp2_with fail
    refine (mul_row p hp _ _ _ _ q b hqe eb (by omega) (by omega) _ s4 s2).mono ?_; rintro e w4 ⟨At1, ct1, rfl, t1, hb⟩
    replace s1 := s1.next hb
    replace s2 := s2.next hb
    replace s3 := s3.next hb
    replace s4 := s4.next hb
    replace s5 := s5.next hb
    replace hB := hB.trans (hb.mono hB.size)
    clear hb
    go_wp2_with fail
    refine (add_row p hp _ _ _ _ (pmul p q b) r (pmul_el (by omega) _ _) hre (by have := pmul_len p (q) (b); omega) (by omega) _ t1 s5).mono ?_; rintro e w5 ⟨At2, ct2, rfl, t2, hb⟩
    replace s1 := s1.next hb
    replace s2 := s2.next hb
    replace s3 := s3.next hb
    replace s4 := s4.next hb
    replace s5 := s5.next hb
    replace t1 := t1.next hb
    replace hB := hB.trans (hb.mono hB.size)
    clear hb
    go_wp2_with fail
    refine ((trim_any _ _ a _ s1 (by omega)).mono fun _ _ h => Fresh.row h).mono ?_; rintro e w6 ⟨At3, ct3, rfl, t3, hb⟩
    replace s1 := s1.next hb
    replace s2 := s2.next hb
    replace s3 := s3.next hb
    replace s4 := s4.next hb
    replace s5 := s5.next hb
    replace t1 := t1.next hb
    replace t2 := t2.next hb
    replace hB := hB.trans (hb.mono hB.size)
    clear hb
    go_wp2_with fail
    refine (equal_is _ _ (padd p (pmul p q b) r) (trim a) _ _ _ t2 t3 (by have h1 := pmul_len p q b; have h2 := padd_len p (pmul p q b) r; omega) (hbk.out)).mono ?_; rintro e w7 ⟨rfl, hb⟩
    replace s1 := s1.next hb
    replace s2 := s2.next hb
    replace s3 := s3.next hb
    replace s4 := s4.next hb
    replace s5 := s5.next hb
    replace t1 := t1.next hb
    replace t2 := t2.next hb
    replace t3 := t3.next hb
    replace hB := hB.trans (hb.mono hB.size)
    clear hb
    clear t1
    clear t2
    clear t3
    go_wp2_with fail
    refine (degree_any _ _ c _ s3 (by omega)).mono ?_; rintro e w' ⟨rfl, rfl⟩
    go_wp2_with fail
    refine (deg_pos _ _ d b _ s2 (by omega) hb0.out).mono ?_; rintro e w' ⟨rfl, rfl⟩
    go_wp2_with fail
    refine (mul_row p hp _ _ _ _ a b ea eb (by omega) (by omega) _ s1 s2).mono ?_; rintro e w8 ⟨At1, ct1, rfl, t1, hb⟩
    replace s1 := s1.next hb
    replace s2 := s2.next hb
    replace s3 := s3.next hb
    replace s4 := s4.next hb
    replace s5 := s5.next hb
    replace hB := hB.trans (hb.mono hB.size)
    clear hb
    go_wp2_with fail
    refine (add_row p hp _ _ _ _ (pmul p a b) c (pmul_el (by omega) _ _) ec (by have := pmul_len p (a) (b); omega) (by omega) _ t1 s3).mono ?_; rintro e w9 ⟨At2, ct2, rfl, t2, hb⟩
    replace s1 := s1.next hb
    replace s2 := s2.next hb
    replace s3 := s3.next hb
    replace s4 := s4.next hb
    replace s5 := s5.next hb
    replace t1 := t1.next hb
    replace hB := hB.trans (hb.mono hB.size)
    clear hb
    go_wp2_with fail
    have hl2 : (padd p (pmul p a b) c).length ≤ 400 := by have h1 := pmul_len p a b; have h2 := padd_len p (pmul p a b) c; omega
    refine (div_row p hp _ _ _ _ d (padd p (pmul p a b) c) b (padd_el (by omega) _ _) eb hl2 (by omega) _ t2 s2 hb0.out).mono ?_; rintro e w10 ⟨q2, r2, A6, c6, A7, c7, rfl, s6, s7, hD2, hq2, hb⟩
    replace s1 := s1.next hb
    replace s2 := s2.next hb
    replace s3 := s3.next hb
    replace s4 := s4.next hb
    replace s5 := s5.next hb
    replace t1 := t1.next hb
    replace t2 := t2.next hb
    replace hB := hB.trans (hb.mono hB.size)
    clear hb
    obtain ⟨rfl, rfl⟩ := hD2.unique hp.good eb (DM.make (q := a) (b := b) (r := c) ea ec (by have h1 := hb0.out; omega))
    have hta := trim_length a
    have htc := trim_length c
    have hta2 := tn_le a
    have htc2 := tn_le c
    have hla2 : (trim a).length ≤ 12 := by omega
    have hlc2 : (trim c).length ≤ 12 := by omega
    clear hD2 hq2 hl2 hta htc hta2 htc2
    go_wp2_with fail
    refine (awake_any _).mono ?_; rintro e w11 ⟨rfl, hb⟩
    replace s1 := s1.next hb
    replace s2 := s2.next hb
    replace s3 := s3.next hb
    replace s4 := s4.next hb
    replace s5 := s5.next hb
    replace t1 := t1.next hb
    replace t2 := t2.next hb
    replace s6 := s6.next hb
    replace s7 := s7.next hb
    replace hB := hB.trans (hb.mono hB.size)
    clear hb
    go_wp2_with fail
    refine ((trim_any _ _ a _ s1 (by omega)).mono fun _ _ h => Fresh.row h).mono ?_; rintro e w12 ⟨At3, ct3, rfl, t3, hb⟩
    replace s1 := s1.next hb
    replace s2 := s2.next hb
    replace s3 := s3.next hb
    replace s4 := s4.next hb
    replace s5 := s5.next hb
    replace t1 := t1.next hb
    replace t2 := t2.next hb
    replace s6 := s6.next hb
    replace s7 := s7.next hb
    replace hB := hB.trans (hb.mono hB.size)
    clear hb
    go_wp2_with fail
    refine (equal_is _ _ (trim a) (trim a) _ _ _ s6 t3 (by omega) (rfl)).mono ?_; rintro e w13 ⟨rfl, hb⟩
    replace s1 := s1.next hb
    replace s2 := s2.next hb
    replace s3 := s3.next hb
    replace s4 := s4.next hb
    replace s5 := s5.next hb
    replace t1 := t1.next hb
    replace t2 := t2.next hb
    replace s6 := s6.next hb
    replace s7 := s7.next hb
    replace t3 := t3.next hb
    replace hB := hB.trans (hb.mono hB.size)
    clear hb
    go_wp2_with fail
    refine ((trim_any _ _ c _ s3 (by omega)).mono fun _ _ h => Fresh.row h).mono ?_; rintro e w14 ⟨At4, ct4, rfl, t4, hb⟩
    replace s1 := s1.next hb
    replace s2 := s2.next hb
    replace s3 := s3.next hb
    replace s4 := s4.next hb
    replace s5 := s5.next hb
    replace t1 := t1.next hb
    replace t2 := t2.next hb
    replace s6 := s6.next hb
    replace s7 := s7.next hb
    replace t3 := t3.next hb
    replace hB := hB.trans (hb.mono hB.size)
    clear hb
    go_wp2_with fail
    refine (equal_is _ _ (trim c) (trim c) _ _ _ s7 t4 (by omega) (rfl)).mono ?_; rintro e w15 ⟨rfl, hb⟩
    replace s1 := s1.next hb
    replace s2 := s2.next hb
    replace s3 := s3.next hb
    replace s4 := s4.next hb
    replace s5 := s5.next hb
    replace t1 := t1.next hb
    replace t2 := t2.next hb
    replace s6 := s6.next hb
    replace s7 := s7.next hb
    replace t3 := t3.next hb
    replace t4 := t4.next hb
    replace hB := hB.trans (hb.mono hB.size)
    clear hb
    go_wp2_with fail
    go_ret
    exact ⟨rfl, hB⟩

set_option maxRecDepth 100000 in
theorem lifted (os : Os) (started : os.Started) (H : Type) (enc : TypeId × Value → H) :
    ReturnsInHanded {} Try.checked os 8 .any (Rows.polyDivisionAlgorithmSpec.pre6 enc Try.prog Try.f8 Rows.polyDivisionAlgorithmRow.domain false) (Rows.polyDivisionAlgorithmSpec.post enc Try.prog Try.f8 false true false false) := by
  refine returnsInHanded_of_change (C := Try.checked) own started (by kernel_rfl) Try.func8
    (ChangeSpec.witness6 (enc := enc) (C := Try.checked) false ⟨#[], #[.agg #[.int .u64 0, .slice none 0 0, .slice none 0 0, .slice none 0 0, .int .u64 0, .int .u64 0]], []⟩ 8 (by kernel_rfl) (by kernel_rfl) (by kernel_rfl) (by kernel_rfl)) ?_
  intro W base args ds gs before hval0 hW hcnd _
  have hval : ∀ (j : Nat) t v, Try.f8.params[j]? = some t → args[j]? = some v → Value.okWide Try.prog W .any base t v := hval0
  have hW' := hW
  obtain ⟨p, q, hA0, hV, rfl, hfz, hnd⟩ := hW
  have hA : DataW.TrodAll enc Try.prog W 0 (fun _ => true) true Try.f8.params.toList args.toList ds p := hA0
  rw [Try.params8] at hA hval
  obtain ⟨v0, d0, rfl, rfl, h0⟩ := trodAll_one hA
  obtain ⟨rfl, rfl⟩ := trodVars_none hV
  clear hA0 hval0
  simp only [List.append_nil] at hW'
  have l0 : ∀ x ∈ p, x.block < W.heap.size := fun x hx => hW'.lt x (by simp [hx])
  obtain ⟨P, X, K, A, B, C, ca, cb, cc, xa, xb, xc, hI⟩ := open_ask (hval 0 31 v0 rfl rfl) h0 l0
  refine (walk W v0 P X K A B C ca cb cc xa xb xc hI).mono fun e W' ⟨he, hb⟩ => ?_
  subst he
  exact ⟨_, rfl, post_of_below (pa := p) (pv := []) hW' (fun _ _ _ => (trodAll_cons_mk (shut_bool Try.underlying4 _) trodAll_mk0)) (fun sp hsp => trodAll_mk1 (staysAsk h0 hb l0 sp (fun x hx => hsp x (by simp [hx])))) (fun _ _ => rfl) (by simp)
    hb (ok_one (by kernel_rfl) rfl (okWide_bool_mk Try.underlying4 _))⟩

theorem over : Rows.polyDivisionAlgorithmRow.holds Try.pinned (OpenSpec.ofChange Rows.polyDivisionAlgorithmSpec) :=
  OpenClaim.holds_of_wide 8 Try.f8 rfl rfl rfl rfl rfl rfl rfl ⟨rfl, rfl, rfl, rfl, rfl⟩ rfl rfl rfl rfl rfl (by kernel_rfl) Try.func8 (by kernel_rfl)
    (of_decide_eq_true (by kernel_rfl)) (by unfold Func.isWrapper; first | (rw [if_pos (by decide +kernel)]; kernel_rfl) | (rw [if_neg (by decide +kernel)]; exact ⟨rfl, rfl⟩))
    (fun os started H enc _ => lifted os started H enc)

theorem proved : Rows.PolyDivisionAlgorithmSaid := over
end Go.Proofs.Ytcnmiodgdnohfaa.polyDivisionAlgorithm
