/- PolyRing: for every supported prime the polynomials over its field form a commutative ring under Add, Sub and Mul of package poly, and the degree of a product of nonzero polynomials is the sum of their degrees; the examples of the document hold. No conditions. -/
import Derived.Test.YtcnmiodgdnohfaaPMore
namespace Go.Proofs.Ytcnmiodgdnohfaa.polyRing
open Go.ChangeShapes Go.WideShapes Go.ChangeAt Go.RowKit Go.Joins PolyMath FieldMath

set_option maxRecDepth 100000 in
set_option maxHeartbeats 4000000 in
theorem walk : AskWalk 6 := by
  intro w v P X K A B C ca cb cc xa xb xc hI
  obtain ⟨rfl, hP, hX, hK, wa, wb, wc, sa, sb, sc⟩ := hI
  have hp := fitP_ok P
  have hfit := fun W (h1 : Sl W A ca xa) (h2 : Sl W B cb xb) (h3 : Sl W C cc xc) => fit_row P X K A B C ca cb cc xa xb xc hP.1 hP.2 wa wb wc W h1 h2 h3
  generalize fitP P = p at hp hfit
  have hbd := hp.bd
  have la := wds_len p xa
  have lb := wds_len p xb
  have lc := wds_len p xc
  have ea := wds_el (p := p) (by omega) xa
  have eb := wds_el (p := p) (by omega) xb
  have ec := wds_el (p := p) (by omega) xc
  have split : ∀ l : List Int, tn l = 0 ∨ ∃ d, tn l = d + 1 := fun l => by
    cases tn l with
    | zero => exact .inl rfl
    | succ d => exact .inr ⟨d, rfl⟩
  rcases split (wds p xa) with ha | ⟨d, ha⟩
  · have ha := Lib.hid ha
    clear split
    go_enter Try.func6, Try.ntmps6
    go_wp2_with fail
    refine (hfit _ (sa.push _) (sb.push _) (sc.push _)).mono ?_
    rintro e w1 ⟨A1, c1, A2, c2, A3, c3, rfl, s1, s2, s3, hb⟩
    have hB : Below w.heap.size w w1 := ((Below.refl _ _).alloc (Nat.le_refl _) _).trans (hb.mono (by simp))
    clear hb hfit sa sb sc wa wb wc
    generalize wds p xa = a at *
    generalize wds p xb = b at *
    generalize wds p xc = c at *
    go_wp2_with fail
    refine (rDeg_zero _ _ a _ s1 (by omega) ha.out).mono ?_; rintro e w2 ⟨rfl, hb⟩
    replace s1 := s1.next hb
    replace s2 := s2.next hb
    replace s3 := s3.next hb
    replace hB := hB.trans (hb.mono hB.size)
    clear hb
    go_wp2_with fail
    refine (awake_any _).mono ?_; rintro e w3 ⟨rfl, hb⟩
    replace s1 := s1.next hb
    replace s2 := s2.next hb
    replace s3 := s3.next hb
    replace hB := hB.trans (hb.mono hB.size)
    clear hb
    go_wp2_with fail
    refine (add_row p hp _ _ _ _ (a) (b) ea eb (by omega) (by omega) _ s1 s2).mono ?_; rintro e w4 ⟨At1, ct1, rfl, t1, hb⟩
    replace s1 := s1.next hb
    replace s2 := s2.next hb
    replace s3 := s3.next hb
    replace hB := hB.trans (hb.mono hB.size)
    clear hb
    go_wp2_with fail
    refine (add_row p hp _ _ _ _ (padd p a b) (c) (padd_el (by omega) _ _) ec (by have := padd_len p (a) (b); omega) (by omega) _ t1 s3).mono ?_; rintro e w5 ⟨At2, ct2, rfl, t2, hb⟩
    replace s1 := s1.next hb
    replace s2 := s2.next hb
    replace s3 := s3.next hb
    replace t1 := t1.next hb
    replace hB := hB.trans (hb.mono hB.size)
    clear hb
    go_wp2_with fail
    refine (add_row p hp _ _ _ _ (b) (c) eb ec (by omega) (by omega) _ s2 s3).mono ?_; rintro e w6 ⟨At3, ct3, rfl, t3, hb⟩
    replace s1 := s1.next hb
    replace s2 := s2.next hb
    replace s3 := s3.next hb
    replace t1 := t1.next hb
    replace t2 := t2.next hb
    replace hB := hB.trans (hb.mono hB.size)
    clear hb
    go_wp2_with fail
    refine (add_row p hp _ _ _ _ (a) (padd p b c) ea (padd_el (by omega) _ _) (by omega) (by have := padd_len p (b) (c); omega) _ s1 t3).mono ?_; rintro e w7 ⟨At4, ct4, rfl, t4, hb⟩
    replace s1 := s1.next hb
    replace s2 := s2.next hb
    replace s3 := s3.next hb
    replace t1 := t1.next hb
    replace t2 := t2.next hb
    replace t3 := t3.next hb
    replace hB := hB.trans (hb.mono hB.size)
    clear hb
    go_wp2_with fail
    refine (equal_is _ _ (padd p (padd p a b) c) (padd p a (padd p b c)) _ _ _ t2 t4 (by have h1 := padd_len p a b; have h2 := padd_len p (padd p a b) c; omega) (padd_assoc p a b c)).mono ?_; rintro e w8 ⟨rfl, hb⟩
    replace s1 := s1.next hb
    replace s2 := s2.next hb
    replace s3 := s3.next hb
    replace t1 := t1.next hb
    replace t2 := t2.next hb
    replace t3 := t3.next hb
    replace t4 := t4.next hb
    replace hB := hB.trans (hb.mono hB.size)
    clear hb
    clear t1
    clear t2
    clear t3
    clear t4
    go_wp2_with fail
    refine (mul_row p hp _ _ _ _ (a) (b) ea eb (by omega) (by omega) _ s1 s2).mono ?_; rintro e w9 ⟨At1, ct1, rfl, t1, hb⟩
    replace s1 := s1.next hb
    replace s2 := s2.next hb
    replace s3 := s3.next hb
    replace hB := hB.trans (hb.mono hB.size)
    clear hb
    go_wp2_with fail
    refine (mul_row p hp _ _ _ _ (b) (a) eb ea (by omega) (by omega) _ s2 s1).mono ?_; rintro e w10 ⟨At2, ct2, rfl, t2, hb⟩
    replace s1 := s1.next hb
    replace s2 := s2.next hb
    replace s3 := s3.next hb
    replace t1 := t1.next hb
    replace hB := hB.trans (hb.mono hB.size)
    clear hb
    go_wp2_with fail
    refine (equal_is _ _ (pmul p a b) (pmul p b a) _ _ _ t1 t2 (by have := pmul_len p (a) (b); omega) (pmul_comm p a b)).mono ?_; rintro e w11 ⟨rfl, hb⟩
    replace s1 := s1.next hb
    replace s2 := s2.next hb
    replace s3 := s3.next hb
    replace t1 := t1.next hb
    replace t2 := t2.next hb
    replace hB := hB.trans (hb.mono hB.size)
    clear hb
    clear t1
    clear t2
    go_wp2_with fail
    refine (mul_row p hp _ _ _ _ (a) (b) ea eb (by omega) (by omega) _ s1 s2).mono ?_; rintro e w12 ⟨At1, ct1, rfl, t1, hb⟩
    replace s1 := s1.next hb
    replace s2 := s2.next hb
    replace s3 := s3.next hb
    replace hB := hB.trans (hb.mono hB.size)
    clear hb
    go_wp2_with fail
    refine (mul_row p hp _ _ _ _ (pmul p a b) (c) (pmul_el (by omega) _ _) ec (by have := pmul_len p (a) (b); omega) (by omega) _ t1 s3).mono ?_; rintro e w13 ⟨At2, ct2, rfl, t2, hb⟩
    replace s1 := s1.next hb
    replace s2 := s2.next hb
    replace s3 := s3.next hb
    replace t1 := t1.next hb
    replace hB := hB.trans (hb.mono hB.size)
    clear hb
    go_wp2_with fail
    refine (mul_row p hp _ _ _ _ (b) (c) eb ec (by omega) (by omega) _ s2 s3).mono ?_; rintro e w14 ⟨At3, ct3, rfl, t3, hb⟩
    replace s1 := s1.next hb
    replace s2 := s2.next hb
    replace s3 := s3.next hb
    replace t1 := t1.next hb
    replace t2 := t2.next hb
    replace hB := hB.trans (hb.mono hB.size)
    clear hb
    go_wp2_with fail
    refine (mul_row p hp _ _ _ _ (a) (pmul p b c) ea (pmul_el (by omega) _ _) (by omega) (by have := pmul_len p (b) (c); omega) _ s1 t3).mono ?_; rintro e w15 ⟨At4, ct4, rfl, t4, hb⟩
    replace s1 := s1.next hb
    replace s2 := s2.next hb
    replace s3 := s3.next hb
    replace t1 := t1.next hb
    replace t2 := t2.next hb
    replace t3 := t3.next hb
    replace hB := hB.trans (hb.mono hB.size)
    clear hb
    go_wp2_with fail
    refine (equal_is _ _ (pmul p (pmul p a b) c) (pmul p a (pmul p b c)) _ _ _ t2 t4 (by have h1 := pmul_len p a b; have h2 := pmul_len p (pmul p a b) c; omega) (pmul_assoc p a b c)).mono ?_; rintro e w16 ⟨rfl, hb⟩
    replace s1 := s1.next hb
    replace s2 := s2.next hb
    replace s3 := s3.next hb
    replace t1 := t1.next hb
    replace t2 := t2.next hb
    replace t3 := t3.next hb
    replace t4 := t4.next hb
    replace hB := hB.trans (hb.mono hB.size)
    clear hb
    clear t1
    clear t2
    clear t3
    clear t4
    go_wp2_with fail
    refine (add_row p hp _ _ _ _ (b) (c) eb ec (by omega) (by omega) _ s2 s3).mono ?_; rintro e w17 ⟨At1, ct1, rfl, t1, hb⟩
    replace s1 := s1.next hb
    replace s2 := s2.next hb
    replace s3 := s3.next hb
    replace hB := hB.trans (hb.mono hB.size)
    clear hb
    go_wp2_with fail
    refine (mul_row p hp _ _ _ _ (a) (padd p b c) ea (padd_el (by omega) _ _) (by omega) (by have := padd_len p (b) (c); omega) _ s1 t1).mono ?_; rintro e w18 ⟨At2, ct2, rfl, t2, hb⟩
    replace s1 := s1.next hb
    replace s2 := s2.next hb
    replace s3 := s3.next hb
    replace t1 := t1.next hb
    replace hB := hB.trans (hb.mono hB.size)
    clear hb
    go_wp2_with fail
    refine (mul_row p hp _ _ _ _ (a) (b) ea eb (by omega) (by omega) _ s1 s2).mono ?_; rintro e w19 ⟨At3, ct3, rfl, t3, hb⟩
    replace s1 := s1.next hb
    replace s2 := s2.next hb
    replace s3 := s3.next hb
    replace t1 := t1.next hb
    replace t2 := t2.next hb
    replace hB := hB.trans (hb.mono hB.size)
    clear hb
    go_wp2_with fail
    refine (mul_row p hp _ _ _ _ (a) (c) ea ec (by omega) (by omega) _ s1 s3).mono ?_; rintro e w20 ⟨At4, ct4, rfl, t4, hb⟩
    replace s1 := s1.next hb
    replace s2 := s2.next hb
    replace s3 := s3.next hb
    replace t1 := t1.next hb
    replace t2 := t2.next hb
    replace t3 := t3.next hb
    replace hB := hB.trans (hb.mono hB.size)
    clear hb
    go_wp2_with fail
    refine (add_row p hp _ _ _ _ (pmul p a b) (pmul p a c) (pmul_el (by omega) _ _) (pmul_el (by omega) _ _) (by have := pmul_len p (a) (b); omega) (by have := pmul_len p (a) (c); omega) _ t3 t4).mono ?_; rintro e w21 ⟨At5, ct5, rfl, t5, hb⟩
    replace s1 := s1.next hb
    replace s2 := s2.next hb
    replace s3 := s3.next hb
    replace t1 := t1.next hb
    replace t2 := t2.next hb
    replace t3 := t3.next hb
    replace t4 := t4.next hb
    replace hB := hB.trans (hb.mono hB.size)
    clear hb
    go_wp2_with fail
    refine (equal_is _ _ (pmul p a (padd p b c)) (padd p (pmul p a b) (pmul p a c)) _ _ _ t2 t5 (by have h1 := padd_len p b c; have h2 := pmul_len p a (padd p b c); omega) (pmul_padd p a b c)).mono ?_; rintro e w22 ⟨rfl, hb⟩
    replace s1 := s1.next hb
    replace s2 := s2.next hb
    replace s3 := s3.next hb
    replace t1 := t1.next hb
    replace t2 := t2.next hb
    replace t3 := t3.next hb
    replace t4 := t4.next hb
    replace t5 := t5.next hb
    replace hB := hB.trans (hb.mono hB.size)
    clear hb
    clear t1
    clear t2
    clear t3
    clear t4
    clear t5
    go_wp2_with fail
    refine (sub_row p hp _ _ _ _ a b ea eb (by omega) (by omega) _ s1 s2).mono ?_; rintro e w23 ⟨At1, ct1, rfl, t1, hb⟩
    replace s1 := s1.next hb
    replace s2 := s2.next hb
    replace s3 := s3.next hb
    replace hB := hB.trans (hb.mono hB.size)
    clear hb
    go_wp2_with fail
    refine (add_row p hp _ _ _ _ (psub p a b) (b) (psub_el (by omega) _ _) eb (by have := psub_len p (a) (b); omega) (by omega) _ t1 s2).mono ?_; rintro e w24 ⟨At2, ct2, rfl, t2, hb⟩
    replace s1 := s1.next hb
    replace s2 := s2.next hb
    replace s3 := s3.next hb
    replace t1 := t1.next hb
    replace hB := hB.trans (hb.mono hB.size)
    clear hb
    go_wp2_with fail
    refine ((trim_any _ _ a _ s1 (by omega)).mono fun _ _ h => Fresh.row h).mono ?_; rintro e w25 ⟨At3, ct3, rfl, t3, hb⟩
    replace s1 := s1.next hb
    replace s2 := s2.next hb
    replace s3 := s3.next hb
    replace t1 := t1.next hb
    replace t2 := t2.next hb
    replace hB := hB.trans (hb.mono hB.size)
    clear hb
    go_wp2_with fail
    refine (equal_is _ _ (padd p (psub p a b) b) (trim a) _ _ _ t2 t3 (by have h1 := psub_len p a b; have h2 := padd_len p (psub p a b) b; omega) (psub_padd (by omega) ea b)).mono ?_; rintro e w26 ⟨rfl, hb⟩
    replace s1 := s1.next hb
    replace s2 := s2.next hb
    replace s3 := s3.next hb
    replace t1 := t1.next hb
    replace t2 := t2.next hb
    replace t3 := t3.next hb
    replace hB := hB.trans (hb.mono hB.size)
    clear hb
    clear t1
    clear t2
    clear t3
    go_wp2_with fail
    refine (sub_none p hp _ _ a ea (by omega) _ s1).mono ?_; rintro e w27 ⟨At1, ct1, rfl, t1, hb⟩
    replace s1 := s1.next hb
    replace s2 := s2.next hb
    replace s3 := s3.next hb
    replace hB := hB.trans (hb.mono hB.size)
    clear hb
    go_wp2_with fail
    go_ret
    exact ⟨rfl, hB⟩
  rcases split (wds p xb) with hb0 | ⟨d', hb0⟩
  · have ha := Lib.hid ha
    have hb0 := Lib.hid hb0
    clear split
    have hda : d < 400 := by have h1 := tn_le (wds p xa); have := ha.out; omega
    go_enter Try.func6, Try.ntmps6
    go_wp2_with fail
    refine (hfit _ (sa.push _) (sb.push _) (sc.push _)).mono ?_
    rintro e w1 ⟨A1, c1, A2, c2, A3, c3, rfl, s1, s2, s3, hb⟩
    have hB : Below w.heap.size w w1 := ((Below.refl _ _).alloc (Nat.le_refl _) _).trans (hb.mono (by simp))
    clear hb hfit sa sb sc wa wb wc
    generalize wds p xa = a at *
    generalize wds p xb = b at *
    generalize wds p xc = c at *
    go_wp2_with fail
    refine (rDeg_pos _ _ d a _ s1 (by omega) ha.out).mono ?_; rintro e w2 ⟨rfl, hb⟩
    replace s1 := s1.next hb
    replace s2 := s2.next hb
    replace s3 := s3.next hb
    replace hB := hB.trans (hb.mono hB.size)
    clear hb
    go_wp2_with fail
    refine (rDeg_zero _ _ b _ s2 (by omega) hb0.out).mono ?_; rintro e w3 ⟨rfl, hb⟩
    replace s1 := s1.next hb
    replace s2 := s2.next hb
    replace s3 := s3.next hb
    replace hB := hB.trans (hb.mono hB.size)
    clear hb
    go_wp2_with fail
    refine (awake_any _).mono ?_; rintro e w4 ⟨rfl, hb⟩
    replace s1 := s1.next hb
    replace s2 := s2.next hb
    replace s3 := s3.next hb
    replace hB := hB.trans (hb.mono hB.size)
    clear hb
    go_wp2_with fail
    refine (add_row p hp _ _ _ _ (a) (b) ea eb (by omega) (by omega) _ s1 s2).mono ?_; rintro e w5 ⟨At1, ct1, rfl, t1, hb⟩
    replace s1 := s1.next hb
    replace s2 := s2.next hb
    replace s3 := s3.next hb
    replace hB := hB.trans (hb.mono hB.size)
    clear hb
    go_wp2_with fail
    refine (add_row p hp _ _ _ _ (padd p a b) (c) (padd_el (by omega) _ _) ec (by have := padd_len p (a) (b); omega) (by omega) _ t1 s3).mono ?_; rintro e w6 ⟨At2, ct2, rfl, t2, hb⟩
    replace s1 := s1.next hb
    replace s2 := s2.next hb
    replace s3 := s3.next hb
    replace t1 := t1.next hb
    replace hB := hB.trans (hb.mono hB.size)
    clear hb
    go_wp2_with fail
    refine (add_row p hp _ _ _ _ (b) (c) eb ec (by omega) (by omega) _ s2 s3).mono ?_; rintro e w7 ⟨At3, ct3, rfl, t3, hb⟩
    replace s1 := s1.next hb
    replace s2 := s2.next hb
    replace s3 := s3.next hb
    replace t1 := t1.next hb
    replace t2 := t2.next hb
    replace hB := hB.trans (hb.mono hB.size)
    clear hb
    go_wp2_with fail
    refine (add_row p hp _ _ _ _ (a) (padd p b c) ea (padd_el (by omega) _ _) (by omega) (by have := padd_len p (b) (c); omega) _ s1 t3).mono ?_; rintro e w8 ⟨At4, ct4, rfl, t4, hb⟩
    replace s1 := s1.next hb
    replace s2 := s2.next hb
    replace s3 := s3.next hb
    replace t1 := t1.next hb
    replace t2 := t2.next hb
    replace t3 := t3.next hb
    replace hB := hB.trans (hb.mono hB.size)
    clear hb
    go_wp2_with fail
    refine (equal_is _ _ (padd p (padd p a b) c) (padd p a (padd p b c)) _ _ _ t2 t4 (by have h1 := padd_len p a b; have h2 := padd_len p (padd p a b) c; omega) (padd_assoc p a b c)).mono ?_; rintro e w9 ⟨rfl, hb⟩
    replace s1 := s1.next hb
    replace s2 := s2.next hb
    replace s3 := s3.next hb
    replace t1 := t1.next hb
    replace t2 := t2.next hb
    replace t3 := t3.next hb
    replace t4 := t4.next hb
    replace hB := hB.trans (hb.mono hB.size)
    clear hb
    clear t1
    clear t2
    clear t3
    clear t4
    go_wp2_with fail
    refine (mul_row p hp _ _ _ _ (a) (b) ea eb (by omega) (by omega) _ s1 s2).mono ?_; rintro e w10 ⟨At1, ct1, rfl, t1, hb⟩
    replace s1 := s1.next hb
    replace s2 := s2.next hb
    replace s3 := s3.next hb
    replace hB := hB.trans (hb.mono hB.size)
    clear hb
    go_wp2_with fail
    refine (mul_row p hp _ _ _ _ (b) (a) eb ea (by omega) (by omega) _ s2 s1).mono ?_; rintro e w11 ⟨At2, ct2, rfl, t2, hb⟩
    replace s1 := s1.next hb
    replace s2 := s2.next hb
    replace s3 := s3.next hb
    replace t1 := t1.next hb
    replace hB := hB.trans (hb.mono hB.size)
    clear hb
    go_wp2_with fail
    refine (equal_is _ _ (pmul p a b) (pmul p b a) _ _ _ t1 t2 (by have := pmul_len p (a) (b); omega) (pmul_comm p a b)).mono ?_; rintro e w12 ⟨rfl, hb⟩
    replace s1 := s1.next hb
    replace s2 := s2.next hb
    replace s3 := s3.next hb
    replace t1 := t1.next hb
    replace t2 := t2.next hb
    replace hB := hB.trans (hb.mono hB.size)
    clear hb
    clear t1
    clear t2
    go_wp2_with fail
    refine (mul_row p hp _ _ _ _ (a) (b) ea eb (by omega) (by omega) _ s1 s2).mono ?_; rintro e w13 ⟨At1, ct1, rfl, t1, hb⟩
    replace s1 := s1.next hb
    replace s2 := s2.next hb
    replace s3 := s3.next hb
    replace hB := hB.trans (hb.mono hB.size)
    clear hb
    go_wp2_with fail
    refine (mul_row p hp _ _ _ _ (pmul p a b) (c) (pmul_el (by omega) _ _) ec (by have := pmul_len p (a) (b); omega) (by omega) _ t1 s3).mono ?_; rintro e w14 ⟨At2, ct2, rfl, t2, hb⟩
    replace s1 := s1.next hb
    replace s2 := s2.next hb
    replace s3 := s3.next hb
    replace t1 := t1.next hb
    replace hB := hB.trans (hb.mono hB.size)
    clear hb
    go_wp2_with fail
    refine (mul_row p hp _ _ _ _ (b) (c) eb ec (by omega) (by omega) _ s2 s3).mono ?_; rintro e w15 ⟨At3, ct3, rfl, t3, hb⟩
    replace s1 := s1.next hb
    replace s2 := s2.next hb
    replace s3 := s3.next hb
    replace t1 := t1.next hb
    replace t2 := t2.next hb
    replace hB := hB.trans (hb.mono hB.size)
    clear hb
    go_wp2_with fail
    refine (mul_row p hp _ _ _ _ (a) (pmul p b c) ea (pmul_el (by omega) _ _) (by omega) (by have := pmul_len p (b) (c); omega) _ s1 t3).mono ?_; rintro e w16 ⟨At4, ct4, rfl, t4, hb⟩
    replace s1 := s1.next hb
    replace s2 := s2.next hb
    replace s3 := s3.next hb
    replace t1 := t1.next hb
    replace t2 := t2.next hb
    replace t3 := t3.next hb
    replace hB := hB.trans (hb.mono hB.size)
    clear hb
    go_wp2_with fail
    refine (equal_is _ _ (pmul p (pmul p a b) c) (pmul p a (pmul p b c)) _ _ _ t2 t4 (by have h1 := pmul_len p a b; have h2 := pmul_len p (pmul p a b) c; omega) (pmul_assoc p a b c)).mono ?_; rintro e w17 ⟨rfl, hb⟩
    replace s1 := s1.next hb
    replace s2 := s2.next hb
    replace s3 := s3.next hb
    replace t1 := t1.next hb
    replace t2 := t2.next hb
    replace t3 := t3.next hb
    replace t4 := t4.next hb
    replace hB := hB.trans (hb.mono hB.size)
    clear hb
    clear t1
    clear t2
    clear t3
    clear t4
    go_wp2_with fail
    refine (add_row p hp _ _ _ _ (b) (c) eb ec (by omega) (by omega) _ s2 s3).mono ?_; rintro e w18 ⟨At1, ct1, rfl, t1, hb⟩
    replace s1 := s1.next hb
    replace s2 := s2.next hb
    replace s3 := s3.next hb
    replace hB := hB.trans (hb.mono hB.size)
    clear hb
    go_wp2_with fail
    refine (mul_row p hp _ _ _ _ (a) (padd p b c) ea (padd_el (by omega) _ _) (by omega) (by have := padd_len p (b) (c); omega) _ s1 t1).mono ?_; rintro e w19 ⟨At2, ct2, rfl, t2, hb⟩
    replace s1 := s1.next hb
    replace s2 := s2.next hb
    replace s3 := s3.next hb
    replace t1 := t1.next hb
    replace hB := hB.trans (hb.mono hB.size)
    clear hb
    go_wp2_with fail
    refine (mul_row p hp _ _ _ _ (a) (b) ea eb (by omega) (by omega) _ s1 s2).mono ?_; rintro e w20 ⟨At3, ct3, rfl, t3, hb⟩
    replace s1 := s1.next hb
    replace s2 := s2.next hb
    replace s3 := s3.next hb
    replace t1 := t1.next hb
    replace t2 := t2.next hb
    replace hB := hB.trans (hb.mono hB.size)
    clear hb
    go_wp2_with fail
    refine (mul_row p hp _ _ _ _ (a) (c) ea ec (by omega) (by omega) _ s1 s3).mono ?_; rintro e w21 ⟨At4, ct4, rfl, t4, hb⟩
    replace s1 := s1.next hb
    replace s2 := s2.next hb
    replace s3 := s3.next hb
    replace t1 := t1.next hb
    replace t2 := t2.next hb
    replace t3 := t3.next hb
    replace hB := hB.trans (hb.mono hB.size)
    clear hb
    go_wp2_with fail
    refine (add_row p hp _ _ _ _ (pmul p a b) (pmul p a c) (pmul_el (by omega) _ _) (pmul_el (by omega) _ _) (by have := pmul_len p (a) (b); omega) (by have := pmul_len p (a) (c); omega) _ t3 t4).mono ?_; rintro e w22 ⟨At5, ct5, rfl, t5, hb⟩
    replace s1 := s1.next hb
    replace s2 := s2.next hb
    replace s3 := s3.next hb
    replace t1 := t1.next hb
    replace t2 := t2.next hb
    replace t3 := t3.next hb
    replace t4 := t4.next hb
    replace hB := hB.trans (hb.mono hB.size)
    clear hb
    go_wp2_with fail
    refine (equal_is _ _ (pmul p a (padd p b c)) (padd p (pmul p a b) (pmul p a c)) _ _ _ t2 t5 (by have h1 := padd_len p b c; have h2 := pmul_len p a (padd p b c); omega) (pmul_padd p a b c)).mono ?_; rintro e w23 ⟨rfl, hb⟩
    replace s1 := s1.next hb
    replace s2 := s2.next hb
    replace s3 := s3.next hb
    replace t1 := t1.next hb
    replace t2 := t2.next hb
    replace t3 := t3.next hb
    replace t4 := t4.next hb
    replace t5 := t5.next hb
    replace hB := hB.trans (hb.mono hB.size)
    clear hb
    clear t1
    clear t2
    clear t3
    clear t4
    clear t5
    go_wp2_with fail
    refine (sub_row p hp _ _ _ _ a b ea eb (by omega) (by omega) _ s1 s2).mono ?_; rintro e w24 ⟨At1, ct1, rfl, t1, hb⟩
    replace s1 := s1.next hb
    replace s2 := s2.next hb
    replace s3 := s3.next hb
    replace hB := hB.trans (hb.mono hB.size)
    clear hb
    go_wp2_with fail
    refine (add_row p hp _ _ _ _ (psub p a b) (b) (psub_el (by omega) _ _) eb (by have := psub_len p (a) (b); omega) (by omega) _ t1 s2).mono ?_; rintro e w25 ⟨At2, ct2, rfl, t2, hb⟩
    replace s1 := s1.next hb
    replace s2 := s2.next hb
    replace s3 := s3.next hb
    replace t1 := t1.next hb
    replace hB := hB.trans (hb.mono hB.size)
    clear hb
    go_wp2_with fail
    refine ((trim_any _ _ a _ s1 (by omega)).mono fun _ _ h => Fresh.row h).mono ?_; rintro e w26 ⟨At3, ct3, rfl, t3, hb⟩
    replace s1 := s1.next hb
    replace s2 := s2.next hb
    replace s3 := s3.next hb
    replace t1 := t1.next hb
    replace t2 := t2.next hb
    replace hB := hB.trans (hb.mono hB.size)
    clear hb
    go_wp2_with fail
    refine (equal_is _ _ (padd p (psub p a b) b) (trim a) _ _ _ t2 t3 (by have h1 := psub_len p a b; have h2 := padd_len p (psub p a b) b; omega) (psub_padd (by omega) ea b)).mono ?_; rintro e w27 ⟨rfl, hb⟩
    replace s1 := s1.next hb
    replace s2 := s2.next hb
    replace s3 := s3.next hb
    replace t1 := t1.next hb
    replace t2 := t2.next hb
    replace t3 := t3.next hb
    replace hB := hB.trans (hb.mono hB.size)
    clear hb
    clear t1
    clear t2
    clear t3
    go_wp2_with fail
    refine (sub_none p hp _ _ a ea (by omega) _ s1).mono ?_; rintro e w28 ⟨At1, ct1, rfl, t1, hb⟩
    replace s1 := s1.next hb
    replace s2 := s2.next hb
    replace s3 := s3.next hb
    replace hB := hB.trans (hb.mono hB.size)
    clear hb
    go_wp2_with fail
    go_ret
    exact ⟨rfl, hB⟩
  · have ha := Lib.hid ha
    have hb0 := Lib.hid hb0
    clear split
    have hda : d < 400 := by have h1 := tn_le (wds p xa); have := ha.out; omega
    have hdb : d' < 400 := by have h1 := tn_le (wds p xb); have := hb0.out; omega
    go_enter Try.func6, Try.ntmps6
    go_wp2_with fail
    refine (hfit _ (sa.push _) (sb.push _) (sc.push _)).mono ?_
    rintro e w1 ⟨A1, c1, A2, c2, A3, c3, rfl, s1, s2, s3, hb⟩
    have hB : Below w.heap.size w w1 := ((Below.refl _ _).alloc (Nat.le_refl _) _).trans (hb.mono (by simp))
    clear hb hfit sa sb sc wa wb wc
    generalize wds p xa = a at *
    generalize wds p xb = b at *
    generalize wds p xc = c at *
    go_wp2_with fail
    refine (rDeg_pos _ _ d a _ s1 (by omega) ha.out).mono ?_; rintro e w2 ⟨rfl, hb⟩
    replace s1 := s1.next hb
    replace s2 := s2.next hb
    replace s3 := s3.next hb
    replace hB := hB.trans (hb.mono hB.size)
    clear hb
    go_wp2_with fail
    refine (rDeg_pos _ _ d' b _ s2 (by omega) hb0.out).mono ?_; rintro e w3 ⟨rfl, hb⟩
    replace s1 := s1.next hb
    replace s2 := s2.next hb
    replace s3 := s3.next hb
    replace hB := hB.trans (hb.mono hB.size)
    clear hb
    go_wp2_with fail
    refine (mul_row p hp _ _ _ _ a b ea eb (by omega) (by omega) _ s1 s2).mono ?_; rintro e w4 ⟨At0, ct0, rfl, t0, hb⟩
    replace s1 := s1.next hb
    replace s2 := s2.next hb
    replace s3 := s3.next hb
    replace hB := hB.trans (hb.mono hB.size)
    clear hb
    go_wp2_with fail
    refine (deg_prod p hp _ _ d d' a b ea eb (by omega) (by omega) ha.out hb0.out _ t0).mono ?_; rintro e w' ⟨rfl, rfl⟩
    go_wp2_with fail
    refine (deg_pos _ _ d a _ s1 (by omega) ha.out).mono ?_; rintro e w' ⟨rfl, rfl⟩
    go_wp2_with fail
    refine (deg_pos _ _ d' b _ s2 (by omega) hb0.out).mono ?_; rintro e w' ⟨rfl, rfl⟩
    clear t0
    go_wp2_with fail
    refine (awake_any _).mono ?_; rintro e w5 ⟨rfl, hb⟩
    replace s1 := s1.next hb
    replace s2 := s2.next hb
    replace s3 := s3.next hb
    replace hB := hB.trans (hb.mono hB.size)
    clear hb
    go_wp2_with fail
    refine (add_row p hp _ _ _ _ (a) (b) ea eb (by omega) (by omega) _ s1 s2).mono ?_; rintro e w6 ⟨At1, ct1, rfl, t1, hb⟩
    replace s1 := s1.next hb
    replace s2 := s2.next hb
    replace s3 := s3.next hb
    replace hB := hB.trans (hb.mono hB.size)
    clear hb
    go_wp2_with fail
    refine (add_row p hp _ _ _ _ (padd p a b) (c) (padd_el (by omega) _ _) ec (by have := padd_len p (a) (b); omega) (by omega) _ t1 s3).mono ?_; rintro e w7 ⟨At2, ct2, rfl, t2, hb⟩
    replace s1 := s1.next hb
    replace s2 := s2.next hb
    replace s3 := s3.next hb
    replace t1 := t1.next hb
    replace hB := hB.trans (hb.mono hB.size)
    clear hb
    go_wp2_with fail
    refine (add_row p hp _ _ _ _ (b) (c) eb ec (by omega) (by omega) _ s2 s3).mono ?_; rintro e w8 ⟨At3, ct3, rfl, t3, hb⟩
    replace s1 := s1.next hb
    replace s2 := s2.next hb
    replace s3 := s3.next hb
    replace t1 := t1.next hb
    replace t2 := t2.next hb
    replace hB := hB.trans (hb.mono hB.size)
    clear hb
    go_wp2_with fail
    refine (add_row p hp _ _ _ _ (a) (padd p b c) ea (padd_el (by omega) _ _) (by omega) (by have := padd_len p (b) (c); omega) _ s1 t3).mono ?_; rintro e w9 ⟨At4, ct4, rfl, t4, hb⟩
    replace s1 := s1.next hb
    replace s2 := s2.next hb
    replace s3 := s3.next hb
    replace t1 := t1.next hb
    replace t2 := t2.next hb
    replace t3 := t3.next hb
    replace hB := hB.trans (hb.mono hB.size)
    clear hb
    go_wp2_with fail
    refine (equal_is _ _ (padd p (padd p a b) c) (padd p a (padd p b c)) _ _ _ t2 t4 (by have h1 := padd_len p a b; have h2 := padd_len p (padd p a b) c; omega) (padd_assoc p a b c)).mono ?_; rintro e w10 ⟨rfl, hb⟩
    replace s1 := s1.next hb
    replace s2 := s2.next hb
    replace s3 := s3.next hb
    replace t1 := t1.next hb
    replace t2 := t2.next hb
    replace t3 := t3.next hb
    replace t4 := t4.next hb
    replace hB := hB.trans (hb.mono hB.size)
    clear hb
    clear t1
    clear t2
    clear t3
    clear t4
    go_wp2_with fail
    refine (mul_row p hp _ _ _ _ (a) (b) ea eb (by omega) (by omega) _ s1 s2).mono ?_; rintro e w11 ⟨At1, ct1, rfl, t1, hb⟩
    replace s1 := s1.next hb
    replace s2 := s2.next hb
    replace s3 := s3.next hb
    replace hB := hB.trans (hb.mono hB.size)
    clear hb
    go_wp2_with fail
    refine (mul_row p hp _ _ _ _ (b) (a) eb ea (by omega) (by omega) _ s2 s1).mono ?_; rintro e w12 ⟨At2, ct2, rfl, t2, hb⟩
    replace s1 := s1.next hb
    replace s2 := s2.next hb
    replace s3 := s3.next hb
    replace t1 := t1.next hb
    replace hB := hB.trans (hb.mono hB.size)
    clear hb
    go_wp2_with fail
    refine (equal_is _ _ (pmul p a b) (pmul p b a) _ _ _ t1 t2 (by have := pmul_len p (a) (b); omega) (pmul_comm p a b)).mono ?_; rintro e w13 ⟨rfl, hb⟩
    replace s1 := s1.next hb
    replace s2 := s2.next hb
    replace s3 := s3.next hb
    replace t1 := t1.next hb
    replace t2 := t2.next hb
    replace hB := hB.trans (hb.mono hB.size)
    clear hb
    clear t1
    clear t2
    go_wp2_with fail
    refine (mul_row p hp _ _ _ _ (a) (b) ea eb (by omega) (by omega) _ s1 s2).mono ?_; rintro e w14 ⟨At1, ct1, rfl, t1, hb⟩
    replace s1 := s1.next hb
    replace s2 := s2.next hb
    replace s3 := s3.next hb
    replace hB := hB.trans (hb.mono hB.size)
    clear hb
    go_wp2_with fail
    refine (mul_row p hp _ _ _ _ (pmul p a b) (c) (pmul_el (by omega) _ _) ec (by have := pmul_len p (a) (b); omega) (by omega) _ t1 s3).mono ?_; rintro e w15 ⟨At2, ct2, rfl, t2, hb⟩
    replace s1 := s1.next hb
    replace s2 := s2.next hb
    replace s3 := s3.next hb
    replace t1 := t1.next hb
    replace hB := hB.trans (hb.mono hB.size)
    clear hb
    go_wp2_with fail
    refine (mul_row p hp _ _ _ _ (b) (c) eb ec (by omega) (by omega) _ s2 s3).mono ?_; rintro e w16 ⟨At3, ct3, rfl, t3, hb⟩
    replace s1 := s1.next hb
    replace s2 := s2.next hb
    replace s3 := s3.next hb
    replace t1 := t1.next hb
    replace t2 := t2.next hb
    replace hB := hB.trans (hb.mono hB.size)
    clear hb
    go_wp2_with fail
    refine (mul_row p hp _ _ _ _ (a) (pmul p b c) ea (pmul_el (by omega) _ _) (by omega) (by have := pmul_len p (b) (c); omega) _ s1 t3).mono ?_; rintro e w17 ⟨At4, ct4, rfl, t4, hb⟩
    replace s1 := s1.next hb
    replace s2 := s2.next hb
    replace s3 := s3.next hb
    replace t1 := t1.next hb
    replace t2 := t2.next hb
    replace t3 := t3.next hb
    replace hB := hB.trans (hb.mono hB.size)
    clear hb
    go_wp2_with fail
    refine (equal_is _ _ (pmul p (pmul p a b) c) (pmul p a (pmul p b c)) _ _ _ t2 t4 (by have h1 := pmul_len p a b; have h2 := pmul_len p (pmul p a b) c; omega) (pmul_assoc p a b c)).mono ?_; rintro e w18 ⟨rfl, hb⟩
    replace s1 := s1.next hb
    replace s2 := s2.next hb
    replace s3 := s3.next hb
    replace t1 := t1.next hb
    replace t2 := t2.next hb
    replace t3 := t3.next hb
    replace t4 := t4.next hb
    replace hB := hB.trans (hb.mono hB.size)
    clear hb
    clear t1
    clear t2
    clear t3
    clear t4
    go_wp2_with fail
    refine (add_row p hp _ _ _ _ (b) (c) eb ec (by omega) (by omega) _ s2 s3).mono ?_; rintro e w19 ⟨At1, ct1, rfl, t1, hb⟩
    replace s1 := s1.next hb
    replace s2 := s2.next hb
    replace s3 := s3.next hb
    replace hB := hB.trans (hb.mono hB.size)
    clear hb
    go_wp2_with fail
    refine (mul_row p hp _ _ _ _ (a) (padd p b c) ea (padd_el (by omega) _ _) (by omega) (by have := padd_len p (b) (c); omega) _ s1 t1).mono ?_; rintro e w20 ⟨At2, ct2, rfl, t2, hb⟩
    replace s1 := s1.next hb
    replace s2 := s2.next hb
    replace s3 := s3.next hb
    replace t1 := t1.next hb
    replace hB := hB.trans (hb.mono hB.size)
    clear hb
    go_wp2_with fail
    refine (mul_row p hp _ _ _ _ (a) (b) ea eb (by omega) (by omega) _ s1 s2).mono ?_; rintro e w21 ⟨At3, ct3, rfl, t3, hb⟩
    replace s1 := s1.next hb
    replace s2 := s2.next hb
    replace s3 := s3.next hb
    replace t1 := t1.next hb
    replace t2 := t2.next hb
    replace hB := hB.trans (hb.mono hB.size)
    clear hb
    go_wp2_with fail
    refine (mul_row p hp _ _ _ _ (a) (c) ea ec (by omega) (by omega) _ s1 s3).mono ?_; rintro e w22 ⟨At4, ct4, rfl, t4, hb⟩
    replace s1 := s1.next hb
    replace s2 := s2.next hb
    replace s3 := s3.next hb
    replace t1 := t1.next hb
    replace t2 := t2.next hb
    replace t3 := t3.next hb
    replace hB := hB.trans (hb.mono hB.size)
    clear hb
    go_wp2_with fail
    refine (add_row p hp _ _ _ _ (pmul p a b) (pmul p a c) (pmul_el (by omega) _ _) (pmul_el (by omega) _ _) (by have := pmul_len p (a) (b); omega) (by have := pmul_len p (a) (c); omega) _ t3 t4).mono ?_; rintro e w23 ⟨At5, ct5, rfl, t5, hb⟩
    replace s1 := s1.next hb
    replace s2 := s2.next hb
    replace s3 := s3.next hb
    replace t1 := t1.next hb
    replace t2 := t2.next hb
    replace t3 := t3.next hb
    replace t4 := t4.next hb
    replace hB := hB.trans (hb.mono hB.size)
    clear hb
    go_wp2_with fail
    refine (equal_is _ _ (pmul p a (padd p b c)) (padd p (pmul p a b) (pmul p a c)) _ _ _ t2 t5 (by have h1 := padd_len p b c; have h2 := pmul_len p a (padd p b c); omega) (pmul_padd p a b c)).mono ?_; rintro e w24 ⟨rfl, hb⟩
    replace s1 := s1.next hb
    replace s2 := s2.next hb
    replace s3 := s3.next hb
    replace t1 := t1.next hb
    replace t2 := t2.next hb
    replace t3 := t3.next hb
    replace t4 := t4.next hb
    replace t5 := t5.next hb
    replace hB := hB.trans (hb.mono hB.size)
    clear hb
    clear t1
    clear t2
    clear t3
    clear t4
    clear t5
    go_wp2_with fail
    refine (sub_row p hp _ _ _ _ a b ea eb (by omega) (by omega) _ s1 s2).mono ?_; rintro e w25 ⟨At1, ct1, rfl, t1, hb⟩
    replace s1 := s1.next hb
    replace s2 := s2.next hb
    replace s3 := s3.next hb
    replace hB := hB.trans (hb.mono hB.size)
    clear hb
    go_wp2_with fail
    refine (add_row p hp _ _ _ _ (psub p a b) (b) (psub_el (by omega) _ _) eb (by have := psub_len p (a) (b); omega) (by omega) _ t1 s2).mono ?_; rintro e w26 ⟨At2, ct2, rfl, t2, hb⟩
    replace s1 := s1.next hb
    replace s2 := s2.next hb
    replace s3 := s3.next hb
    replace t1 := t1.next hb
    replace hB := hB.trans (hb.mono hB.size)
    clear hb
    go_wp2_with fail
    refine ((trim_any _ _ a _ s1 (by omega)).mono fun _ _ h => Fresh.row h).mono ?_; rintro e w27 ⟨At3, ct3, rfl, t3, hb⟩
    replace s1 := s1.next hb
    replace s2 := s2.next hb
    replace s3 := s3.next hb
    replace t1 := t1.next hb
    replace t2 := t2.next hb
    replace hB := hB.trans (hb.mono hB.size)
    clear hb
    go_wp2_with fail
    refine (equal_is _ _ (padd p (psub p a b) b) (trim a) _ _ _ t2 t3 (by have h1 := psub_len p a b; have h2 := padd_len p (psub p a b) b; omega) (psub_padd (by omega) ea b)).mono ?_; rintro e w28 ⟨rfl, hb⟩
    replace s1 := s1.next hb
    replace s2 := s2.next hb
    replace s3 := s3.next hb
    replace t1 := t1.next hb
    replace t2 := t2.next hb
    replace t3 := t3.next hb
    replace hB := hB.trans (hb.mono hB.size)
    clear hb
    clear t1
    clear t2
    clear t3
    go_wp2_with fail
    refine (sub_none p hp _ _ a ea (by omega) _ s1).mono ?_; rintro e w29 ⟨At1, ct1, rfl, t1, hb⟩
    replace s1 := s1.next hb
    replace s2 := s2.next hb
    replace s3 := s3.next hb
    replace hB := hB.trans (hb.mono hB.size)
    clear hb
    go_wp2_with fail
    go_ret
    exact ⟨rfl, hB⟩

set_option maxRecDepth 100000 in
theorem lifted (os : Os) (started : os.Started) (H : Type) (enc : TypeId × Value → H) :
    ReturnsInHanded {} Try.checked os 6 .any (Rows.polyRingSpec.pre6 enc Try.prog Try.f6 Rows.polyRingRow.domain false) (Rows.polyRingSpec.post enc Try.prog Try.f6 false true false false) := by
  refine returnsInHanded_of_change (C := Try.checked) own started (by kernel_rfl) Try.func6
    (ChangeSpec.witness6 (enc := enc) (C := Try.checked) false ⟨#[], #[.agg #[.int .u64 0, .slice none 0 0, .slice none 0 0, .slice none 0 0, .int .u64 0, .int .u64 0]], []⟩ 8 (by kernel_rfl) (by kernel_rfl) (by kernel_rfl) (by kernel_rfl)) ?_
  intro W base args ds gs before hval0 hW hcnd _
  have hval : ∀ (j : Nat) t v, Try.f6.params[j]? = some t → args[j]? = some v → Value.okWide Try.prog W .any base t v := hval0
  have hW' := hW
  obtain ⟨p, q, hA0, hV, rfl, hfz, hnd⟩ := hW
  have hA : DataW.TrodAll enc Try.prog W 0 (fun _ => true) true Try.f6.params.toList args.toList ds p := hA0
  rw [Try.params6] at hA hval
  obtain ⟨v0, d0, rfl, rfl, h0⟩ := trodAll_one hA
  obtain ⟨rfl, rfl⟩ := trodVars_none hV
  clear hA0 hval0
  simp only [List.append_nil] at hW'
  have l0 : ∀ x ∈ p, x.block < W.heap.size := fun x hx => hW'.lt x (by simp [hx])
  obtain ⟨P, X, K, A, B, C, ca, cb, cc, xa, xb, xc, hI⟩ := open_ask (hval 0 31 v0 rfl rfl) h0 l0
  refine (walk W v0 P X K A B C ca cb cc xa xb xc hI).mono fun e W' ⟨he, hb⟩ => ?_
  subst he
  exact ⟨_, rfl, post_of_below (pa := p) (pv := []) hW' (fun _ _ _ => (trodAll_cons_mk (shut_bool Try.underlying4 _) trodAll_mk0)) (fun sp hsp => trodAll_mk1 (staysAsk h0 hb l0 sp (fun x hx => hsp x (by simp [hx])))) (fun _ _ => rfl) (by simp)
    hb (ok_one (by kernel_rfl) rfl (okWide_bool_mk Try.underlying4 _))⟩

theorem over : Rows.polyRingRow.holds Try.pinned (OpenSpec.ofChange Rows.polyRingSpec) :=
  OpenClaim.holds_of_wide 6 Try.f6 rfl rfl rfl rfl rfl rfl rfl ⟨rfl, rfl, rfl, rfl, rfl⟩ rfl rfl rfl rfl rfl (by kernel_rfl) Try.func6 (by kernel_rfl)
    (of_decide_eq_true (by kernel_rfl)) (by unfold Func.isWrapper; first | (rw [if_pos (by decide +kernel)]; kernel_rfl) | (rw [if_neg (by decide +kernel)]; exact ⟨rfl, rfl⟩))
    (fun os started H enc _ => lifted os started H enc)

theorem proved : Rows.PolyRingSaid := over
end Go.Proofs.Ytcnmiodgdnohfaa.polyRing
