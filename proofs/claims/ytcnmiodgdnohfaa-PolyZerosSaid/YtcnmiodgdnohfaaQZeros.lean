/- PolyZeros: for every supported prime and polynomials, a nonzero polynomial has at most as many zeros among 60 points as its degree, and a product of factors x - c is zero exactly at these c; the examples of the document hold. No conditions. -/
import Derived.Test.YtcnmiodgdnohfaaPMore
namespace Go.Proofs.Ytcnmiodgdnohfaa.polyZeros
open Go.ChangeShapes Go.WideShapes Go.ChangeAt Go.RowKit Go.Joins PolyMath FieldMath

theorem mem_next (x : Int) {b : List Int} {k : Nat} {y : Int} (hy : b[k]? = some y) : decide (x ∈ b.take (k + 1)) = (decide (x ∈ b.take k) || decide (y = x)) := by
  rw [List.take_add_one, hy]
  by_cases h1 : x ∈ b.take k <;> by_cases h2 : y = x
  · simp [h1]
  · simp [h1]
  · simp [h1, h2]
  · have h3 : ¬ x = y := fun e => h2 e.symm
    simp [h1, h2, h3]
theorem eval_to (p x v : Int) (hp : OkP p) (hx : 0 ≤ x ∧ x < p) (A : Option Addr) (c : Nat) (xs : List Int) (hxs : El p xs) (hl : xs.length ≤ 400) (w : World) (hr : Sl w A c xs) (hv : pev p xs x = v) :
    Calls Try.prog 19 #[.int .u64 p, .slice A xs.length c, .int .u64 x] w fun e w' => e = .returned (.int .u64 v) ∧ Below w.heap.size w w' := by
  have := eval_any p x hp hx A c xs hxs hl w hr
  rwa [hv] at this

set_option maxRecDepth 100000 in
set_option maxHeartbeats 4000000 in
theorem walk : AskWalk 9 := by
  intro w v P X K A B C ca cb cc xa xb xc hI
  obtain ⟨rfl, hP, hX, hK, wa, wb, wc, sa, sb, sc⟩ := hI
  have hp := fitP_ok P
  have hfit := fun W (h1 : Sl W A ca xa) (h2 : Sl W B cb xb) (h3 : Sl W C cc xc) => fit_row P X K A B C ca cb cc xa xb xc hP.1 hP.2 wa wb wc W h1 h2 h3
  generalize fitP P = p at hp hfit
  have hbd := hp.bd
  have la := wds_len p xa
  have lb := wds_len p xb
  have lc := wds_len p xc
  have ea := wds_el (p := p) (by omega) xa
  have eb := wds_el (p := p) (by omega) xb
  have ec := wds_el (p := p) (by omega) xc
  by_cases hl0 : (wds p xa).length = 0
  · have hl0 := Lib.hid hl0
    go_enter Try.func9, Try.ntmps9
    go_wp2_with fail
    refine (hfit _ (sa.push _) (sb.push _) (sc.push _)).mono ?_
    rintro e w1 ⟨A1, c1, A2, c2, A3, c3, rfl, s1, s2, s3, hb⟩
    have hB : Below w.heap.size w w1 := ((Below.refl _ _).alloc (Nat.le_refl _) _).trans (hb.mono (by simp))
    have kx : w1.cell? ⟨w.heap.size, 4, none⟩ = some (.int .u64 X) := by rw [(bcell hb).1 _ _ (by simp)]; go_simp
    have hlt1 : w.heap.size < w1.heap.size := by have h := hb.size; simp at h; omega
    clear hb hfit sa sb sc wa wb wc
    generalize wds p xa = a at *
    generalize wds p xb = b at *
    generalize wds p xc = c at *
    have hza : ((a.length : Int) == 0) = true := beq_iff_eq.2 (by have := hl0.out; omega)
    clear s1 s2 s3 kx
    go_wp2_with fail
    refine (awake_any _).mono ?_; rintro e w2 ⟨rfl, hb⟩
    replace hB := hB.trans (hb.mono hB.size)
    clear hb
    go_wp2_with fail
    go_ret
    exact ⟨rfl, hB⟩
  go_enter Try.func9, Try.ntmps9
  go_wp2_with fail
  refine (hfit _ (sa.push _) (sb.push _) (sc.push _)).mono ?_
  rintro e w1 ⟨A1, c1, A2, c2, A3, c3, rfl, s1, s2, s3, hb⟩
  have hB : Below w.heap.size w w1 := ((Below.refl _ _).alloc (Nat.le_refl _) _).trans (hb.mono (by simp))
  have kx : w1.cell? ⟨w.heap.size, 4, none⟩ = some (.int .u64 X) := by rw [(bcell hb).1 _ _ (by simp)]; go_simp
  have hlt1 : w.heap.size < w1.heap.size := by have h := hb.size; simp at h; omega
  clear hb hfit sa sb sc wa wb wc
  generalize wds p xa = a at *
  generalize wds p xb = b at *
  generalize wds p xc = c at *
  clear s3 ec lc
  have hza : ((a.length : Int) == 0) = false := beq_eq_false_iff_ne.2 (by have := hl0; omega)
  clear hl0
  go_wp2_with fail
  go_loopw [7, 8] (fun v i wr => ∃ (k : Nat) (ms : List Int) (Am : Option Addr) (cm : Nat), k ≤ b.length ∧ i = .int .i64 k ∧ v = .slice Am ms.length cm ∧ Hid (ms = prodX p [1] (b.take k)) ∧ Sl wr Am cm ms ∧ Below w1.heap.size w1 wr) (fun _ i _ => b.length - (intOf i).toNat)
  case atStart => exact ⟨0, [1], some ⟨w1.heap.size, 0, none⟩, 1, Nat.zero_le _, rfl, rfl, Lib.hid rfl, Sl.l1 w1 1, (Below.refl _ _).alloc (Nat.le_refl _) _⟩
  case round =>
    obtain ⟨k, ms, Am, cm, hk, rfl, rfl, hM, sm, hBr⟩ := hrel
    have hml : ms.length ≤ 13 := by have h1 := prodX_len p (b.take k) [1]; rw [← hM.out, List.length_take] at h1; simp at h1; omega
    have hPE : El p ms := by rw [hM.out]; exact prodX_el (by omega) _ _ (El.one (by omega))
    by_cases hlt : k < b.length
    · obtain ⟨bb, ob, y, hA2, _, hy, hcy⟩ := (s2.next hBr).at_ hlt
      subst hA2
      have hyb := eb y (List.mem_of_getElem? hy)
      have hk' : (k : Int) < b.length := by omega
      have hst : pmul p ms [(p - y) % p, 1] = prodX p [1] (b.take (k + 1)) := by rw [List.take_add_one, hy, hM.out]; exact (prodX_snoc p (b.take k) [1] y).symm
      have hST := Lib.hid hst
      have hlin := el_lin (p := p) (by omega) y
      clear hy hst hM
      go_wp2_with fail
      rw [← Int.sub_emod_left p y]
      refine (mul_row p hp _ _ _ _ ms [(p - y) % p, 1] hPE hlin (by omega) (by simp) _ (sm.push _) (Sl.l2 wr _ _)).mono ?_
      rintro e w3 ⟨A4, c4, rfl, s4, hb⟩
      generalize pmul p ms [(p - y) % p, 1] = ms2 at hST s4 ⊢
      have hBn := bnew hBr (.cells #[.int .u64 ((p - y) % p), .int .u64 1] 27) (Nat.le_refl _)
      replace hBn := hBn.trans (hb.mono hBn.size)
      clear hb hlin
      go_wp2_with fail
      go_roundw
      case rel => exact ⟨k + 1, _, A4, c4, by omega, by simp, rfl, hST, s4, hBn⟩
      case measure => simp [intOf]; omega
    · obtain rfl : k = b.length := by omega
      have hM2 := hM.out
      rw [take_all (Nat.le_refl _)] at hM2
      have hPZ : Hid (∀ x, 0 ≤ x ∧ x < p → (pev p ms x = 0 ↔ x ∈ b)) := Lib.hid fun x hx => by
        rw [hM2, prodX_zero hp.good b [1] x hx eb]
        have h1 : pev p [1] x = 1 := by show (1 + x * 0) % p = 1; rw [Int.mul_zero, Int.add_zero]; exact small (by omega) (by omega)
        rw [h1]; simp
      have hPT : Hid (tn ms = b.length + 1) := Lib.hid (by rw [hM2, prodX_tn hp.good b [1] (El.one (by omega)) (by decide)]; show 1 + b.length = _; omega)
      clear hM hM2
      replace s1 := s1.next hBr
      replace s2 := s2.next hBr
      have hkx0 := hBr
      go_wp2_with fail
      go_loopw [9, 10] (fun z n wr' => ∃ (N zc : Nat), N ≤ 60 ∧ (N : Int) ≤ p ∧ n = .int .u64 N ∧ z = .int .i64 zc ∧ zc ≤ N ∧ Hid (nz p a X N = zc) ∧ Sl wr' A1 c1 a ∧ Sl wr' A2 c2 b ∧ Sl wr' Am cm ms ∧ Below w1.heap.size w1 wr') (fun _ n _ => 60 - (intOf n).toNat)
      case atStart => exact ⟨0, 0, by omega, by omega, rfl, rfl, Nat.le_refl _, Lib.hid (nz_zero p a X), s1, s2, sm, hBr⟩
      case round =>
      clear s1 s2 sm hBr hkx0
      obtain ⟨N, zc, hN60, hNp, rfl, rfl, hzN, hZ, s1, s2, sm, hBr⟩ := hrel
      have hxm := md X p (by omega)
      have kx2 := (hBr.cell (p := ⟨w.heap.size, 4, none⟩) hlt1).trans kx
      by_cases hn1 : N < 60
      · have hn1' : (N : Int) < 60 := by omega
        by_cases hn2 : (N : Int) < p
        · have hnx := nz_next p a X N
          rw [hZ.out] at hnx
          by_cases hz : pev p a ((X + (N : Int)) % p) = 0
          · rw [if_pos hz] at hnx
            have hNZ := Lib.hid hnx
            have hz := Lib.hid hz
            clear hnx hZ
            go_wp2_with fail
            with_reducible refine (eval_to p _ 0 hp (md _ p (by omega)) _ _ a ea (by omega) _ s1 hz.out).mono ?_
            rintro e w4 ⟨rfl, hb⟩
            replace s1 := s1.next hb
            replace s2 := s2.next hb
            replace sm := sm.next hb
            replace hBr := hBr.trans (hb.mono hBr.size)
            clear hb
            go_wp2_with fail
            go_loop [12, 13] (fun t i => ∃ (k : Nat) (u : Bool), k ≤ b.length ∧ i = .int .i64 k ∧ t = .bool u ∧ Hid (decide ((X + (N : Int)) % p ∈ b.take k) = u)) (fun _ i => b.length - (intOf i).toNat)
            case atStart => exact ⟨0, false, Nat.zero_le _, rfl, rfl, Lib.hid (by simp)⟩
            case round =>
              obtain ⟨k, u, hk, rfl, rfl, hU⟩ := hrel
              by_cases hlt : k < b.length
              · obtain ⟨bb, ob, y, hA2, _, hy, hcy⟩ := s2.at_ hlt
                subst hA2
                have hk' : (k : Int) < b.length := by omega
                have hnx := mem_next ((X + (N : Int)) % p) hy
                rw [hU.out] at hnx
                have hNX := Lib.hid hnx
                clear hnx hy
                cases u with
                | true =>
                  go_wp2_with fail
                  go_round
                  case rel => exact ⟨k + 1, true, by omega, by simp, rfl, Lib.hid (by rw [hNX.out]; rfl)⟩
                  case measure => simp [intOf]; omega
                | false =>
                  by_cases hyx : y = (X + (N : Int)) % p
                  · have hyb : (y == (X + (N : Int)) % p) = true := beq_iff_eq.2 hyx
                    have hYX := Lib.hid hyx
                    clear hyx
                    go_wp2_with fail
                    go_round
                    case rel => exact ⟨k + 1, true, by omega, by simp, by simp, Lib.hid (by rw [hNX.out, decide_eq_true hYX.out]; rfl)⟩
                    case measure => simp [intOf]; omega
                  · have hyb : (y == (X + (N : Int)) % p) = false := beq_eq_false_iff_ne.2 hyx
                    have hYX := Lib.hid hyx
                    clear hyx
                    go_wp2_with fail
                    go_round
                    case rel => exact ⟨k + 1, false, by omega, by simp, by simp, Lib.hid (by rw [hNX.out, decide_eq_false hYX.out]; rfl)⟩
                    case measure => simp [intOf]; omega
              · obtain rfl : k = b.length := by omega
                have hU2 := hU.out
                rw [take_all (Nat.le_refl _)] at hU2
                have hpz := hPZ.out ((X + (N : Int)) % p) (md _ p (by omega))
                have hme2 := hPE
                cases u with
                | true =>
                  have hv0 := Lib.hid (hpz.2 (of_decide_eq_true hU2))
                  clear hpz hU2
                  go_wp2_with fail
                  refine (eval_to p _ 0 hp (md _ p (by omega)) _ _ ms hme2 (by omega) _ sm hv0.out).mono ?_
                  rintro e w5 ⟨rfl, hb⟩
                  replace s1 := s1.next hb
                  replace s2 := s2.next hb
                  replace sm := sm.next hb
                  replace hBr := hBr.trans (hb.mono hBr.size)
                  clear hb
                  go_wp2_with fail
                  go_roundw
                  case rel => exact ⟨N + 1, zc + 1, by omega, by omega, by simp, by simp, by omega, hNZ, s1, s2, sm, hBr⟩
                  case measure => simp [intOf]; omega
                | false =>
                  have hv0 : pev p ms ((X + (N : Int)) % p) ≠ 0 := fun e => absurd (hpz.1 e) (of_decide_eq_false hU2)
                  have hvb : (pev p ms ((X + (N : Int)) % p) == 0) = false := beq_eq_false_iff_ne.2 hv0
                  clear hpz hU2 hv0
                  go_wp2_with fail
                  refine (eval_any p _ hp (md _ p (by omega)) _ _ ms hme2 (by omega) _ sm).mono ?_
                  rintro e w5 ⟨rfl, hb⟩
                  replace s1 := s1.next hb
                  replace s2 := s2.next hb
                  replace sm := sm.next hb
                  replace hBr := hBr.trans (hb.mono hBr.size)
                  clear hb
                  go_wp2_with fail
                  go_roundw
                  case rel => exact ⟨N + 1, zc + 1, by omega, by omega, by simp, by simp, by omega, hNZ, s1, s2, sm, hBr⟩
                  case measure => simp [intOf]; omega
          · rw [if_neg hz, Nat.add_zero] at hnx
            have hNZ := Lib.hid hnx
            have hzb : (pev p a ((X + (N : Int)) % p) == 0) = false := beq_eq_false_iff_ne.2 hz
            clear hnx hZ hz
            go_wp2_with fail
            with_reducible refine (eval_any p _ hp (md _ p (by omega)) _ _ a ea (by omega) _ s1).mono ?_
            rintro e w4 ⟨rfl, hb⟩
            replace s1 := s1.next hb
            replace s2 := s2.next hb
            replace sm := sm.next hb
            replace hBr := hBr.trans (hb.mono hBr.size)
            clear hb
            go_wp2_with fail
            go_loop [12, 13] (fun t i => ∃ (k : Nat) (u : Bool), k ≤ b.length ∧ i = .int .i64 k ∧ t = .bool u ∧ Hid (decide ((X + (N : Int)) % p ∈ b.take k) = u)) (fun _ i => b.length - (intOf i).toNat)
            case atStart => exact ⟨0, false, Nat.zero_le _, rfl, rfl, Lib.hid (by simp)⟩
            case round =>
              obtain ⟨k, u, hk, rfl, rfl, hU⟩ := hrel
              by_cases hlt : k < b.length
              · obtain ⟨bb, ob, y, hA2, _, hy, hcy⟩ := s2.at_ hlt
                subst hA2
                have hk' : (k : Int) < b.length := by omega
                have hnx := mem_next ((X + (N : Int)) % p) hy
                rw [hU.out] at hnx
                have hNX := Lib.hid hnx
                clear hnx hy
                cases u with
                | true =>
                  go_wp2_with fail
                  go_round
                  case rel => exact ⟨k + 1, true, by omega, by simp, rfl, Lib.hid (by rw [hNX.out]; rfl)⟩
                  case measure => simp [intOf]; omega
                | false =>
                  by_cases hyx : y = (X + (N : Int)) % p
                  · have hyb : (y == (X + (N : Int)) % p) = true := beq_iff_eq.2 hyx
                    have hYX := Lib.hid hyx
                    clear hyx
                    go_wp2_with fail
                    go_round
                    case rel => exact ⟨k + 1, true, by omega, by simp, by simp, Lib.hid (by rw [hNX.out, decide_eq_true hYX.out]; rfl)⟩
                    case measure => simp [intOf]; omega
                  · have hyb : (y == (X + (N : Int)) % p) = false := beq_eq_false_iff_ne.2 hyx
                    have hYX := Lib.hid hyx
                    clear hyx
                    go_wp2_with fail
                    go_round
                    case rel => exact ⟨k + 1, false, by omega, by simp, by simp, Lib.hid (by rw [hNX.out, decide_eq_false hYX.out]; rfl)⟩
                    case measure => simp [intOf]; omega
              · obtain rfl : k = b.length := by omega
                have hU2 := hU.out
                rw [take_all (Nat.le_refl _)] at hU2
                have hpz := hPZ.out ((X + (N : Int)) % p) (md _ p (by omega))
                have hme2 := hPE
                cases u with
                | true =>
                  have hv0 := Lib.hid (hpz.2 (of_decide_eq_true hU2))
                  clear hpz hU2
                  go_wp2_with fail
                  refine (eval_to p _ 0 hp (md _ p (by omega)) _ _ ms hme2 (by omega) _ sm hv0.out).mono ?_
                  rintro e w5 ⟨rfl, hb⟩
                  replace s1 := s1.next hb
                  replace s2 := s2.next hb
                  replace sm := sm.next hb
                  replace hBr := hBr.trans (hb.mono hBr.size)
                  clear hb
                  go_wp2_with fail
                  go_roundw
                  case rel => exact ⟨N + 1, zc, by omega, by omega, by simp, by simp, by omega, hNZ, s1, s2, sm, hBr⟩
                  case measure => simp [intOf]; omega
                | false =>
                  have hv0 : pev p ms ((X + (N : Int)) % p) ≠ 0 := fun e => absurd (hpz.1 e) (of_decide_eq_false hU2)
                  have hvb : (pev p ms ((X + (N : Int)) % p) == 0) = false := beq_eq_false_iff_ne.2 hv0
                  clear hpz hU2 hv0
                  go_wp2_with fail
                  refine (eval_any p _ hp (md _ p (by omega)) _ _ ms hme2 (by omega) _ sm).mono ?_
                  rintro e w5 ⟨rfl, hb⟩
                  replace s1 := s1.next hb
                  replace s2 := s2.next hb
                  replace sm := sm.next hb
                  replace hBr := hBr.trans (hb.mono hBr.size)
                  clear hb
                  go_wp2_with fail
                  go_roundw
                  case rel => exact ⟨N + 1, zc, by omega, by omega, by simp, by simp, by omega, hNZ, s1, s2, sm, hBr⟩
                  case measure => simp [intOf]; omega
        · have hn3 : p ≤ (N : Int) := by omega
          have hzc : 0 < tn a → zc ≤ tn a - 1 := fun h0 => by rw [← hZ.out]; exact nz_le hp.good ea h0 X N hNp
          have hta := tn_le a
          rcases (show tn a = 0 ∨ ∃ d, tn a = d + 1 from by
            cases tn a with
            | zero => exact .inl rfl
            | succ d => exact .inr ⟨d, rfl⟩) with h0 | ⟨d, hd⟩
          · have h0 := Lib.hid h0
            clear hzc hta
            go_wp2_with fail
            refine (awake_any _).mono ?_; rintro e w6 ⟨rfl, hb⟩
            replace s1 := s1.next hb
            replace sm := sm.next hb
            replace hBr := hBr.trans (hb.mono hBr.size)
            clear hb
            go_wp2_with fail
            refine (deg_zero _ _ a _ s1 (by omega) h0.out).mono ?_; rintro e w' ⟨rfl, rfl⟩
            go_wp2_with fail
            refine (deg_pos _ _ b.length ms _ sm (by omega) hPT.out).mono ?_; rintro e w' ⟨rfl, rfl⟩
            go_wp2_with fail
            go_ret
            exact ⟨rfl, hB.trans (hBr.mono hB.size)⟩
          · have hzd : (zc : Int) ≤ d := by have := hzc (by omega); omega
            have hd400 : d ≤ 400 := by omega
            have hd := Lib.hid hd
            clear hzc hta
            go_wp2_with fail
            refine (awake_any _).mono ?_; rintro e w6 ⟨rfl, hb⟩
            replace s1 := s1.next hb
            replace sm := sm.next hb
            replace hBr := hBr.trans (hb.mono hBr.size)
            clear hb
            go_wp2_with fail
            refine (deg_pos _ _ d a _ s1 (by omega) hd.out).mono ?_; rintro e w' ⟨rfl, rfl⟩
            go_wp2_with fail
            refine (deg_pos _ _ d a _ s1 (by omega) hd.out).mono ?_; rintro e w' ⟨rfl, rfl⟩
            go_wp2_with fail
            refine (deg_pos _ _ b.length ms _ sm (by omega) hPT.out).mono ?_; rintro e w' ⟨rfl, rfl⟩
            go_wp2_with fail
            go_ret
            exact ⟨rfl, hB.trans (hBr.mono hB.size)⟩
      · have hn1' : (60 : Int) ≤ (N : Int) := by omega
        have hzc : 0 < tn a → zc ≤ tn a - 1 := fun h0 => by rw [← hZ.out]; exact nz_le hp.good ea h0 X N hNp
        have hta := tn_le a
        rcases (show tn a = 0 ∨ ∃ d, tn a = d + 1 from by
          cases tn a with
          | zero => exact .inl rfl
          | succ d => exact .inr ⟨d, rfl⟩) with h0 | ⟨d, hd⟩
        · have h0 := Lib.hid h0
          clear hzc hta
          go_wp2_with fail
          refine (awake_any _).mono ?_; rintro e w6 ⟨rfl, hb⟩
          replace s1 := s1.next hb
          replace sm := sm.next hb
          replace hBr := hBr.trans (hb.mono hBr.size)
          clear hb
          go_wp2_with fail
          refine (deg_zero _ _ a _ s1 (by omega) h0.out).mono ?_; rintro e w' ⟨rfl, rfl⟩
          go_wp2_with fail
          refine (deg_pos _ _ b.length ms _ sm (by omega) hPT.out).mono ?_; rintro e w' ⟨rfl, rfl⟩
          go_wp2_with fail
          go_ret
          exact ⟨rfl, hB.trans (hBr.mono hB.size)⟩
        · have hzd : (zc : Int) ≤ d := by have := hzc (by omega); omega
          have hd400 : d ≤ 400 := by omega
          have hd := Lib.hid hd
          clear hzc hta
          go_wp2_with fail
          refine (awake_any _).mono ?_; rintro e w6 ⟨rfl, hb⟩
          replace s1 := s1.next hb
          replace sm := sm.next hb
          replace hBr := hBr.trans (hb.mono hBr.size)
          clear hb
          go_wp2_with fail
          refine (deg_pos _ _ d a _ s1 (by omega) hd.out).mono ?_; rintro e w' ⟨rfl, rfl⟩
          go_wp2_with fail
          refine (deg_pos _ _ d a _ s1 (by omega) hd.out).mono ?_; rintro e w' ⟨rfl, rfl⟩
          go_wp2_with fail
          refine (deg_pos _ _ b.length ms _ sm (by omega) hPT.out).mono ?_; rintro e w' ⟨rfl, rfl⟩
          go_wp2_with fail
          go_ret
          exact ⟨rfl, hB.trans (hBr.mono hB.size)⟩

set_option maxRecDepth 100000 in
theorem lifted (os : Os) (started : os.Started) (H : Type) (enc : TypeId × Value → H) :
    ReturnsInHanded {} Try.checked os 9 .any (Rows.polyZerosSpec.pre6 enc Try.prog Try.f9 Rows.polyZerosRow.domain false) (Rows.polyZerosSpec.post enc Try.prog Try.f9 false true false false) := by
  refine returnsInHanded_of_change (C := Try.checked) own started (by kernel_rfl) Try.func9
    (ChangeSpec.witness6 (enc := enc) (C := Try.checked) false ⟨#[], #[.agg #[.int .u64 0, .slice none 0 0, .slice none 0 0, .slice none 0 0, .int .u64 0, .int .u64 0]], []⟩ 8 (by kernel_rfl) (by kernel_rfl) (by kernel_rfl) (by kernel_rfl)) ?_
  intro W base args ds gs before hval0 hW hcnd _
  have hval : ∀ (j : Nat) t v, Try.f9.params[j]? = some t → args[j]? = some v → Value.okWide Try.prog W .any base t v := hval0
  have hW' := hW
  obtain ⟨p, q, hA0, hV, rfl, hfz, hnd⟩ := hW
  have hA : DataW.TrodAll enc Try.prog W 0 (fun _ => true) true Try.f9.params.toList args.toList ds p := hA0
  rw [Try.params9] at hA hval
  obtain ⟨v0, d0, rfl, rfl, h0⟩ := trodAll_one hA
  obtain ⟨rfl, rfl⟩ := trodVars_none hV
  clear hA0 hval0
  simp only [List.append_nil] at hW'
  have l0 : ∀ x ∈ p, x.block < W.heap.size := fun x hx => hW'.lt x (by simp [hx])
  obtain ⟨P, X, K, A, B, C, ca, cb, cc, xa, xb, xc, hI⟩ := open_ask (hval 0 31 v0 rfl rfl) h0 l0
  refine (walk W v0 P X K A B C ca cb cc xa xb xc hI).mono fun e W' ⟨he, hb⟩ => ?_
  subst he
  exact ⟨_, rfl, post_of_below (pa := p) (pv := []) hW' (fun _ _ _ => (trodAll_cons_mk (shut_bool Try.underlying4 _) trodAll_mk0)) (fun sp hsp => trodAll_mk1 (staysAsk h0 hb l0 sp (fun x hx => hsp x (by simp [hx])))) (fun _ _ => rfl) (by simp)
    hb (ok_one (by kernel_rfl) rfl (okWide_bool_mk Try.underlying4 _))⟩

theorem over : Rows.polyZerosRow.holds Try.pinned (OpenSpec.ofChange Rows.polyZerosSpec) :=
  OpenClaim.holds_of_wide 9 Try.f9 rfl rfl rfl rfl rfl rfl rfl ⟨rfl, rfl, rfl, rfl, rfl⟩ rfl rfl rfl rfl rfl (by kernel_rfl) Try.func9 (by kernel_rfl)
    (of_decide_eq_true (by kernel_rfl)) (by unfold Func.isWrapper; first | (rw [if_pos (by decide +kernel)]; kernel_rfl) | (rw [if_neg (by decide +kernel)]; exact ⟨rfl, rfl⟩))
    (fun os started H enc _ => lifted os started H enc)

theorem proved : Rows.PolyZerosSaid := over
end Go.Proofs.Ytcnmiodgdnohfaa.polyZeros
