/- Interpolate of package bivariate: the symmetric matrix that the rows fit, or the error; nothing that lay is changed. Conditions: a supported prime, at most twelve rows and points over its field, rows of at most 1000 words. -/
import Derived.Test.YtkhiiiggmhncbaaGreatEFit
import Derived.Test.YtkhiiiggmhncbaaGreatESym
import Derived.Test.YtkhiiiggmhncbaaGreatERow
import Derived.Test.YtkhiiiggmhncbaaGreatEVan
namespace Go.Proofs.YtkhiiiggmhncbaaGreat
set_option maxRecDepth 100000
open Go.RowKit PolyMath FieldMath MatMath

theorem Sll.take {w : World} {A : Option Addr} {c : Nat} {rows : List (List Int)} (h : Sll w A c rows) (k : Nat) : Sll w A c (rows.take k) :=
  ⟨by have := h.cap; rw [List.length_take]; omega, h.nil, fun ad hA hn => by
    obtain ⟨b, off, e, hb, hc⟩ := h.rd ad hA (fun e => hn (by rw [e]; simp))
    exact ⟨b, off, e, hb, fun j x hx => hc j x (by rw [List.getElem?_take] at hx; split at hx <;> first | exact hx | cases hx)⟩⟩

/-- The arguments are valid. -/
def argI (T : Int) (xs : List Int) (rows : List (List Int)) : Bool := decide (0 ≤ T ∧ T < rows.length ∧ rows.length = xs.length ∧ xs.Nodup ∧ ∀ i, i < rows.length → ((ro rows i).length : Int) = T + 1)

set_option maxHeartbeats 2000000 in
theorem itp_bad (p T : Int) (hT : -9223372036854775808 ≤ T ∧ T ≤ 9223372036854775807) (A B : Option Addr) (ca cb n m : Nat) (xs : List Int) (rows : List (List Int)) (lx : xs.length = n) (lr : rows.length = m) (hm : m ≤ 12) (hn : n ≤ 12) (hb : argI T xs rows = false) (w : World) (sx : Sl w A ca xs) (sr : Sll w B cb rows) :
    Calls Tryz.prog 6 #[.int .u64 p, .int .i64 T, .slice A n ca, .slice B m cb] w fun e w' => e = .returned (.tuple #[.slice none 0 0, .int .i64 1]) ∧ Below w.heap.size w w' := by
  have hno := of_decide_eq_false hb
  clear hb
  by_cases h1 : 0 ≤ T
  rotate_left
  · have h1' : decide (T < 0) = true := decide_eq_true (by omega)
    have h1'' : T < 0 := by omega
    clear hno
    go_enter Tryz.func6, Tryz.ntmps6
    go_wp2
    go_ret2
    exact ⟨rfl, Below.refl _ _⟩
  by_cases h2 : T < m
  rotate_left
  · have h2' : (m : Int) ≤ T := by omega
    have h1' : ¬ T < 0 := by omega
    clear hno
    go_enter Tryz.func6, Tryz.ntmps6
    go_wp2
    go_ret2
    exact ⟨rfl, Below.refl _ _⟩
  obtain ⟨t, rfl⟩ : ∃ t : Nat, T = t := ⟨T.toNat, by omega⟩
  have h1' : ¬ (t : Int) < 0 := by omega
  have h2' : ¬ (m : Int) ≤ t := by omega
  by_cases h3 : m = n
  rotate_left
  · have h3' : ((m : Int) != n) = true := bne_iff_ne.2 (by omega)
    clear hno
    go_enter Tryz.func6, Tryz.ntmps6
    go_wp2
    go_ret2
    exact ⟨rfl, Below.refl _ _⟩
  have LX : Hid (xs.length = m) := Lib.hid (by omega)
  subst h3
  have h3' : ((m : Int) != m) = false := by simp
  have hds := areDist_any A ca xs (by omega) (.inl (by omega)) w sx
  rw [lx] at hds
  by_cases h4 : xs.Nodup
  rotate_left
  · rw [decide_eq_false h4] at hds
    clear hno lx lr
    go_enter Tryz.func6, Tryz.ntmps6
    go_wp2_with fail
    refine hds.mono ?_; rintro e w1 ⟨rfl, hb1⟩
    go_wp2
    go_ret2
    exact ⟨rfl, hb1⟩
  rw [decide_eq_true h4] at hds
  have h5 : lenB rows (t + 1) = false := by
    cases h : lenB rows (t + 1) with
    | false => rfl
    | true => exact absurd ⟨h1, by rw [lr]; exact h2, by rw [lr]; exact lx.symm, h4, fun i hi => by have := lenB_iff.1 h i hi; omega⟩ hno
  have hhl := fun W (hW : Below w.heap.size w W) => haveLength_any B cb (t + 1) rows (by omega) W (sr.next hW)
  rw [h5, lr, show ((t + 1 : Nat) : Int) = (t : Int) + 1 from by omega] at hhl
  clear hno lx lr h5 h4
  go_enter Tryz.func6, Tryz.ntmps6
  go_wp2_with fail
  refine hds.mono ?_; rintro e w1 ⟨rfl, hb1⟩
  go_wp2_with fail
  refine (hhl w1 hb1).mono ?_; rintro e w2 ⟨rfl, hb2⟩
  go_wp2
  go_ret2
  exact ⟨rfl, hb1.trans (hb2.mono hb1.size)⟩

/-- What Interpolate hands back where the arguments are valid. -/
def ItpE (w : World) (e : Ending) (w' : World) (N : Nat) (ok : Prop) (C : List (List Int)) : Prop :=
  (ok ∧ MatT w e w' N C) ∨ (¬ ok ∧ e = .returned (.tuple #[.slice none 0 0, .int .i64 6]) ∧ Below w.heap.size w w')

set_option maxHeartbeats 4000000 in
theorem itp_ok (p : Int) (hp : OkP p) (t : Nat) (A B : Option Addr) (ca cb m : Nat) (xs : List Int) (rows : List (List Int)) (lx : xs.length = m) (lr : rows.length = m) (hm : m ≤ 12) (ht : t < m) (hx : El p xs) (hnd : xs.Nodup) (hr : ∀ r ∈ rows, El p r) (hrl : ∀ i, i < m → (ro rows i).length = t + 1) (w : World) (sx : Sl w A ca xs) (sr : Sll w B cb rows) :
    Calls Tryz.prog 6 #[.int .u64 p, .int .i64 (t : Int), .slice A m ca, .slice B m cb] w fun e w' => ItpE w e w' (t + 1) (Fits p xs rows (t + 1) m (fitL p (xs.take (t + 1)) (rows.take (t + 1)) (t + 1))) (fitL p (xs.take (t + 1)) (rows.take (t + 1)) (t + 1)) := by
  have hbd := hp.bd
  have hds := areDist_any A ca xs (by omega) (.inl (by omega)) w sx
  rw [lx, decide_eq_true hnd] at hds
  have hhl := fun W (hW : Below w.heap.size w W) => haveLength_any B cb (t + 1) rows (by omega) W (sr.next hW)
  rw [lenB_iff.2 (by rw [lr]; exact hrl), lr, show ((t + 1 : Nat) : Int) = (t : Int) + 1 from by omega] at hhl
  have hfit := fun W (hW : Below w.heap.size w W) => fit_any p hp A B ca cb (t + 1) (xs.take (t + 1)) (rows.take (t + 1)) (fun z hz => hx z (List.mem_of_mem_take hz)) (hnd.sublist (List.take_sublist _ _)) (by rw [List.length_take]; omega) (by rw [List.length_take]; omega) (fun r hr' => hr r (List.mem_of_mem_take hr')) (by omega) W ((sx.next hW).take _) ((sr.next hW).take _)
  have hF := fitL_fit hp.good (xs := xs.take (t + 1)) (rows := rows.take (t + 1)) (n := t + 1) (hnd.sublist (List.take_sublist _ _)) (fun z hz => hx z (List.mem_of_mem_take hz)) (by rw [List.length_take]; omega) (fun i j => by
    rw [mx_ro]
    by_cases h : i < (rows.take (t + 1)).length
    · exact (hr _ (List.mem_of_mem_take (List.mem_of_getElem? (ro_get h)))).co (by omega) j
    · unfold ro; rw [List.getElem?_eq_none (by omega)]; exact (El.nil p).co (by omega) j)
  have hCm := Lib.hid hF.mat
  have hca := sx.cap
  have hcb := sr.cap
  rw [lx] at hca
  rw [lr] at hcb
  have HX := Lib.hid lx
  have HR := Lib.hid lr
  have HE := Lib.hid hx
  have HRL := Lib.hid hrl
  have h1' : ¬ (t : Int) < 0 := by omega
  have h2' : ¬ (m : Int) ≤ t := by omega
  have h3' : ((m : Int) != m) = false := by simp
  have w1' : IntKind.i64.wrap ((t : Int) + 1) = (t : Int) + 1 := IntWalk.i64_in _ (by omega)
  have w2' : ((t : Int) + 1).toNat = t + 1 := by omega
  have w3' : (0 : Int) ≤ (t : Int) + 1 := by omega
  have w4' : (t : Int) + 1 ≤ ca := by omega
  have w5' : (t : Int) + 1 ≤ cb := by omega
  generalize fitL p (xs.take (t + 1)) (rows.take (t + 1)) (t + 1) = C at hfit hCm ⊢
  clear hF lx lr hx hnd hr hrl
  go_enter Tryz.func6, Tryz.ntmps6
  go_wp2_with fail
  refine hds.mono ?_; rintro e w1 ⟨rfl, hb1⟩
  go_wp2_with fail
  refine (hhl w1 hb1).mono ?_; rintro e w2 ⟨rfl, hb2⟩
  replace hb2 := hb1.trans (hb2.mono hb1.size)
  have hft := hfit w2.drew hb2.drew
  clear hds hhl hfit hb1
  go_wp2_with fail
  go_region_held3 (fun _ => True) (first | exact trivial)
    (first | (go_at_call 19; (with_reducible refine hft.mono ?_); rintro e w5 ⟨A5, c5, rfl, hs5, hb5⟩))
  clear w1' w2' w3' w4' w5' hft
  have hB5 : Below w.heap.size w w5 := hb2.drew.trans (hb5.mono hb2.drew.size)
  have hsy := isSym_any A5 c5 C (by rw [hCm.out.rows]; omega) w5 hs5
  rw [hCm.out.rows] at hsy
  clear hb2 hb5
  cases hq : symB C with
  | false =>
    rw [hq] at hsy
    have hNo : Hid (¬ Fits p xs rows (t + 1) m C) := Lib.hid (fun h => by
      have h2 : symB C = true := symB_iff.2 ⟨sqB_iff.2 ⟨by rw [hCm.out.rows]; omega, fun i hi => by rw [hCm.out.rows] at hi ⊢; exact (hCm.out.ro hi).1⟩, h.1⟩
      rw [hq] at h2
      cases h2)
    clear hq
    go_wp2_with fail
    refine hsy.mono ?_; rintro e w6 ⟨rfl, hb6⟩
    go_wp2
    go_ret2
    exact .inr ⟨hNo.out, rfl, hB5.trans (hb6.mono hB5.size)⟩
  | true =>
    rw [hq] at hsy
    have hSm := Lib.hid (symB_iff.1 hq).2
    clear hq
    go_wp2_with fail
    refine hsy.mono ?_; rintro e w6 ⟨rfl, hb6⟩
    have hB6 := hB5.trans (hb6.mono hB5.size)
    have hs6 := hs5.next hb6
    clear hsy hb6 hB5 hs5
    go_wp2
    go_loopw [12] (fun i wr => ∃ k : Nat, t + 1 ≤ k ∧ k ≤ m ∧ i = .int .i64 k ∧ Hid (∀ i, t + 1 ≤ i → i < k → brow p C (co xs i) = ro rows i) ∧ Below w6.heap.size w6 wr) (fun i _ => m - (intOf i).toNat)
    case atStart => exact ⟨t + 1, Nat.le_refl _, ht, by simp, Lib.hid (fun i h1 h2 => by omega), Below.refl _ _⟩
    case round =>
      obtain ⟨k, hk1, hk2, rfl, hE2, hBr⟩ := hrel
      by_cases hlt : k < m
      · obtain ⟨b1, o1, x, hA1, hbl1, hxk, hcx⟩ := sx.at_ (k := k) (by rw [HX.out]; exact hlt)
        obtain ⟨b2, o2, A2, c2, hA2, hbl2, hc2, hs2⟩ := sr.rowAt (i := k) (by rw [HR.out]; exact hlt) (HRL.out k hlt)
        subst hA1 hA2
        have hBB := hB6.trans (hBr.mono hB6.size)
        have hxb := HE.out x (List.mem_of_getElem? hxk)
        have hX := Lib.hid (co_at hxk)
        have d1 := (hBB.cell (p := ⟨b1, o1 + k, none⟩) hbl1).trans hcx
        have d2 := (hBB.cell (p := ⟨b2, o2 + k, none⟩) hbl2).trans hc2
        have hkm : (k : Int) < m := by omega
        have hrw := row_any p x hp hxb A5 c5 (t + 1) C hCm.out.rows (by omega) (fun r hr => (hCm.out.row r hr).2) wr.drew (hs6.next hBr).drew
        have hlb := Lib.hid (show (brow p C x).length = t + 1 by rw [brow_len]; exact hCm.out.rows)
        have hq := fun (W : World) (g : Nat) (hO : OwnAt W wr.drew.heap.size g (t + 1) (t + 1) (brow p C x)) (hW : Below w.heap.size w W) => equal_dec (some ⟨g, 0, none⟩) A2 (t + 1) (t + 1) (t + 1) c2 (brow p C x) (ro rows k) hlb.out (HRL.out k hlt) (by omega) (by omega) W hO.sl (hs2.next hW)
        have hbl1w : b1 < wr.heap.size := Nat.lt_of_lt_of_le hbl1 hBB.size
        have hbl2w : b2 < wr.heap.size := Nat.lt_of_lt_of_le hbl2 hBB.size
        clear hxk hcx hc2
        by_cases heq : brow p C x = ro rows k
        · have hN := Lib.hid (show ∀ i, t + 1 ≤ i → i < k + 1 → brow p C (co xs i) = ro rows i from fun i h1 h2 => by
            by_cases e : i = k
            · subst e; rw [hX.out]; exact heq
            · exact hE2.out i h1 (by omega))
          rw [decide_eq_true heq] at hq
          clear heq hE2
          go_wp2_with fail
          go_region_held3 (fun w' => w'.cell? ⟨b1, o1 + k, none⟩ = some (.int .u64 x) ∧ w'.cell? ⟨b2, o2 + k, none⟩ = some (.slice A2 (t + 1) c2))
            (first | (refine ⟨?_, ?_⟩ <;> assumption) | exact ⟨d1, d2⟩)
            (first | (go_at_call 14; (with_reducible refine hrw.mono ?_); rintro e w7 ⟨g7, rfl, hO7, hb7'⟩; have hb7 : Below wr.heap.size wr w7 := (Below.refl _ wr).drew.trans (hb7'.mono (Nat.le_refl _)); have q1 := (hb7.cell (p := ⟨b1, o1 + k, none⟩) hbl1w).trans d1; have q2 := (hb7.cell (p := ⟨b2, o2 + k, none⟩) hbl2w).trans d2; have hB7 := hBB.trans (hb7.mono hBB.size); have hq7 := hq w7 g7 hO7 hB7; have HB7 := Lib.hid (hBr.trans (hb7.mono hBr.size)); clear hO7 hb7') | (go_at_call 20; (with_reducible refine hq7.mono ?_); rintro e w8 ⟨rfl, m8, hm8⟩; have hb8 : Below w7.heap.size w7 w8 := (by rw [hm8]; exact below_drewN (Below.refl _ w7) m8); have HB8 := Lib.hid (HB7.out.trans (hb8.mono HB7.out.size)); have r1 := (hb8.cell (p := ⟨b1, o1 + k, none⟩) (Nat.lt_of_lt_of_le hbl1w hb7.size)).trans q1; have r2 := (hb8.cell (p := ⟨b2, o2 + k, none⟩) (Nat.lt_of_lt_of_le hbl2w hb7.size)).trans q2; clear hm8 hb8))
          all_goals
            go_wp2
            go_roundw
            case rel => exact ⟨k + 1, by omega, by omega, by simp, hN, HB8.out⟩
            case measure => simp [intOf]; omega
        · have hNo : Hid (¬ Fits p xs rows (t + 1) m C) := Lib.hid (fun h => heq (by have := h.2 k hk1 hlt; rw [hX.out] at this; exact this))
          rw [decide_eq_false heq] at hq
          clear heq hE2
          go_wp2_with fail
          go_region_held3 (fun w' => w'.cell? ⟨b1, o1 + k, none⟩ = some (.int .u64 x) ∧ w'.cell? ⟨b2, o2 + k, none⟩ = some (.slice A2 (t + 1) c2))
            (first | (refine ⟨?_, ?_⟩ <;> assumption) | exact ⟨d1, d2⟩)
            (first | (go_at_call 14; (with_reducible refine hrw.mono ?_); rintro e w7 ⟨g7, rfl, hO7, hb7'⟩; have hb7 : Below wr.heap.size wr w7 := (Below.refl _ wr).drew.trans (hb7'.mono (Nat.le_refl _)); have q1 := (hb7.cell (p := ⟨b1, o1 + k, none⟩) hbl1w).trans d1; have q2 := (hb7.cell (p := ⟨b2, o2 + k, none⟩) hbl2w).trans d2; have hB7 := hBB.trans (hb7.mono hBB.size); have hq7 := hq w7 g7 hO7 hB7; have HB7 := Lib.hid hB7; clear hO7 hb7') | (go_at_call 20; (with_reducible refine hq7.mono ?_); rintro e w8 ⟨rfl, m8, hm8⟩; have hb8 : Below w7.heap.size w7 w8 := (by rw [hm8]; exact below_drewN (Below.refl _ w7) m8); have HB8 := Lib.hid (HB7.out.trans (hb8.mono HB7.out.size)); have r1 := (hb8.cell (p := ⟨b1, o1 + k, none⟩) (Nat.lt_of_lt_of_le hbl1w hb7.size)).trans q1; have r2 := (hb8.cell (p := ⟨b2, o2 + k, none⟩) (Nat.lt_of_lt_of_le hbl2w hb7.size)).trans q2; clear hm8 hb8))
          all_goals
            go_wp2
            go_ret2
            exact .inr ⟨hNo.out, rfl, HB8.out⟩
      · obtain rfl : m = k := by omega
        have hYes : Hid (Fits p xs rows (t + 1) m C) := Lib.hid ⟨hSm.out, hE2.out⟩
        have HS := Lib.hid (hs6.next hBr)
        have HB := Lib.hid (hB6.trans (hBr.mono hB6.size))
        clear hE2
        go_wp2
        go_ret2
        exact .inl ⟨hYes.out, _, _, rfl, HS.out, HB.out⟩
end Go.Proofs.YtkhiiiggmhncbaaGreat
