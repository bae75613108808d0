/- eliminate of package matrix: elimination in the first columns of a matrix of the call's own. Conditions: a supported prime, rows of one length with words of its field; at most 1000 rows and columns. -/
import Derived.Test.YtgkhngiiimnchaaRClear
import Derived.IntWalk
namespace Go.Proofs.Ytgkhngiiimnchaa
open Go.RowKit PolyMath FieldMath MatMath

theorem row_form {w : World} {base t n : Nat} {v : Value} {xs : List Value} (h : w.ownsRow base t 1 v n xs) : ∃ A c, v = .slice A n c := by
  rcases h.2 with ⟨rfl, h0⟩ | ⟨g, cap, cur, rfl, _⟩
  · subst h0; exact ⟨_, _, rfl⟩
  · exact ⟨_, _, rfl⟩
/-- A row of numbers grows: the matrix stays. -/
theorem MP.other {base base' N k n : Nat} {w w' : World} {v u : Value} {vs xs : List Value} {rows : List (List Int)} (h : MP base w v N k vs rows) (ho : w.ownsRow base' 3 1 u n xs) (hg : w.grownBy w' u.ownBlock) : MP base w' v N k vs rows := by
  have far : ∀ {t m : Nat} {x : Value} {ys : List Value}, t ≠ 3 → w.ownsRow base t 1 x m ys → x.ownBlock = none ∨ x.ownBlock ≠ u.ownBlock := fun {t m x ys} ht hx => by
    cases hq : x.ownBlock with
    | none => exact .inl rfl
    | some b =>
      refine .inr fun e => ?_
      obtain ⟨c1, f1, t1⟩ := own_tag hx b hq
      obtain ⟨c2, f2, t2⟩ := own_tag ho b e.symm
      rw [t1] at t2
      injection t2 with t2
      injection t2 with _ t2 _
      exact ht t2
  refine ⟨World.ownsRow.kept h.head hg (far (by decide) h.head), h.len, h.le, fun i hi => ?_, h.apart⟩
  obtain ⟨x, h1, h2⟩ := h.row i hi
  exact ⟨x, h1, World.ownsRow.kept h2 hg (far (by decide) h2)⟩

theorem mx_swR {R : List (List Int)} {i j : Nat} (hi : i < R.length) (hj : j < R.length) (hne : i ≠ j) (c : Nat) : mx (swR R i j) i c = mx R j c := by
  rw [mx_ro, mx_ro]; unfold swR
  rw [ro_set (by rw [List.length_set]; exact hj), if_neg hne, ro_set hi, if_pos rfl]
/-- The pivots as values. -/
def pvs (pv : List Nat) : List Value := pv.map fun n : Nat => Value.int .i64 (n : Int)
theorem pvs_len (pv : List Nat) : (pvs pv).length = pv.length := by unfold pvs; simp
theorem pvs_snoc (pv : List Nat) (k : Nat) : pvs (pv ++ [k]) = pvs pv ++ [.int .i64 (k : Int)] := by unfold pvs; rw [List.map_append]; rfl

theorem elim_none (p : Int) (A : Option Addr) (n c : Nat) (w : World) : Calls Try.prog 38 #[.int .u64 p, .slice A n c, .int .i64 0] w fun e w' => e = .returned (.tuple #[.slice none 0 0, .int .u64 1]) ∧ w = w' := by
  go_enter Try.func38, Try.ntmps38
  go_wp2
  go_loopw [8, 9, 14] (fun a b i wr => a = .slice none 0 0 ∧ b = .int .u64 1 ∧ i = .int .i64 0 ∧ wr = w) (fun _ _ i _ => (intOf i).toNat)
  case atStart => exact ⟨rfl, rfl, rfl, rfl⟩
  case round =>
    obtain ⟨rfl, rfl, rfl, rfl⟩ := hrel
    go_wp2
    go_ret2
    exact ⟨rfl, rfl⟩

/-- What eliminate leaves. -/
def Elimd (p : Int) (base g c N : Nat) (A : List (List Int)) (k : Nat) (w : World) (e : Ending) (w' : World) : Prop :=
  ∃ pvv vs, e = .returned (.tuple #[pvv, .int .u64 (elim p A k).d]) ∧ MP base w' (.slice (some ⟨g, 0, none⟩) N c) N N vs (elim p A k).R ∧ w'.ownsRow base 3 1 pvv (elim p A k).pv.length (pvs (elim p A k).pv) ∧ Below base w w'

theorem plc_bd {p d : Int} (hp : 0 < p) (b : Nat) (h : 0 ≤ d ∧ d < p) : 0 ≤ (if b = 0 then d else fneg p d) ∧ (if b = 0 then d else fneg p d) < p := by
  split
  · exact h
  · exact fneg_bd p d hp

set_option maxRecDepth 100000 in
set_option maxHeartbeats 2000000 in
theorem elim_any (p : Int) (hp : OkP p) (base g c N L cols : Nat) (vs : List Value) (A : List (List Int)) (hN : N ≤ 1000) (hL : L ≤ 1000) (hc : cols ≤ L) (hA : Mat p N L A)
    (w : World) (hb : base ≤ w.heap.size) (hM : MP base w (.slice (some ⟨g, 0, none⟩) N c) N N vs A) :
    Calls Try.prog 38 #[.int .u64 p, .slice (some ⟨g, 0, none⟩) N c, .int .i64 cols] w fun e w' => Elimd p base g c N A cols w e w' := by
  obtain ⟨i0, hi0, hz0, hz1, hz2⟩ := info_parts info_int
  have hbd := hp.bd
  have hok := elim_ok hp.good hA
  have hNc : N ≤ c := by have h1 := hM.sll.cap; have h2 := hM.len; omega
  go_enter Try.func38, Try.ntmps38
  go_wp2
  go_loopw [8, 9, 14] (fun pvv dv i wr => ∃ (k : Nat) (S : ES) (vs : List Value), k ≤ cols ∧ i = .int .i64 k ∧ dv = .int .u64 S.d ∧ Hid (elim p A k = S) ∧ MP base wr (.slice (some ⟨g, 0, none⟩) N c) N N vs S.R ∧ wr.ownsRow base 3 1 pvv S.pv.length (pvs S.pv) ∧ Below base w wr) (fun _ _ i _ => cols - (intOf i).toNat)
  case atStart => exact ⟨0, _, vs, Nat.zero_le _, rfl, rfl, Lib.hid rfl, hM, (show w.ownsRow base 3 1 (.slice none 0 0) 0 [] from World.ownsRow_nil _ _ _ _), Below.refl _ _⟩
  case round =>
    obtain ⟨k, S, vs1, hk, rfl, rfl, hE, hM1, hP1, hB1⟩ := hrel
    have hELF := hok k
    rw [hE.out] at hELF
    have hb1 : base ≤ wr.heap.size := Nat.le_trans hb hB1.size
    by_cases hlt : k < cols
    · obtain ⟨R, pv, d⟩ := S
      obtain ⟨A3, c3, rfl⟩ := row_form hP1
      have hqle := hELF.ech.len
      have hstep : fnd R pv.length k = none → Hid (elim p A (k + 1) = ⟨R, pv, d⟩) := fun h => Lib.hid (by rw [elim_skip (by rw [hE.out]; exact h), hE.out])
      have hstep2 : ∀ b, fnd R pv.length k = some b → Hid (elim p A (k + 1) = ⟨clr p (plc R pv.length b) pv.length k, pv ++ [k], fmul p (if b = 0 then d else fneg p d) (mx (plc R pv.length b) pv.length k)⟩) := fun b h => Lib.hid (by rw [elim_step (b := b) (by rw [hE.out]; exact h), hE.out])
      have hmat := hELF.mat
      have hzero := fun (r : Nat) (c : Nat) (h1 : pv.length ≤ r) (h2 : r < N) (h3 : c < k) => hELF.zero (p := p) (by omega) h1 h2 h3
      have hdb := hELF.db
      dsimp only at hM1 hP1 hqle hmat hzero hdb ⊢
      have HP1 := Lib.hid hP1
      generalize hq : pv.length = q at *
      have HQ := Lib.hid hq
      clear hq hE hELF hP1
      have hBox := Boxed.new wr 3 (.int .i64 (k : Int))
      have hMb := hM1.next ((Below.refl _ wr).alloc (Nat.le_refl _) (.cells #[.int .i64 (k : Int)] 3))
      have hkc : (k : Int) < cols := by omega
      have hNcI : (N : Int) ≤ c := by omega
      have hqN' : (q : Int) ≤ N := by omega
      have HM1 := Lib.hid hM1
      clear hM1
      by_cases hqN : q < N
      · have hRl : (R.drop q).length = N - q := by rw [List.length_drop, hmat.rows]
        have hsl := hMb.sll.drop rfl (q := q) (by rw [hmat.rows]; exact hqle)
        rw [Nat.zero_add] at hsl
        have hidx := index_elim (.pointer (some ⟨wr.heap.size, 0, none⟩)) (fun r => co r k != 0) (some ⟨g, q, none⟩) (c - q) (N - q) (R.drop q) hRl (by omega) _ hsl (fun i A' c' hi hs => by
          have hro : ro (R.drop q) i = ro R (q + i) := by unfold ro; rw [List.getElem?_drop]
          have hl2 : (ro (R.drop q) i).length = L := by rw [hro]; exact (hmat.ro (by rw [hRl] at hi; omega)).1
          exact elim1_any A' c' _ _ rfl k wr.heap.size _ hBox hs (by rw [hl2]; omega))
        rw [show ((R.drop q).findIdx? fun r => co r k != 0) = fnd R q k from rfl] at hidx
        have hcq : ¬ c = q := by omega
        have hMB := Lib.hid hMb
        clear hMb hRl hsl
        cases hf : fnd R q k with
        | none =>
          have hnx := hstep hf
          rw [hf] at hidx
          clear hstep hstep2 hf hBox
          go_wp2_with (go_at_call 55; refine hidx.mono ?_; rintro e w' ⟨rfl, rfl⟩)
          go_roundw
          case rel => exact ⟨k + 1, _, vs1, by omega, by simp, rfl, hnx, hMB.out, by show World.ownsRow _ _ _ _ _ pv.length _; rw [HQ.out]; exact HP1.out.alloc _, hB1.alloc hb1 _⟩
          case measure => simp [intOf]; omega
        | some b =>
          have hnx := hstep2 b hf
          obtain ⟨hb2, hbne, hbz⟩ := fnd_some.1 hf
          rw [hmat.rows] at hb2
          rw [hf] at hidx
          have hidx' : Calls Try.prog 55 #[.slice (some ⟨g, q, none⟩) (N - q) (c - q), .func (.func 56) #[] #[.pointer (some ⟨wr.heap.size, 0, none⟩)]] (wr.alloc (.cells #[.int .i64 (k : Int)] 3)) fun e w' => e = .returned (.int .i64 b) ∧ _ = w' := hidx
          clear hstep hstep2 hf hidx
          by_cases hb0 : b = 0
          · subst hb0
            have hnx3 : Hid (elim p A (k + 1) = ⟨clr p R q k, pv ++ [k], fmul p d (mx R q k)⟩) := Lib.hid (by have := hnx.out; rw [show plc R q 0 = R from if_pos rfl, if_pos rfl] at this; exact this)
            have hM3 := hMB.out
            have hmat3 := hmat
            have hne3 : mx R q k ≠ 0 := hbne
            have hz3 : ∀ c, c < k → mx R q c = 0 := fun c hc => hzero q c (Nat.le_refl _) hqN hc
            have hD3 := hdb
            have hBox3 := hBox
            have hb3 : base ≤ (World.heap (wr.alloc (.cells #[.int .i64 (k : Int)] 3))).size := Nat.le_trans hb1 (by simp)
            have hP3 : World.ownsRow (wr.alloc (.cells #[.int .i64 (k : Int)] 3)) base 3 1 (.slice A3 q c3) q (pvs pv) := HP1.out.alloc _
            have hB3 : Below base w (wr.alloc (.cells #[.int .i64 (k : Int)] 3)) := hB1.alloc hb1 _
            clear hnx hbz hbne hBox
            have hkL0 : k < L := by omega
            have hmxb := hmat3.bd (p := p) (by omega) q k
            obtain ⟨b3, cb3, hv3, hc3, hO3, _, _⟩ := hM3.hd hqN (hmat3.ro hqN).1 (by omega)
            have hcx3 := hO3.cell (i := k) (x := mx R q k) (by rw [mx_ro]; exact co_get (by rw [(hmat3.ro hqN).1]; exact hkL0) ▸ List.getElem?_eq_getElem _)
            have hmul := fun W => mul_any p d (mx R q k) hp hD3.1 hD3.2 hmxb.1 hmxb.2 W
            have hdb3 := fmul_bd p d (mx R q k) (by omega)
            have hclr := fun n => clear_any p hp base g c N L q k vs1 R hN hL hqN (by omega) hmat3 hne3 hz3 (World.drewN (wr.alloc (.cells #[.int .i64 (k : Int)] 3)) n) (Nat.le_trans hb3 (by simp)) (hM3.next (below_drewN (Below.refl _ (wr.alloc (.cells #[.int .i64 (k : Int)] 3))) n))
            have hbxc := hBox3.cell
            have hkL : (k : Int) < L := by omega
            have hqNI : (q : Int) < N := by omega
            generalize hDD : fmul p d (mx R q k) = DD at *
            have HDD := Lib.hid hDD
            generalize mx R q k = X3 at *
            clear hM3 hO3 hDD hmat3 hz3
            go_wp2_with (go_at_call 55; refine hidx'.mono ?_; rintro e w' ⟨rfl, rfl⟩)
            go_quiet ((go_at_call 31; exact quiet_left (hmul _)))
            go_wp2_with (first | (at_builtin; refine wpList_append_own _ rfl _ _ 56 rfl base 3 i0 (.int .i64 0) 1 8 Try.underlying56 hi0 hz0 hz1 hz2 rfl (by decide) _ _ _ rfl (hP5H.out.alloc _) ⟨w5.heap.size, 0, none⟩ 1 1 [.int .i64 (k : Int)] rfl rfl (cell_one_new _ _ _) (by simp [Value.oneCell']) (by simp only [maxLen]; omega) (by omega) (by simp; omega) ?_; intro v6 w6 hown6 hgrow6 _) | (go_at_call 58; refine (hclr _).mono ?_; rintro e w5 ⟨⟨v5, rfl⟩, hM5, hK5⟩; have hbxc5 := (hK5.box (B := wr.heap.size) (v := .int .i64 (k : Int)) hBox3).cell; have hP5 := hK5.own (base' := base) (v := .slice A3 q c3) (n := q) (xs := pvs pv) hP3; have hb5 : base ≤ w5.heap.size := Nat.le_trans (Nat.le_trans hb3 (by simp)) hK5.below.size; have hB5 : Below base w w5 := (below_drewN hB3 _).trans hK5.below; have hM5H := Lib.hid hM5; have hP5H := Lib.hid hP5; clear hM5 hP5 hK5))
            go_roundw
            case rel => exact ⟨k + 1, _, vs1, by omega, by simp, rfl, hnx3, (hM5H.out.next ((Below.refl _ w5).alloc (Nat.le_refl _) _)).other (hP5H.out.alloc _) hgrow6, by rw [List.length_append, List.length_singleton, HQ.out, pvs_snoc]; exact hown6, (hB5.alloc hb5 _).grown hgrow6 (by simp; omega) (fun k e => (World.ownsRow.lt hP5H.out k e).1)⟩
            case measure => simp [intOf]; omega
          · have hb0' : (0 : Int) < b := by omega
            have hmatq := (hmat.ro hqN).1
            have hmatb := (hmat.ro hb2).1
            obtain ⟨b1, cb1, hv1, hc1, hO1, _, _⟩ := hMB.out.hd hqN hmatq (by omega)
            obtain ⟨b2, cb2, hv2, hc2, hO2, _, _⟩ := hMB.out.hd hb2 hmatb (by omega)
            have hf1 := World.ownsRow.frozenAt hMB.out.head q
            have hf2 := World.ownsRow.frozenAt hMB.out.head (q + b)
            have hgl := World.ownsRow.lt hMB.out.head g rfl
            have hsw := Lib.hid ((hMB.out.next (Below.refl _ _).drew).swap hqN hb2 (by omega) hv1 hv2)
            have hqNI0 : (q : Int) < N := by omega
            have hqbI : (q : Int) + b < N := by omega
            have hqb0 : (0 : Int) ≤ (q : Int) + b := by omega
            have hqbt : ((q : Int) + b).toNat = q + b := by omega
            have wr1 : IntKind.i64.wrap ((q : Int) + (b : Int)) = (q : Int) + (b : Int) := IntWalk.i64_in _ (by omega)
            have hneg := fun W => neg_any p d hp hdb.1 hdb.2 W
            have hsw3 := fun (W3 : World) (hW3 : (wr.alloc (.cells #[.int .i64 (k : Int)] 3)) = W3) => show (W3.cell? ⟨g, q, none⟩ = some (.slice (some ⟨b1, 0, none⟩) L cb1) ∧ W3.cell? ⟨g, q + b, none⟩ = some (.slice (some ⟨b2, 0, none⟩) L cb2) ∧ W3.frozen? ⟨g, q, none⟩ = false ∧ W3.frozen? ⟨g, q + b, none⟩ = false) by rw [← hW3]; exact ⟨hc1, hc2, hf1, hf2⟩
            clear hc1 hc2 hf1 hf2
            go_wp2_with (go_at_call 55; refine hidx'.mono ?_; rintro e W3 ⟨rfl, hW3⟩; obtain ⟨hd1, hd2, hd3, hd4⟩ := hsw3 W3 hW3; have HW3 := Lib.hid hW3; clear hW3 hsw3)
            go_region
            obtain ⟨w4, hw4⟩ : ∃ w4, w4 = ((W3.setCell ⟨g, q, none⟩ (.slice (some ⟨b2, 0, none⟩) L cb2)).setCell ⟨g, q + b, none⟩ (.slice (some ⟨b1, 0, none⟩) L cb1)).drew := ⟨_, rfl⟩
            rw [← hw4]
            obtain ⟨vs4, hvs4⟩ : ∃ vs4, vs4 = (vs1.set q (.slice (some ⟨b2, 0, none⟩) L cb2)).set (q + b) (.slice (some ⟨b1, 0, none⟩) L cb1) := ⟨_, rfl⟩
            have hMW : MP base W3 (.slice (some ⟨g, 0, none⟩) N c) N N vs1 R := HW3.out ▸ hMB.out
            have hst1 := World.ownsRow.stored hMW.head q (.slice (some ⟨b2, 0, none⟩) L cb2)
            have hst2 := World.ownsRow.stored hst1.1 (q + b) (.slice (some ⟨b1, 0, none⟩) L cb1)
            have hG4 : W3.grownBy w4 (some g) := by rw [hw4]; exact grown_drew (grown_trans hst1.2 hst2.2)
            have hnx3 : Hid (elim p A (k + 1) = ⟨clr p (swR R q (q + b)) q k, pv ++ [k], fmul p (fneg p d) (mx (swR R q (q + b)) q k)⟩) := Lib.hid (by have := hnx.out; rw [show plc R q b = swR R q (q + b) from if_neg hb0, if_neg hb0] at this; exact this)
            have hM3 : MP base w4 (.slice (some ⟨g, 0, none⟩) N c) N N vs4 (swR R q (q + b)) := by rw [hw4, hvs4]; exact (hMW.swap hqN hb2 (by omega) hv1 hv2).next (Below.refl _ _).drew
            have hmat3 := hmat.sw hqN hb2
            have hqe := fun c => mx_swR (R := R) (i := q) (j := q + b) (by rw [hmat.rows]; exact hqN) (by rw [hmat.rows]; exact hb2) (by omega) c
            have hne3 : mx (swR R q (q + b)) q k ≠ 0 := by rw [hqe]; exact hbne
            have hz3 : ∀ c, c < k → mx (swR R q (q + b)) q c = 0 := fun c hc => by rw [hqe]; exact hzero (q + b) c (by omega) hb2 hc
            have hD3 := fneg_bd p d (by omega)
            have hW3s : W3.heap.size = wr.heap.size + 1 := by rw [← HW3.out]; simp
            have hBW : Boxed W3 wr.heap.size 3 (.int .i64 (k : Int)) := HW3.out ▸ hBox
            have hgne : wr.heap.size ≠ g := fun e => by
              obtain ⟨cu, fz, ht⟩ := own_tag hMW.head g rfl
              rw [← e, show W3.heap[wr.heap.size]? = _ from hBW] at ht
              cases ht
            have hBox3 : Boxed w4 wr.heap.size 3 (.int .i64 (k : Int)) := (hG4.block _ (by omega) (fun e => by injection e with e; exact hgne e)).trans hBW
            have hb3 : base ≤ w4.heap.size := Nat.le_trans (by omega) hG4.size
            have hPW : W3.ownsRow base 3 1 (.slice A3 q c3) q (pvs pv) := HW3.out ▸ HP1.out.alloc _
            have hP3 : World.ownsRow w4 base 3 1 (.slice A3 q c3) q (pvs pv) := World.ownsRow.kept hPW hG4 (by
              cases hq : (Value.slice A3 q c3).ownBlock with
              | none => exact .inl rfl
              | some x =>
                refine .inr fun e => ?_
                injection e with e
                subst e
                obtain ⟨c1, f1, t1⟩ := own_tag hPW x hq
                obtain ⟨c2, f2, t2⟩ := own_tag hMW.head x rfl
                rw [t1] at t2
                cases t2)
            have hBW3 : Below base w W3 := HW3.out ▸ hB1.alloc hb1 _
            have hB3 : Below base w w4 := hBW3.grown hG4 (by omega) (fun x e => by injection e with e; subst e; exact (World.ownsRow.lt hMW.head _ rfl).1)
            clear hnx hbz hbne hBox hst1 hst2 hMW hBW hPW hBW3 hsw hw4 hvs4 hqe hd1 hd2 hd3 hd4 hG4 hW3s hgne
            have hkL0 : k < L := by omega
            have hmxb := hmat3.bd (p := p) (by omega) q k
            obtain ⟨b3, cb3, hv3, hc3, hO3, _, _⟩ := hM3.hd hqN (hmat3.ro hqN).1 (by omega)
            have hcx3 := hO3.cell (i := k) (x := mx (swR R q (q + b)) q k) (by rw [mx_ro]; exact co_get (by rw [(hmat3.ro hqN).1]; exact hkL0) ▸ List.getElem?_eq_getElem _)
            have hmul := fun W => mul_any p (fneg p d) (mx (swR R q (q + b)) q k) hp hD3.1 hD3.2 hmxb.1 hmxb.2 W
            have hdb3 := fmul_bd p (fneg p d) (mx (swR R q (q + b)) q k) (by omega)
            have hclr := fun n => clear_any p hp base g c N L q k vs4 (swR R q (q + b)) hN hL hqN (by omega) hmat3 hne3 hz3 (World.drewN w4 n) (Nat.le_trans hb3 (by simp)) (hM3.next (below_drewN (Below.refl _ w4) n))
            have hbxc := hBox3.cell
            have hkL : (k : Int) < L := by omega
            have hqNI : (q : Int) < N := by omega
            generalize hDD : fmul p (fneg p d) (mx (swR R q (q + b)) q k) = DD at *
            have HDD := Lib.hid hDD
            generalize mx (swR R q (q + b)) q k = X3 at *
            clear hM3 hO3 hDD hmat3 hz3
            go_wp2_with (go_at_call 57; refine (hneg _).mono ?_; rintro e w' ⟨rfl, rfl⟩)
            go_quiet ((go_at_call 31; exact quiet_left (hmul _)))
            go_wp2_with (first | (at_builtin; refine wpList_append_own _ rfl _ _ 56 rfl base 3 i0 (.int .i64 0) 1 8 Try.underlying56 hi0 hz0 hz1 hz2 rfl (by decide) _ _ _ rfl (hP5H.out.alloc _) ⟨w5.heap.size, 0, none⟩ 1 1 [.int .i64 (k : Int)] rfl rfl (cell_one_new _ _ _) (by simp [Value.oneCell']) (by simp only [maxLen]; omega) (by omega) (by simp; omega) ?_; intro v6 w6 hown6 hgrow6 _) | (go_at_call 58; refine (hclr _).mono ?_; rintro e w5 ⟨⟨v5, rfl⟩, hM5, hK5⟩; have hbxc5 := (hK5.box (B := wr.heap.size) (v := .int .i64 (k : Int)) hBox3).cell; have hP5 := hK5.own (base' := base) (v := .slice A3 q c3) (n := q) (xs := pvs pv) hP3; have hb5 : base ≤ w5.heap.size := Nat.le_trans (Nat.le_trans hb3 (by simp)) hK5.below.size; have hB5 : Below base w w5 := (below_drewN hB3 _).trans hK5.below; have hM5H := Lib.hid hM5; have hP5H := Lib.hid hP5; clear hM5 hP5 hK5))
            go_roundw
            case rel => exact ⟨k + 1, _, vs4, by omega, by simp, rfl, hnx3, (hM5H.out.next ((Below.refl _ w5).alloc (Nat.le_refl _) _)).other (hP5H.out.alloc _) hgrow6, by rw [List.length_append, List.length_singleton, HQ.out, pvs_snoc]; exact hown6, (hB5.alloc hb5 _).grown hgrow6 (by simp; omega) (fun k e => (World.ownsRow.lt hP5H.out k e).1)⟩
            case measure => simp [intOf]; omega
      · obtain rfl : q = N := by omega
        have hfn : fnd R q k = none := fnd_none.2 fun i h1 h2 => by rw [hmat.rows] at h2; omega
        have hnx := hstep hfn
        have hMB := Lib.hid hMb
        have hidx := fun (ad : Addr) (c' : Nat) => index_elim (.pointer (some ⟨wr.heap.size, 0, none⟩)) (fun r => co r k != 0) (some ad) c' 0 [] rfl (by omega) (wr.alloc (.cells #[.int .i64 (k : Int)] 3)) ⟨Nat.zero_le _, (fun h => by cases h), fun _ _ h => absurd rfl h⟩ (fun i A' c' hi hs => absurd hi (Nat.not_lt_zero _))
        clear hstep hstep2 hMb hBox hfn
        by_cases hcq : c = q
        · subst hcq
          go_wp2_with (go_at_call 55; refine (hidx _ _).mono ?_; rintro e w' ⟨rfl, rfl⟩)
          go_roundw
          case rel => exact ⟨k + 1, _, vs1, by omega, by simp, rfl, hnx, hMB.out, by show World.ownsRow _ _ _ _ _ pv.length _; rw [HQ.out]; exact HP1.out.alloc _, hB1.alloc hb1 _⟩
          case measure => simp [intOf]; omega
        · go_wp2_with (go_at_call 55; refine (hidx _ _).mono ?_; rintro e w' ⟨rfl, rfl⟩)
          go_roundw
          case rel => exact ⟨k + 1, _, vs1, by omega, by simp, rfl, hnx, hMB.out, by show World.ownsRow _ _ _ _ _ pv.length _; rw [HQ.out]; exact HP1.out.alloc _, hB1.alloc hb1 _⟩
          case measure => simp [intOf]; omega
    · obtain rfl : k = cols := by omega
      go_wp2
      go_ret2
      exact ⟨_, vs1, by rw [hE.out]; rfl, by rw [hE.out]; exact hM1, by rw [hE.out]; exact hP1, hB1⟩
end Go.Proofs.Ytgkhngiiimnchaa
