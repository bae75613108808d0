/- clearColumn of package matrix: the pivot's row divided by its entry, all other entries of the column made nought, in a matrix of the call's own. Conditions: a supported prime, rows of one length with words of its field, the pivot's row nought ahead of the column; at most 1000 rows and columns. -/
import Derived.Test.YtgkhngiiimnchaaRClone
namespace Go.Proofs.Ytgkhngiiimnchaa
open Go.RowKit PolyMath FieldMath MatMath

/-- Blocks below base, and blocks that hold no words, stay. -/
structure Kp (base : Nat) (w w' : World) : Prop where
  below : Below base w w'
  other : ∀ (b : Nat) (o : Obj), w.heap[b]? = some o → (∀ cur fz, o ≠ .cells cur 22 fz) → w'.heap[b]? = some o
section
variable {base : Nat} {w w' w'' : World}
theorem Kp.refl (base : Nat) (w : World) : Kp base w w := ⟨Below.refl _ _, fun _ _ h _ => h⟩
theorem Kp.trans (h : Kp base w w') (h' : Kp base w' w'') : Kp base w w'' := ⟨h.below.trans h'.below, fun b o h1 h2 => h'.other b o (h.other b o h1 h2) h2⟩
theorem Kp.of (h : Below w.heap.size w w') (hb : base ≤ w.heap.size) : Kp base w w' := ⟨h.mono hb, fun b o h1 _ => by rw [h.block b (heap_lt h1)]; exact h1⟩
theorem Kp.grown {g L cb : Nat} {xs : List Int} (ho : OwnAt w base g L cb xs) (hg : w.grownBy w' (some g)) (hb : base ≤ w.heap.size) : Kp base w w' :=
  ⟨(Below.refl _ w).grown hg hb (fun k e => by injection e with e; have := ho.lt.1; omega), fun b o h1 h2 => by
    rw [hg.block b (heap_lt h1) (fun e => by
      injection e with e
      subst e
      obtain ⟨cur, fz, h3⟩ := own_tag ho b rfl
      rw [h1] at h3
      injection h3 with h3
      exact h2 cur fz h3)]
    exact h1⟩
theorem Kp.box (h : Kp base w w') {B : Nat} {v : Value} (hb : Boxed w B 3 v) : Boxed w' B 3 v := h.other B _ hb (fun cur fz e => by cases e)
theorem Kp.own (h : Kp base w w') {base' n : Nat} {v : Value} {xs : List Value} (ho : w.ownsRow base' 3 1 v n xs) : w'.ownsRow base' 3 1 v n xs := by
  refine ⟨ho.1, ho.2.imp id ?_⟩
  rintro ⟨g, cap, cur, hv, h1, hh, r⟩
  exact ⟨g, cap, cur, hv, h1, h.other g _ hh (fun cur fz e => by cases e), r⟩
end
theorem Sl.drop {w : World} {b off c : Nat} {xs : List Int} (h : Sl w (some ⟨b, off, none⟩) c xs) (k : Nat) : Sl w (some ⟨b, off + k, none⟩) (c - k) (xs.drop k) := by
  refine ⟨by rw [List.length_drop]; have := h.cap; omega, (fun e => by cases e), fun ad e hn => ?_⟩
  injection e with e
  subst e
  obtain ⟨b', off', e', hlt, hc⟩ := h.rd _ rfl (fun e => hn (by rw [e]; simp))
  injection e' with e1 e2
  subst e1 e2
  refine ⟨b, off + k, rfl, hlt, fun j r hr => ?_⟩
  rw [List.getElem?_drop] at hr
  have := hc (k + j) r hr
  rw [Nat.add_assoc]; exact this
theorem co_drop (xs : List Int) (k c : Nat) : co (xs.drop k) c = co xs (k + c) := by unfold co; rw [List.getElem?_drop]
theorem El_drop {p : Int} {xs : List Int} (h : El p xs) (k : Nat) : El p (xs.drop k) := fun x hx => h x (List.mem_of_mem_drop hx)
theorem mixO_congr {f g : Nat → Int} {o n : Nat} {xs : List Int} (h : ∀ c, o ≤ c → c < o + n → f c = g c) : mixO f o n xs = mixO g o n xs := map_ext fun c _ => by
  by_cases e : o ≤ c ∧ c < o + n
  · rw [if_pos e, if_pos e, h c e.1 e.2]
  · rw [if_neg e, if_neg e]

/-- What clearColumn leaves. -/
def Cleared (base : Nat) (g c N : Nat) (vs : List Value) (R : List (List Int)) (w w' : World) : Prop :=
  MP base w' (.slice (some ⟨g, 0, none⟩) N c) N N vs R ∧ Kp base w w'

set_option maxHeartbeats 2000000 in
theorem clear_any (p : Int) (hp : OkP p) (base g c N L q k : Nat) (vs : List Value) (R : List (List Int)) (hN : N ≤ 1000) (hL : L ≤ 1000) (hq : q < N) (hk : k < L) (hR : Mat p N L R) (h1 : mx R q k ≠ 0) (h0 : ∀ c, c < k → mx R q c = 0)
    (w : World) (hb : base ≤ w.heap.size) (hM : MP base w (.slice (some ⟨g, 0, none⟩) N c) N N vs R) :
    Calls Try.prog 58 #[.int .u64 p, .slice (some ⟨g, 0, none⟩) N c, .int .i64 q, .int .i64 k] w fun e w' => (∃ v, e = .returned v) ∧ Cleared base g c N vs (clr p R q k) w w' := by
  have hbd := hp.bd
  obtain ⟨b, cb, hvq, hcq, hO, hbg, hLc⟩ := hM.hd hq (hR.ro hq).1 (by omega)
  have hel := (hR.ro hq).2
  have hrl := Lib.hid (hR.ro hq).1
  have hx0 : (ro R q)[k]? = some (mx R q k) := by rw [mx_ro]; exact co_get (by rw [hrl.out]; exact hk) ▸ List.getElem?_eq_getElem _
  have hcx := hO.cell hx0
  have hmb := hR.bd (p := p) (by omega) q k
  have hmp : 0 < mx R q k := by omega
  have hvb := fpow_bd p (mx R q k) (p - 2) (by omega)
  have hTOP : Hid (mixO (fun c => fmul p (co (ro R q) c) (vinv p (mx R q k))) k (L - k) (ro R q) = top p R q k) := Lib.hid (mixO_scl (by rw [hrl.out]; omega) h0)
  have hqN : (q : Int) < N := by omega
  have hkL : (k : Int) ≤ L := by omega
  have hkL2 : k ≤ L := by omega
  have hLcI : (L : Int) ≤ cb := by omega
  have hkz : (0 : Int) < (L - k : Nat) := by omega
  have hvin : Hid (fpow p (mx R q k) (p - 2) = vinv p (mx R q k)) := Lib.hid rfl
  have hMH := Lib.hid hM
  have h00 := Lib.hid h0
  have hinv := fun W => inverse_any p (mx R q k) hp hmp hmb.2 W
  rw [hvin.out] at hinv hvb
  generalize hV : vinv p (mx R q k) = V at *
  have HV := Lib.hid hV
  generalize hX : mx R q k = X at *
  have HX := Lib.hid hX
  clear hM hx0 h1 h0 hX hV hvin
  go_enter Try.func58, Try.ntmps58
  go_wp2_with (go_at_call 65; refine (hinv _).mono ?_; rintro e w' ⟨rfl, rfl⟩)
  go_loopw [31] (fun i wr => ∃ j : Nat, j ≤ L - k ∧ i = .int .i64 j ∧ OwnAt wr base b L cb (mixO (fun c => fmul p (co (ro R q) c) V) k j (ro R q)) ∧ w.grownBy wr (some b)) (fun i _ => (L - k) - (intOf i).toNat)
  case atStart => exact ⟨0, Nat.zero_le _, rfl, by rw [mixO_zero]; exact hO, World.grownBy.refl _ _⟩
  case round =>
    obtain ⟨j, hj, rfl, hOj, hG⟩ := hrel
    by_cases hlt : j < L - k
    · have hcj := hOj.cell (mixO_get (fun c => fmul p (co (ro R q) c) V) k j (ro R q) (c := k + j) (by rw [hrl.out]; omega))
      rw [if_neg (by omega)] at hcj
      have hxb := hel.co (p := p) (by omega) (k + j)
      have hfz := hOj.frozen (k + j)
      have hST := Lib.hid (show OwnAt (wr.setCell ⟨b, k + j, none⟩ (.int .u64 (fmul p (co (ro R q) (k + j)) V))) base b L cb (mixO (fun c => fmul p (co (ro R q) c) V) k (j + 1) (ro R q)) by rw [← mixO_set]; exact hOj.put _ _)
      have hGR := Lib.hid (grown_trans hG (hOj.grow (k + j) (fmul p (co (ro R q) (k + j)) V)))
      have hjn : (j : Int) < (L - k : Nat) := by omega
      clear hOj hG
      generalize co (ro R q) (k + j) = x at *
      go_wp2_with (go_at_call 31; refine (mul_any _ _ _ hp hxb.1 hxb.2 hvb.1 hvb.2 _).mono ?_; rintro e w' ⟨rfl, rfl⟩)
      go_roundw
      case rel => exact ⟨j + 1, by omega, by simp, hST.out, hGR.out⟩
      case measure => simp [intOf]; omega
    · obtain rfl : j = L - k := by omega
      rw [hTOP.out] at hOj
      have hM1 : MP base wr (.slice (some ⟨g, 0, none⟩) N c) N N vs (clrK p R q k 0) := by rw [clrK_start p k (by rw [hR.rows]; exact hq)]; exact hMH.out.change hq hvq hOj hG
      have hK1 := Kp.grown hO hG hb
      have hb1 : base ≤ wr.heap.size := Nat.le_trans hb hG.size
      have hMH1 := Lib.hid hM1
      clear hM1 hOj hG
      rename World => w1
      go_wp2
      go_loopw [46] (fun i wr => ∃ j : Nat, j ≤ N ∧ i = .int .i64 j ∧ MP base wr (.slice (some ⟨g, 0, none⟩) N c) N N vs (clrK p R q k j) ∧ Kp base w wr ∧ base ≤ wr.heap.size) (fun i _ => N - (intOf i).toNat)
      case atStart => exact ⟨0, Nat.zero_le _, rfl, hMH1.out, hK1, hb1⟩
      case round =>
        obtain ⟨j, hj, rfl, hMj, hKj, hbj⟩ := hrel
        by_cases hlt : j < N
        · have hjn : (j : Int) < N := by omega
          have hmat := hR.clrK (p := p) (by omega) hq k j
          by_cases hjq : j = q
          · subst hjq
            obtain ⟨b2, cb2, hv2, hc2, _⟩ := hMj.hd hlt (hmat.ro hlt).1 (by omega)
            have hE := Lib.hid (clrK_here p R j k)
            have hMJ := Lib.hid hMj
            clear hMj
            go_wp2
            go_roundw
            case rel => exact ⟨j + 1, by omega, by simp, by rw [hE.out]; exact hMJ.out, hKj, hbj⟩
            case measure => simp [intOf]; omega
          · have hne : ((j : Int) != q) = true := bne_iff_ne.2 (by omega)
            obtain ⟨b2, cb2, hv2, hc2, hO2, hb2g, hL2⟩ := hMj.hd hlt (hmat.ro hlt).1 (by omega)
            obtain ⟨b3, cb3, hv3, hc3, hO3, _, _⟩ := hMj.hd hq (hmat.ro hq).1 (by omega)
            rw [hvq] at hv3
            injection hv3 with hv3
            injection hv3 with e1 e2 e3
            injection e1 with e1
            injection e1 with e1
            subst e1 e3
            rw [clrK_at p (by rw [hR.rows]; exact hlt) hjq] at hO2
            rw [clrK_top p k j (by rw [hR.rows]; exact hq)] at hO3
            have hap : b2 ≠ b := fun e => hjq (hMj.apart j q _ _ b hlt hq hv2 hvq (by rw [e]; rfl) rfl)
            have hel2 := (hR.ro hlt).2
            have hrl2 := (hR.ro hlt).1
            have hcx2 := hO2.cell (i := k) (x := mx R j k) (by rw [mx_ro]; exact co_get (by rw [hrl2]; exact hk) ▸ List.getElem?_eq_getElem _)
            have hyb := hR.bd (p := p) (by omega) j k
            have hnb := fneg_bd p (mx R j k) (by omega)
            have htop := hR.top (p := p) (by omega) hq k
            have hsl : Sl wr.drew (some ⟨b, k, none⟩) (cb - k) ((top p R q k).drop k) := by have := (hO3.drew.sl).drop k; rwa [Nat.zero_add] at this
            have hadd := addMul_any p (fneg p (mx R j k)) hp hnb base b2 L cb2 (ro R j) hel2 k (L - k) (cb2 - k) (by omega) hL (by omega) (some ⟨b, k, none⟩) (cb - k) ((top p R q k).drop k) (El_drop htop.2 k) (by rw [List.length_drop, htop.1]) wr.drew hO2.drew hsl (fun _ ad e e' => by injection e with e; subst e; injection e' with e'; exact hap e'.symm)
            have hRES : Hid (mixO (addF p (fneg p (mx R j k)) (ro R j) ((top p R q k).drop k) k) k (L - k) (ro R j) = subR p (mx R j k) (ro R j) (top p R q k)) := Lib.hid (by
              rw [mixO_congr (g := fun c => fadd p (co (ro R j) c) (fmul p (fneg p (mx R j k)) (co (top p R q k) c))) (fun c h1 h2 => by unfold addF; rw [co_drop, show k + (c - k) = c by omega])]
              exact mixO_sub (by omega) hel2 (by rw [hrl2]; omega) (by rw [htop.1, hrl2]) (fun c hc => by unfold top; rw [co_sclR, ← mx_ro, h00.out c hc]; unfold fmul; rw [Int.zero_mul, Int.zero_emod]))
            have hNX := Lib.hid (clrK_next p (R := R) (q := q) k (show j < R.length by rw [hR.rows]; exact hlt) hjq)
            have hLI2 : (L : Int) ≤ cb2 := by omega
            have hMJ := Lib.hid hMj
            have HO2 := Lib.hid hO2
            have hkLI : (k : Int) < L := by omega
            clear hMj hsl hO3 htop
            generalize mx R j k = y at *
            go_wp2
            refine wp_region_still_tail 11 (by kernel_rfl) (by kernel_rfl) ?_
            simp only [List.take_succ_cons, List.take_zero, List.drop_succ_cons, List.drop_zero]
            change wpStill _ _ (World.drew _) (fun a' => wpList _ _ _ _ a' (World.drew _)) _ _
            repeat still_step
            still_call (still_of (neg_any _ _ hp hyb.1 hyb.2 _))
            repeat still_step
            refine wpStill_nil ?_
            go_wp2_with (go_at_call 35; refine hadd.mono ?_; rintro e w5 ⟨⟨v, rfl⟩, hO5, hG5⟩)
            rw [hRES.out] at hO5
            go_roundw
            case rel => exact ⟨j + 1, by omega, by simp, by rw [← hNX.out]; exact (hMJ.out.next (Below.refl _ wr).drew).change hlt hv2 hO5 hG5, (hKj.trans (Kp.of (Below.refl _ wr).drew hbj)).trans (Kp.grown HO2.out.drew hG5 hbj), Nat.le_trans hbj hG5.size⟩
            case measure => simp [intOf]; omega
        · obtain rfl : j = N := by omega
          go_wp2
          go_end0
          exact ⟨⟨_, rfl⟩, by unfold clr; rw [hR.rows]; exact hMj, hKj⟩
end Go.Proofs.Ytgkhngiiimnchaa
