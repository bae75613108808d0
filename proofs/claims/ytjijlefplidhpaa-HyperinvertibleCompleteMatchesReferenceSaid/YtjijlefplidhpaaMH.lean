/- Texts joined: RRefC, RRed, RRefD, RRefE. Each says its own conditions. -/
import Derived.Test.YtjijlefplidhpaaMF
import Derived.BigRegion
/- Apply and Mul of the reference of layer 6. Nothing that lay is changed. Conditions: a supported prime, words of its field, at most 100 rows and columns. -/
namespace Go.Proofs.Ytjijlefplidhpaa
set_option maxRecDepth 100000
open Go.RowKit PolyMath FieldMath MatMath

theorem rectN_of {rows : List (List Int)} (hr : rect rows = true) : rectN rows = ncol rows := by unfold rectN; rw [hr]; rfl
/-- An entry of the product by a column. -/
theorem mul_entry {p : Int} {a : List Int} {b : List (List Int)} {k l : Nat} (hr : rect b = true) (hE : ∀ r ∈ b, El p r) (hp : 0 < p) (hb : 0 < b.length) (hk : k < ncol b) (hl : a.length = l) (hlb : b.length = l) : dot p a (ro (trn b) k) = sg l (fun j => co a j * mx b j k) % p := by
  have _hT := trn_mat (p := p) hp (mat_of hr hE) hb
  unfold dot
  rw [hl]
  congr 1
  exact sg_congr _ fun j hj => by rw [← mx_ro, trn_mx hk (by omega)]

end Go.Proofs.Ytjijlefplidhpaa

/- Reduced of the reference of layer 6: elimination on a copy. Nothing that lay is changed. Conditions: a supported prime, rows of one length with words of its field; at most 200 rows and columns. -/
namespace Go.Proofs.Ytjijlefplidhpaa
set_option maxRecDepth 100000
open Go.RowKit PolyMath FieldMath MatMath

theorem fsub_zero (p d : Int) : fsub p 0 d = fneg p d := by unfold fsub fneg; rw [Int.zero_sub]
theorem subR_zero {p : Int} (hp : 0 < p) {r : List Int} (hr : El p r) (t : List Int) : subR p 0 r t = r := list_ext (subR_len _ _ _ _) fun c => by
  unfold subR
  rw [co_map]
  by_cases h : c < r.length
  · rw [if_pos h]; unfold fsub fmul; rw [Int.zero_mul, Int.zero_emod, Int.sub_zero]; exact hr.cm hp c
  · rw [if_neg h, co_fin r c (by omega)]
theorem clrK_none {p : Int} (hp : 0 < p) {R : List (List Int)} {N L q k j : Nat} (hR : Mat p N L R) (hj : j < N) (hne : j ≠ q) (h0 : mx R j k = 0) : clrK p R q k (j + 1) = clrK p R q k j := by
  rw [← clrK_next p k (by rw [hR.rows]; exact hj) hne, h0, subR_zero hp (hR.ro hj).2]
  have := clrK_at p (q := q) (k := k) (show j < R.length by rw [hR.rows]; exact hj) hne
  rw [← this, set_ro]
/-- What Reduced leaves. -/
def Redd (p : Int) (rows : List (List Int)) (k : Nat) (w : World) (e : Ending) (w' : World) : Prop :=
  ∃ v vs pvv, e = .returned (.tuple #[v, pvv, .int .u64 (elim p rows k).d]) ∧ MP w.heap.size w' v rows.length rows.length vs (elim p rows k).R ∧ w'.ownsRow w.heap.size 3 1 pvv (elim p rows k).pv.length (pvs (elim p rows k).pv) ∧ Below w.heap.size w w'

set_option maxRecDepth 100000 in
set_option maxHeartbeats 3000000 in
theorem red_any (p : Int) (hp : OkP p) (A : Option Addr) (c L cols : Nat) (rows : List (List Int)) (hN : rows.length ≤ 200) (hL : L ≤ 200) (hc : cols ≤ L) (hcN : 0 < cols → 0 < rows.length) (hA : Mat p rows.length L rows)
    (w : World) (h : Sll w A c rows) :
    Calls Try.prog 85 #[.int .u64 p, .slice A rows.length c, .int .i64 cols] w fun e w' => Redd p rows cols w e w' := by
  obtain ⟨i0, hi0, hz0, hz1, hz2⟩ := info_parts info_int
  obtain ⟨u0, hu0, hx0, hx1, hx2⟩ := info_parts info_u64
  obtain ⟨j0, hj0, hy0, hy1, hy2⟩ := info_parts info_sl
  have hbd := hp.bd
  have hok := elim_ok hp.good hA
  go_enter Try.func85, Try.ntmps85
  go_wp2
  go_loopw [9, 10] (fun v i wr => ∃ (k : Nat) (vs : List Value), k ≤ rows.length ∧ i = .int .i64 k ∧ MP w.heap.size wr v k k vs (rows.take k) ∧ Below w.heap.size w wr) (fun _ i _ => rows.length - (intOf i).toNat)
  case atStart => exact ⟨0, [], Nat.zero_le _, rfl, MP.zero _ _, Below.refl _ _⟩
  case round =>
    obtain ⟨k, vs, hk, rfl, hM, hB⟩ := hrel
    have hsz : w.heap.size ≤ wr.heap.size := hB.size
    by_cases hlt : k < rows.length
    · obtain ⟨ba, oa, A', c', hA', hba, hca, hsa⟩ := h.rowAt (i := k) (L := L) hlt (hA.ro hlt).1
      subst hA'
      have hcaw := (hB.cell (p := ⟨ba, oa + k, none⟩) hba).trans hca
      have hkn : (k : Int) < rows.length := by omega
      have hMH := Lib.hid hM
      obtain ⟨Ao, co', ho⟩ := row_form hM.head
      subst ho
      have hTK : Hid (rows.take k ++ [ro rows k] = rows.take (k + 1)) := Lib.hid (by rw [List.take_add_one, ro_get hlt]; rfl)
      have hlit := own_lit0 wr
      have hrl := Lib.hid (hA.ro hlt).1
      have hsw := hsa.next hB
      have hone := Lib.hid (one_cells (ro rows k))
      have hcaw2 : (wr.alloc (.cells #[] 22)).cell? ⟨ba, oa + k, none⟩ = some (.slice A' L c') := (World.cell?_alloc_some _ _ _ (by rw [hcaw]; rfl)).trans hcaw
      clear hM
      cases A' with
      | none =>
        obtain ⟨hr0, hc0⟩ := hsw.empty rfl
        have hL0 : L = 0 := by rw [← hrl.out, hr0]; rfl
        subst hL0 hc0
        have hu : Hid ((wr.alloc (.cells #[] 22)).ownsRow wr.heap.size 22 1 (.slice (some ⟨wr.heap.size, 0, none⟩) 0 0) 0 []) := hlit
        have hb1 := (Below.refl _ wr).alloc (Nat.le_refl _) (.cells #[] 22)
        have hb2 := hb1.alloc hb1.size (.cells #[.slice (some ⟨wr.heap.size, 0, none⟩) 0 0] 31)
        have hhd := Lib.hid (hMH.out.next hb2).head
        have huA := Lib.hid (hu.out.alloc (.cells #[.slice (some ⟨wr.heap.size, 0, none⟩) 0 0] 31))
        have hR0 := Lib.hid hr0
        clear hr0 hsw hsa
        go_wp2_with (first | (at_builtin; refine wpList_append_own_none rfl _ _ 31 rfl wr.heap.size 22 u0 1 Try.underlying31 hu0 _ _ _ rfl hlit.out rfl ?_) | (at_builtin; refine wpList_append_own _ rfl _ _ 25 rfl w.heap.size 31 j0 (.slice none 0 0) 1 24 Try.underlying25 hj0 hy0 hy1 hy2 rfl (by decide) _ _ _ rfl hhd.out ⟨wr.heap.size + 1, 0, none⟩ 1 1 [.slice (some ⟨wr.heap.size, 0, none⟩) 0 0] rfl rfl (by have := cell_one_new (wr.alloc (.cells #[] 22)) (.slice (some ⟨wr.heap.size, 0, none⟩) 0 0) 31; rwa [World.size_alloc] at this) (by simp [Value.oneCell']) (by simp only [maxLen]; omega) (by omega) (by simp; omega) ?_; intro v6 w6 hown6 hgrow6 _))
        go_roundw
        case rel => exact ⟨k + 1, _, by omega, by simp, by rw [← hTK.out, hR0.out]; exact hMH.out.add hb2 hsz huA.out hown6 hgrow6, (hB.trans (hb2.mono hsz)).grown hgrow6 (by simp; omega) (fun x e => (World.ownsRow.lt hhd.out x e).1)⟩
        case measure => simp [intOf]; omega
      | some ad =>
        have hnw := Lib.hid (hsw.news (.cells #[] 22) L)
        rw [List.take_of_length_le (by rw [hrl.out]; exact Nat.le_refl _)] at hnw
        have hln : Hid (((ro rows k).map (Value.int .u64)).length = L * 1) := Lib.hid (by rw [List.length_map, hrl.out, Nat.mul_one])
        clear hsw hsa
        go_wp2_with (first | (at_builtin; refine wpList_append_own _ rfl _ _ 25 rfl w.heap.size 31 j0 (.slice none 0 0) 1 24 Try.underlying25 hj0 hy0 hy1 hy2 rfl (by decide) _ _ _ rfl hhd.out ⟨w5.heap.size, 0, none⟩ 1 1 [.slice A5 L c5] rfl rfl (cell_one_new _ _ _) (by simp [Value.oneCell']) (by simp only [maxLen]; omega) (by omega) (by simp; omega) ?_; intro v6 w6 hown6 hgrow6 _) | (at_builtin; refine wpList_append_own _ rfl _ _ 31 rfl wr.heap.size 22 u0 (.int .u64 0) 1 8 Try.underlying31 hu0 hx0 hx1 hx2 rfl (by decide) _ _ _ rfl hlit.out ad L c' ((ro rows k).map (Value.int .u64)) rfl hln.out hnw.out hone.out (by simp only [maxLen]; omega) (by omega) (by simp) ?_; intro v5 w5 hown5 hgrow5 _; rw [Nat.zero_add, List.nil_append] at hown5; have hb5 : Below wr.heap.size wr w5 := ((Below.refl _ wr).alloc (Nat.le_refl _) _).grown hgrow5 (by simp) (fun x e => (hlit.out.lt x e).1); obtain ⟨A5, c5, hv5⟩ := row_form hown5; subst hv5; have hsz5 := hb5.size; have hb6 := hb5.alloc hsz5 (.cells #[.slice A5 L c5] 31); have hhd := Lib.hid (hMH.out.next hb6).head; have hu6 := Lib.hid (hown5.alloc (.cells #[.slice A5 L c5] 31)); clear hown5 hgrow5))
        go_roundw
        case rel => exact ⟨k + 1, _, by omega, by simp, by rw [← hTK.out]; exact hMH.out.add hb6 hsz (by rw [hrl.out]; exact hu6.out) hown6 hgrow6, (hB.trans (hb6.mono hsz)).grown hgrow6 (by simp; omega) (fun x e => (World.ownsRow.lt hhd.out x e).1)⟩
        case measure => simp [intOf]; omega
    · obtain rfl : k = rows.length := by omega
      rw [List.take_length] at hM
      by_cases hN0 : rows.length = 0
      · have hc0 : cols = 0 := by
          rcases Nat.eq_zero_or_pos cols with e | e
          · exact e
          · have := hcN e; omega
        subst hc0
        obtain ⟨Ao, co', ho⟩ := row_form hM.head
        subst ho
        have hMH := Lib.hid hM
        clear hM
        go_wp2_with fail
        go_loopw [11, 12, 13] (fun a d i wr2 => a = .slice none 0 0 ∧ d = .int .u64 1 ∧ i = .int .i64 0 ∧ wr2 = wr) (fun _ _ i _ => (intOf i).toNat)
        case atStart => exact ⟨rfl, rfl, rfl, rfl⟩
        case round =>
          obtain ⟨rfl, rfl, rfl, rfl⟩ := hrel
          go_wp2_with fail
          go_ret3
          exact ⟨_, vs, _, rfl, hMH.out, World.ownsRow_nil _ _ _ _, hB⟩
      · obtain ⟨g, cap, hv, _, _⟩ := World.ownsRow.form hM.head (by omega)
        subst hv
        have hcapN : rows.length ≤ cap := by have h5 := hM.sll.cap; exact h5
        have hMH := Lib.hid hM
        clear hM
        rename World => w1
        go_wp2_with fail
        go_loopw [11, 12, 13] (fun pvv dv i wr => ∃ (k : Nat) (S : ES) (vs : List Value), k ≤ cols ∧ i = .int .i64 k ∧ dv = .int .u64 S.d ∧ Hid (elim p rows k = S) ∧ MP w.heap.size wr (.slice (some ⟨g, 0, none⟩) rows.length cap) rows.length rows.length vs S.R ∧ wr.ownsRow w.heap.size 3 1 pvv S.pv.length (pvs S.pv) ∧ Below w.heap.size w wr) (fun _ _ i _ => cols - (intOf i).toNat)
        case atStart => exact ⟨0, _, vs, Nat.zero_le _, rfl, rfl, Lib.hid rfl, hMH.out, (show w1.ownsRow w.heap.size 3 1 (.slice none 0 0) 0 [] from World.ownsRow_nil _ _ _ _), hB⟩
        case round =>
          clear hMH
          obtain ⟨k, S, vs1, hk, rfl, rfl, hE, hM1, hP1, hB1⟩ := hrel
          have hELF := hok k
          rw [hE.out] at hELF
          have hb1 : w.heap.size ≤ wr.heap.size := hB1.size
          by_cases hlt : k < cols
          · obtain ⟨R, pv, d⟩ := S
            obtain ⟨A3, c3, rfl⟩ := row_form hP1
            have hqle := hELF.ech.len
            have hstep : fnd R pv.length k = none → Hid (elim p rows (k + 1) = ⟨R, pv, d⟩) := fun h => Lib.hid (by rw [elim_skip (by rw [hE.out]; exact h), hE.out])
            have hstep2 : ∀ b, fnd R pv.length k = some b → Hid (elim p rows (k + 1) = ⟨clr p (plc R pv.length b) pv.length k, pv ++ [k], fmul p (if b = 0 then d else fneg p d) (mx (plc R pv.length b) pv.length k)⟩) := fun b h => Lib.hid (by rw [elim_step (b := b) (by rw [hE.out]; exact h), hE.out])
            have hmat := hELF.mat
            have hdb := hELF.db
            dsimp only at hM1 hP1 hqle hmat hdb ⊢
            have HP1 := Lib.hid hP1
            generalize hq : pv.length = q at *
            have HQ := Lib.hid hq
            clear hq hE hELF hP1
            have HM1 := Lib.hid hM1
            have hkc : (k : Int) < cols := by omega
            clear hM1
            go_wp2_with fail
            go_loop [14] (fun i => ∃ j : Nat, q ≤ j ∧ j ≤ rows.length ∧ i = .int .i64 j ∧ Hid (∀ t, q ≤ t → t < j → mx R t k = 0)) (fun i => rows.length - (intOf i).toNat)
            case atStart => exact ⟨q, Nat.le_refl _, hqle, rfl, Lib.hid (fun t h1 h2 => by omega)⟩
            case round =>
              obtain ⟨j, hqj, hjN, rfl, hZ⟩ := hrel
              have hkL00 : k < L := by omega
              by_cases hlj : j < rows.length
              · obtain ⟨b2, cb2, hv2, hc2, hO2, _, _⟩ := HM1.out.hd hlj (hmat.ro hlj).1 (by omega)
                have hcx2 := hO2.cell (i := k) (x := mx R j k) (by rw [mx_ro]; exact co_get (by rw [(hmat.ro hlj).1]; exact hkL00) ▸ List.getElem?_eq_getElem _)
                have hjn : (j : Int) < rows.length := by omega
                have hkLI0 : (k : Int) < L := by omega
                clear hO2
                by_cases hx0' : mx R j k = 0
                · have hN2 := Lib.hid (show ∀ t, q ≤ t → t < j + 1 → mx R t k = 0 from fun t h1 h2 => by
                    by_cases e : t = j
                    · subst e; exact hx0'
                    · exact hZ.out t h1 (by omega))
                  rw [hx0'] at hcx2
                  clear hx0' hZ
                  go_wp2_with fail
                  go_round
                  case rel => exact ⟨j + 1, by omega, by omega, by simp, hN2⟩
                  case measure => simp [intOf]; omega
                · have hfn : fnd R q k = some (j - q) := fnd_some.2 ⟨by rw [show q + (j - q) = j by omega, hmat.rows]; exact hlj, by rw [show q + (j - q) = j by omega]; exact hx0', fun t ht => hZ.out (q + t) (by omega) (by omega)⟩
                  have hnx := hstep2 _ hfn
                  have hx0'' : (mx R j k == 0) = false := beq_eq_false_iff_ne.2 hx0'
                  have hjne : ((j : Int) == rows.length) = false := beq_eq_false_iff_ne.2 (by omega)
                  have hqN : q < rows.length := by omega
                  clear hstep hstep2 hfn
                  by_cases hjq : j = q
                  · have hjq2 := hjq.symm
                    subst hjq2
                    rename World => W3
                    have hnx3 : Hid (elim p rows (k + 1) = ⟨clr p R q k, pv ++ [k], fmul p d (mx R q k)⟩) := Lib.hid (by have := hnx.out; rw [Nat.sub_self, show plc R q 0 = R from if_pos rfl, if_pos rfl] at this; exact this)
                    have hM3 := HM1.out
                    have hmat3 := hmat
                    have hD3 := hdb
                    have hb3 := hb1
                    have hP3 := HP1.out
                    have hB3 := hB1
                    have hjj : ((q : Int) != q) = false := by simp
                    have hne3 := hx0'
                    clear hnx hc2 hcx2 hx0''
                    have hkL : k < L := by omega
                    have hmxb := hmat3.bd (p := p) (by omega) q k
                    obtain ⟨b3, cb3, hv3, hc3, hO3, _, _⟩ := hM3.hd hqN (hmat3.ro hqN).1 (by omega)
                    have hcx3 := hO3.cell (i := k) (x := mx R q k) (by rw [mx_ro]; exact co_get (by rw [(hmat3.ro hqN).1]; exact hkL) ▸ List.getElem?_eq_getElem _)
                    have hXp : 0 < mx R q k := by have := hmxb.1; omega
                    have hmul := fun W => rMul_any p d (mx R q k) hp hD3.1 hD3.2 hmxb.1 hmxb.2 W
                    have hdb3 := fmul_bd p d (mx R q k) (by omega)
                    have hinv := fun W => rInv_any p (mx R q k) hp hXp hmxb.2 W
                    rw [show fpow p (mx R q k) (p - 2) = vinv p (mx R q k) from rfl] at hinv
                    have hvb : 0 ≤ vinv p (mx R q k) ∧ vinv p (mx R q k) < p := fpow_bd p (mx R q k) (p - 2) (by omega)
                    have hTOP : Hid (mixO (fun c => fmul p (co (ro R q) c) (vinv p (mx R q k))) 0 L (ro R q) = top p R q k) := Lib.hid (mixO_scl (by rw [(hmat3.ro hqN).1, Nat.zero_add]) (fun c hc => absurd hc (Nat.not_lt_zero _)))
                    have hkLI : (k : Int) < L := by omega
                    have hqNI : (q : Int) < rows.length := by omega
                    have hMM := Lib.hid hM3
                    have hmatH := hmat3
                    generalize hDD : fmul p d (mx R q k) = DD at *
                    generalize hVV : vinv p (mx R q k) = V at *
                    generalize hXX : mx R q k = X3 at *
                    clear hM3 hO3 hDD hVV hXX
                    go_wp2_with (first | (go_at_call 83; refine (hmul _).mono ?_; rintro e w' ⟨rfl, rfl⟩) | (go_at_call 92; refine (hinv _).mono ?_; rintro e w' ⟨rfl, rfl⟩))
                    go_loopw [18] (fun i wr => ∃ j : Nat, j ≤ L ∧ i = .int .i64 j ∧ MP w.heap.size wr (.slice (some ⟨g, 0, none⟩) rows.length cap) rows.length rows.length vs1 (R.set q (mixO (fun c => fmul p (co (ro R q) c) V) 0 j (ro R q))) ∧ Kp w.heap.size W3 wr) (fun i _ => L - (intOf i).toNat)
                    case atStart => exact ⟨0, Nat.zero_le _, rfl, by rw [mixO_zero, set_ro]; exact hMM.out, Kp.refl _ _⟩
                    case round =>
                      obtain ⟨j, hj, rfl, hMj, hKj⟩ := hrel
                      have hbj : w.heap.size ≤ wr.heap.size := Nat.le_trans hb3 hKj.below.size
                      have hrq : ro (R.set q (mixO (fun c => fmul p (co (ro R q) c) V) 0 j (ro R q))) q = mixO (fun c => fmul p (co (ro R q) c) V) 0 j (ro R q) := by rw [ro_set (by rw [hmatH.rows]; exact hqN), if_pos rfl]
                      obtain ⟨b4, cb4, hv4, hc4, hO4, hbg4, hcb4⟩ := hMj.hd (L := L) hqN (by rw [hrq, mixO_len]; exact (hmatH.ro hqN).1) (by omega)
                      rw [hrq] at hO4
                      by_cases hltj : j < L
                      · have hcj := hO4.cell (mixO_get (fun c => fmul p (co (ro R q) c) V) 0 j (ro R q) (c := j) (by rw [(hmatH.ro hqN).1]; exact hltj))
                        rw [if_neg (by omega)] at hcj
                        have hxb := (hmatH.ro hqN).2.co (p := p) (by omega) j
                        have hfz := hO4.frozen j
                        have hST := Lib.hid (show OwnAt (wr.drew.setCell ⟨b4, j, none⟩ (.int .u64 (fmul p (co (ro R q) j) V))) w.heap.size b4 L cb4 (mixO (fun c => fmul p (co (ro R q) c) V) 0 (j + 1) (ro R q)) by rw [← mixO_set0]; exact hO4.drew.put _ _)
                        have hGR := Lib.hid (hO4.drew.grow j (fmul p (co (ro R q) j) V))
                        have hKG := Lib.hid (Kp.grown hO4.drew hGR.out hbj)
                        have hlt4 := hO4.lt
                        have hMJ := Lib.hid hMj
                        have hjL : (j : Int) < L := by omega
                        clear hMj hO4 hrq
                        generalize co (ro R q) j = x at *
                        go_wp2_with fail
                        refine wp_region_still_tail 16 (by kernel_rfl) (by kernel_rfl) ?_
                        simp only [List.take_succ_cons, List.take_zero, List.drop_succ_cons, List.drop_zero]
                        change wpStill _ _ (World.drew _) (fun a' => wpList _ _ _ _ a' (World.drew _)) _ _
                        repeat still_step
                        still_call (still_of (rMul_any _ _ _ hp hxb.1 hxb.2 hvb.1 hvb.2 _))
                        repeat still_step
                        refine wpStill_nil ?_
                        go_wp2_with fail
                        go_roundw
                        case rel => exact ⟨j + 1, by omega, by simp, by have := (hMJ.out.next (Below.refl _ wr).drew).change hqN hv4 hST.out hGR.out; rw [List.set_set] at this; exact this, hKj.trans ((Kp.of (Below.refl _ wr).drew hbj).trans hKG.out)⟩
                        case measure => simp [intOf]; omega
                      · obtain rfl : L = j := by omega
                        rw [hTOP.out] at hMj
                        have hM5 : MP w.heap.size wr (.slice (some ⟨g, 0, none⟩) rows.length cap) rows.length rows.length vs1 (clrK p R q k 0) := by rw [clrK_start p k (by rw [hmatH.rows]; exact hqN)]; exact hMj
                        have hM5H := Lib.hid hM5
                        have hK5 := hKj
                        clear hM5 hMj hO4 hrq hKj
                        rename World => w5
                        go_wp2_with fail
                        go_loopw [19] (fun i wr => ∃ t : Nat, t ≤ rows.length ∧ i = .int .i64 t ∧ MP w.heap.size wr (.slice (some ⟨g, 0, none⟩) rows.length cap) rows.length rows.length vs1 (clrK p R q k t) ∧ Kp w.heap.size W3 wr) (fun i _ => rows.length - (intOf i).toNat)
                        case atStart => exact ⟨0, Nat.zero_le _, rfl, hM5H.out, hK5⟩
                        case round =>
                          obtain ⟨t, ht, rfl, hMt, hKt⟩ := hrel
                          have hbt : w.heap.size ≤ wr.heap.size := Nat.le_trans hb3 hKt.below.size
                          by_cases hltt : t < rows.length
                          · have hmatt := hmatH.clrK (p := p) (by omega) hqN k t
                            have htn : (t : Int) < rows.length := by omega
                            obtain ⟨b6, cb6, hv6, hc6, hO6, hbg6, hcb6⟩ := hMt.hd (L := L) hltt (hmatt.ro hltt).1 (by omega)
                            by_cases htq : t = q
                            · subst htq
                              rw [clrK_top p k t (by rw [hmatH.rows]; exact hqN)] at hO6
                              have hcx6 := hO6.cell (i := k) (x := co (top p R t k) k) (co_get (show k < (top p R t k).length by rw [(hmatH.top (p := p) (by omega) hqN k).1]; exact hkL) ▸ List.getElem?_eq_getElem _)
                              have hEq := Lib.hid (clrK_here p R t k)
                              have htq' : ((t : Int) != t) = false := by simp
                              have hMT := Lib.hid hMt
                              clear hMt hO6
                              generalize co (top p R t k) k = y at *
                              go_wp2_with fail
                              go_roundw
                              case rel => exact ⟨t + 1, by omega, by simp, by rw [hEq.out]; exact hMT.out, hKt⟩
                              case measure => simp [intOf]; omega
                            · rw [clrK_at p (by rw [hmatH.rows]; exact hltt) htq] at hO6
                              have hcx6 := hO6.cell (i := k) (x := mx R t k) (by rw [mx_ro]; exact co_get (by rw [(hmatH.ro hltt).1]; exact hkL) ▸ List.getElem?_eq_getElem _)
                              have htq' : ((t : Int) != q) = true := bne_iff_ne.2 (by omega)
                              have hfb := hmatH.bd (p := p) (by omega) t k
                              by_cases hf0 : mx R t k = 0
                              · have hEq := Lib.hid (clrK_none (p := p) (by omega) hmatH hltt htq hf0)
                                rw [hf0] at hcx6
                                have hMT := Lib.hid hMt
                                clear hMt hO6
                                go_wp2_with fail
                                go_roundw
                                case rel => exact ⟨t + 1, by omega, by simp, by rw [hEq.out]; exact hMT.out, hKt⟩
                                case measure => simp [intOf]; omega
                              · have hf0' : (mx R t k != 0) = true := bne_iff_ne.2 hf0
                                have hNX := Lib.hid (clrK_next p (R := R) (q := q) k (show t < R.length by rw [hmatH.rows]; exact hltt) htq)
                                have hSUB : Hid (mixO (fun c => fsub p (co (ro R t) c) (fmul p (mx R t k) (co (top p R q k) c))) 0 L (ro R t) = subR p (mx R t k) (ro R t) (top p R q k)) := Lib.hid (by have := mixO_all (fun c => fsub p (co (ro R t) c) (fmul p (mx R t k) (co (top p R q k) c))) (ro R t); rw [(hmatH.ro hltt).1] at this; rw [this]; unfold subR; rw [(hmatH.ro hltt).1])
                                have hMT := Lib.hid hMt
                                have htopl := hmatH.top (p := p) (by omega) hqN k
                                have hstart : (clrK p R q k t).set t (mixO (fun c => fsub p (co (ro R t) c) (fmul p (mx R t k) (co (top p R q k) c))) 0 0 (ro R t)) = clrK p R q k t := by
                                  have e1 := clrK_at p (q := q) (k := k) (show t < R.length by rw [hmatH.rows]; exact hltt) htq
                                  rw [mixO_zero]
                                  conv => lhs; rw [← e1]
                                  exact set_ro _ _
                                have hSTART := Lib.hid hstart
                                have hlenc := clrK_len p R q k t
                                have hroq := clrK_top p k t (show q < R.length by rw [hmatH.rows]; exact hqN)
                                clear hMt hO6 hstart hf0
                                generalize hFF : mx R t k = F at *
                                generalize hTT : top p R q k = TT at *
                                generalize hCC : clrK p R q k t = CC at *
                                have hCm : Mat p rows.length L CC := hmatt
                                clear hmatt hFF hTT hCC
                                rename World => w7
                                go_wp2_with fail
                                go_loopw [21] (fun i wr => ∃ j : Nat, j ≤ L ∧ i = .int .i64 j ∧ MP w.heap.size wr (.slice (some ⟨g, 0, none⟩) rows.length cap) rows.length rows.length vs1 (CC.set t (mixO (fun c => fsub p (co (ro R t) c) (fmul p F (co TT c))) 0 j (ro R t))) ∧ Kp w.heap.size W3 wr) (fun i _ => L - (intOf i).toNat)
                                case atStart => exact ⟨0, Nat.zero_le _, rfl, by rw [hSTART.out]; exact hMT.out, hKt⟩
                                case round =>
                                  obtain ⟨j, hj, rfl, hMj, hKj⟩ := hrel
                                  have hbj : w.heap.size ≤ wr.heap.size := Nat.le_trans hb3 hKj.below.size
                                  have hrt : ro (CC.set t (mixO (fun c => fsub p (co (ro R t) c) (fmul p F (co TT c))) 0 j (ro R t))) t = mixO (fun c => fsub p (co (ro R t) c) (fmul p F (co TT c))) 0 j (ro R t) := by rw [ro_set (by rw [hCm.rows]; exact hltt), if_pos rfl]
                                  have hrq : ro (CC.set t (mixO (fun c => fsub p (co (ro R t) c) (fmul p F (co TT c))) 0 j (ro R t))) q = TT := by rw [ro_set (by rw [hCm.rows]; exact hltt), if_neg (fun e => htq e.symm)]; exact hroq
                                  obtain ⟨b8, cb8, hv8, hc8, hO8, hbg8, hcb8⟩ := hMj.hd (L := L) hltt (by rw [hrt, mixO_len]; exact (hmatH.ro hltt).1) (by omega)
                                  obtain ⟨b9, cb9, hv9, hc9, hO9, hbg9, hcb9⟩ := hMj.hd (L := L) hqN (by rw [hrq]; exact htopl.1) (by omega)
                                  rw [hrt] at hO8
                                  rw [hrq] at hO9
                                  by_cases hltj : j < L
                                  · have hcj := hO8.cell (mixO_get (fun c => fsub p (co (ro R t) c) (fmul p F (co TT c))) 0 j (ro R t) (c := j) (by rw [(hmatH.ro hltt).1]; exact hltj))
                                    rw [if_neg (by omega)] at hcj
                                    have hcy := hO9.cell (i := j) (x := co TT j) (co_get (show j < TT.length by rw [htopl.1]; exact hltj) ▸ List.getElem?_eq_getElem _)
                                    have hxb := (hmatH.ro hltt).2.co (p := p) (by omega) j
                                    have hyb := htopl.2.co (p := p) (by omega) j
                                    have hm9 := fmul_bd p F (co TT j) (by omega)
                                    have hfz := hO8.frozen j
                                    have hST := Lib.hid (show OwnAt (wr.drew.setCell ⟨b8, j, none⟩ (.int .u64 (fsub p (co (ro R t) j) (fmul p F (co TT j))))) w.heap.size b8 L cb8 (mixO (fun c => fsub p (co (ro R t) c) (fmul p F (co TT c))) 0 (j + 1) (ro R t)) by rw [← mixO_set0]; exact hO8.drew.put _ _)
                                    have hGR := Lib.hid (hO8.drew.grow j (fsub p (co (ro R t) j) (fmul p F (co TT j))))
                                    have hKG := Lib.hid (Kp.grown hO8.drew hGR.out hbj)
                                    have hlt8 := hO8.lt
                                    have hMJ := Lib.hid hMj
                                    have hjL : (j : Int) < L := by omega
                                    clear hMj hO8 hO9 hrt hrq
                                    generalize co (ro R t) j = x at *
                                    generalize co TT j = y at *
                                    go_wp2_with fail
                                    refine wp_region_still_tail 25 (by kernel_rfl) (by kernel_rfl) ?_
                                    simp only [List.take_succ_cons, List.take_zero, List.drop_succ_cons, List.drop_zero]
                                    change wpStill _ _ (World.drew _) (fun a' => wpList _ _ _ _ a' (World.drew _)) _ _
                                    repeat still_step
                                    still_call (still_of (rMul_any _ _ _ hp hfb.1 hfb.2 hyb.1 hyb.2 _))
                                    repeat still_step
                                    still_call (still_of (rSub_any _ _ _ hp hxb.1 hxb.2 hm9.1 hm9.2 _))
                                    repeat still_step
                                    refine wpStill_nil ?_
                                    go_wp2_with fail
                                    go_roundw
                                    case rel => exact ⟨j + 1, by omega, by simp, by have := (hMJ.out.next (Below.refl _ wr).drew).change hltt hv8 hST.out hGR.out; rw [List.set_set] at this; exact this, hKj.trans ((Kp.of (Below.refl _ wr).drew hbj).trans hKG.out)⟩
                                    case measure => simp [intOf]; omega
                                  · obtain rfl : L = j := by omega
                                    rw [hSUB.out, hNX.out] at hMj
                                    have hMJ := Lib.hid hMj
                                    clear hMj hO8 hO9 hrt hrq
                                    go_wp2_with fail
                                    go_roundw
                                    case rel => exact ⟨t + 1, by omega, by simp, hMJ.out, hKj⟩
                                    case measure => simp [intOf]; omega
                          · obtain rfl : t = rows.length := by omega
                            have hM9 : MP w.heap.size wr (.slice (some ⟨g, 0, none⟩) rows.length cap) rows.length rows.length vs1 (clr p R q k) := by unfold clr; rw [hmatH.rows]; exact hMt
                            have hM9H := Lib.hid hM9
                            have hP9 := Lib.hid (hKt.own hP3)
                            have hB9 := hB3.trans hKt.below
                            clear hM9 hMt
                            go_wp2_with (at_builtin; refine wpList_append_own _ rfl _ _ 36 rfl w.heap.size 3 i0 (.int .i64 0) 1 8 Try.underlying36 hi0 hz0 hz1 hz2 rfl (by decide) _ _ _ rfl (hP9.out.alloc _) ⟨wr.heap.size, 0, none⟩ 1 1 [.int .i64 (k : Int)] rfl rfl (cell_one_new _ _ _) (by simp [Value.oneCell']) (by simp only [maxLen]; omega) (by omega) (by simp; omega) ?_; intro v10 w10 hown10 hgrow10 _)
                            go_roundw
                            case rel => exact ⟨k + 1, _, vs1, by omega, by simp, rfl, hnx3, (hM9H.out.next ((Below.refl _ wr).alloc (Nat.le_refl _) _)).other (hP9.out.alloc _) hgrow10, by rw [List.length_append, List.length_singleton, HQ.out, pvs_snoc]; exact hown10, (hB9.alloc hbt _).grown hgrow10 (by simp; omega) (fun x e => (World.ownsRow.lt hP9.out x e).1)⟩
                            case measure => simp [intOf]; omega
                  · have hjq' : ((j : Int) != q) = true := bne_iff_ne.2 (by omega)
                    obtain ⟨b5, cb5, hv5, hc5, hO5, _, _⟩ := HM1.out.hd hqN (hmat.ro hqN).1 (by omega)
                    have hf1 := World.ownsRow.frozenAt HM1.out.head q
                    have hf2 := World.ownsRow.frozenAt HM1.out.head j
                    have hgl := World.ownsRow.lt HM1.out.head g rfl
                    have hqNI0 : (q : Int) < rows.length := by omega
                    have hsubz := fun W => rSub_any p 0 d hp (by omega) (by omega) hdb.1 hdb.2 W
                    rw [fsub_zero] at hsubz
                    clear hO5
                    go_wp2_with fail
                    go_region
                    obtain ⟨W3, hw4⟩ : ∃ W3, W3 = ((wr.setCell ⟨g, j, none⟩ (.slice (some ⟨b5, 0, none⟩) L cb5)).setCell ⟨g, q, none⟩ (.slice (some ⟨b2, 0, none⟩) L cb2)).drew := ⟨_, rfl⟩
                    rw [← hw4]
                    obtain ⟨vs3, hvs4⟩ : ∃ vs3, vs3 = (vs1.set j (.slice (some ⟨b5, 0, none⟩) L cb5)).set q (.slice (some ⟨b2, 0, none⟩) L cb2) := ⟨_, rfl⟩
                    have hst1 := World.ownsRow.stored HM1.out.head j (.slice (some ⟨b5, 0, none⟩) L cb5)
                    have hst2 := World.ownsRow.stored hst1.1 q (.slice (some ⟨b2, 0, none⟩) L cb2)
                    have hG4 : wr.grownBy W3 (some g) := by rw [hw4]; exact grown_drew (grown_trans hst1.2 hst2.2)
                    have hsc : swR R j q = swR R q j := by unfold swR; exact List.set_comm _ _ hjq
                    have hnx3 : Hid (elim p rows (k + 1) = ⟨clr p (swR R q j) q k, pv ++ [k], fmul p (fneg p d) (mx (swR R q j) q k)⟩) := Lib.hid (by have := hnx.out; rw [show plc R q (j - q) = swR R q j from by unfold plc; rw [if_neg (by omega), show q + (j - q) = j by omega], if_neg (by omega)] at this; exact this)
                    have hM3 : MP w.heap.size W3 (.slice (some ⟨g, 0, none⟩) rows.length cap) rows.length rows.length vs3 (swR R q j) := by rw [hw4, hvs4, ← hsc]; exact (HM1.out.swap hlj hqN hjq hv2 hv5).next (Below.refl _ _).drew
                    have hmat3 := hmat.sw hqN hlj
                    have hqe : mx (swR R q j) q k = mx R j k := mx_swR (R := R) (i := q) (j := j) (by rw [hmat.rows]; exact hqN) (by rw [hmat.rows]; exact hlj) (fun e => hjq e.symm) k
                    have hne3 : mx (swR R q j) q k ≠ 0 := by rw [hqe]; exact hx0'
                    have hD3 := fneg_bd p d (by omega)
                    have hb3 : w.heap.size ≤ W3.heap.size := Nat.le_trans hb1 hG4.size
                    have hPW := HP1.out
                    have hP3 : World.ownsRow W3 w.heap.size 3 1 (.slice A3 q c3) q (pvs pv) := World.ownsRow.kept hPW hG4 (by
                      cases hq9 : (Value.slice A3 q c3).ownBlock with
                      | none => exact .inl rfl
                      | some x =>
                        refine .inr fun e => ?_
                        injection e with e
                        subst e
                        obtain ⟨c1, f1, t1⟩ := own_tag hPW x hq9
                        obtain ⟨c2', f2, t2⟩ := own_tag HM1.out.head x rfl
                        rw [t1] at t2
                        cases t2)
                    have hB3 : Below w.heap.size w W3 := hB1.grown hG4 hb1 (fun x e => by injection e with e; subst e; exact (World.ownsRow.lt HM1.out.head _ rfl).1)
                    clear hnx hst1 hst2 hPW hw4 hvs4 hqe hG4 hsc hc2 hcx2 hc5 hf1 hf2 hx0'' hx0'
                    generalize swR R q j = R2 at *
                    generalize fneg p d = D2 at *
                    have hkL : k < L := by omega
                    have hmxb := hmat3.bd (p := p) (by omega) q k
                    obtain ⟨b3, cb3, hv3, hc3, hO3, _, _⟩ := hM3.hd hqN (hmat3.ro hqN).1 (by omega)
                    have hcx3 := hO3.cell (i := k) (x := mx R2 q k) (by rw [mx_ro]; exact co_get (by rw [(hmat3.ro hqN).1]; exact hkL) ▸ List.getElem?_eq_getElem _)
                    have hXp : 0 < mx R2 q k := by have := hmxb.1; omega
                    have hmul := fun W => rMul_any p D2 (mx R2 q k) hp hD3.1 hD3.2 hmxb.1 hmxb.2 W
                    have hdb3 := fmul_bd p D2 (mx R2 q k) (by omega)
                    have hinv := fun W => rInv_any p (mx R2 q k) hp hXp hmxb.2 W
                    rw [show fpow p (mx R2 q k) (p - 2) = vinv p (mx R2 q k) from rfl] at hinv
                    have hvb : 0 ≤ vinv p (mx R2 q k) ∧ vinv p (mx R2 q k) < p := fpow_bd p (mx R2 q k) (p - 2) (by omega)
                    have hTOP : Hid (mixO (fun c => fmul p (co (ro R2 q) c) (vinv p (mx R2 q k))) 0 L (ro R2 q) = top p R2 q k) := Lib.hid (mixO_scl (by rw [(hmat3.ro hqN).1, Nat.zero_add]) (fun c hc => absurd hc (Nat.not_lt_zero _)))
                    have hkLI : (k : Int) < L := by omega
                    have hqNI : (q : Int) < rows.length := by omega
                    have hMM := Lib.hid hM3
                    have hmatH := hmat3
                    generalize hDD : fmul p D2 (mx R2 q k) = DD at *
                    generalize hVV : vinv p (mx R2 q k) = V at *
                    generalize hXX : mx R2 q k = X3 at *
                    clear hM3 hO3 hDD hVV hXX
                    go_wp2_with (first | (go_at_call 52; refine (hsubz _).mono ?_; rintro e w' ⟨rfl, rfl⟩) | (go_at_call 83; refine (hmul _).mono ?_; rintro e w' ⟨rfl, rfl⟩) | (go_at_call 92; refine (hinv _).mono ?_; rintro e w' ⟨rfl, rfl⟩))
                    go_loopw [18] (fun i wr => ∃ j : Nat, j ≤ L ∧ i = .int .i64 j ∧ MP w.heap.size wr (.slice (some ⟨g, 0, none⟩) rows.length cap) rows.length rows.length vs3 (R2.set q (mixO (fun c => fmul p (co (ro R2 q) c) V) 0 j (ro R2 q))) ∧ Kp w.heap.size W3 wr) (fun i _ => L - (intOf i).toNat)
                    case atStart => exact ⟨0, Nat.zero_le _, rfl, by rw [mixO_zero, set_ro]; exact hMM.out, Kp.refl _ _⟩
                    case round =>
                      obtain ⟨j, hj, rfl, hMj, hKj⟩ := hrel
                      have hbj : w.heap.size ≤ wr.heap.size := Nat.le_trans hb3 hKj.below.size
                      have hrq : ro (R2.set q (mixO (fun c => fmul p (co (ro R2 q) c) V) 0 j (ro R2 q))) q = mixO (fun c => fmul p (co (ro R2 q) c) V) 0 j (ro R2 q) := by rw [ro_set (by rw [hmatH.rows]; exact hqN), if_pos rfl]
                      obtain ⟨b4, cb4, hv4, hc4, hO4, hbg4, hcb4⟩ := hMj.hd (L := L) hqN (by rw [hrq, mixO_len]; exact (hmatH.ro hqN).1) (by omega)
                      rw [hrq] at hO4
                      by_cases hltj : j < L
                      · have hcj := hO4.cell (mixO_get (fun c => fmul p (co (ro R2 q) c) V) 0 j (ro R2 q) (c := j) (by rw [(hmatH.ro hqN).1]; exact hltj))
                        rw [if_neg (by omega)] at hcj
                        have hxb := (hmatH.ro hqN).2.co (p := p) (by omega) j
                        have hfz := hO4.frozen j
                        have hST := Lib.hid (show OwnAt (wr.drew.setCell ⟨b4, j, none⟩ (.int .u64 (fmul p (co (ro R2 q) j) V))) w.heap.size b4 L cb4 (mixO (fun c => fmul p (co (ro R2 q) c) V) 0 (j + 1) (ro R2 q)) by rw [← mixO_set0]; exact hO4.drew.put _ _)
                        have hGR := Lib.hid (hO4.drew.grow j (fmul p (co (ro R2 q) j) V))
                        have hKG := Lib.hid (Kp.grown hO4.drew hGR.out hbj)
                        have hlt4 := hO4.lt
                        have hMJ := Lib.hid hMj
                        have hjL : (j : Int) < L := by omega
                        clear hMj hO4 hrq
                        generalize co (ro R2 q) j = x at *
                        go_wp2_with fail
                        refine wp_region_still_tail 16 (by kernel_rfl) (by kernel_rfl) ?_
                        simp only [List.take_succ_cons, List.take_zero, List.drop_succ_cons, List.drop_zero]
                        change wpStill _ _ (World.drew _) (fun a' => wpList _ _ _ _ a' (World.drew _)) _ _
                        repeat still_step
                        still_call (still_of (rMul_any _ _ _ hp hxb.1 hxb.2 hvb.1 hvb.2 _))
                        repeat still_step
                        refine wpStill_nil ?_
                        go_wp2_with fail
                        go_roundw
                        case rel => exact ⟨j + 1, by omega, by simp, by have := (hMJ.out.next (Below.refl _ wr).drew).change hqN hv4 hST.out hGR.out; rw [List.set_set] at this; exact this, hKj.trans ((Kp.of (Below.refl _ wr).drew hbj).trans hKG.out)⟩
                        case measure => simp [intOf]; omega
                      · obtain rfl : L = j := by omega
                        rw [hTOP.out] at hMj
                        have hM5 : MP w.heap.size wr (.slice (some ⟨g, 0, none⟩) rows.length cap) rows.length rows.length vs3 (clrK p R2 q k 0) := by rw [clrK_start p k (by rw [hmatH.rows]; exact hqN)]; exact hMj
                        have hM5H := Lib.hid hM5
                        have hK5 := hKj
                        clear hM5 hMj hO4 hrq hKj
                        rename World => w5
                        go_wp2_with fail
                        go_loopw [19] (fun i wr => ∃ t : Nat, t ≤ rows.length ∧ i = .int .i64 t ∧ MP w.heap.size wr (.slice (some ⟨g, 0, none⟩) rows.length cap) rows.length rows.length vs3 (clrK p R2 q k t) ∧ Kp w.heap.size W3 wr) (fun i _ => rows.length - (intOf i).toNat)
                        case atStart => exact ⟨0, Nat.zero_le _, rfl, hM5H.out, hK5⟩
                        case round =>
                          obtain ⟨t, ht, rfl, hMt, hKt⟩ := hrel
                          have hbt : w.heap.size ≤ wr.heap.size := Nat.le_trans hb3 hKt.below.size
                          by_cases hltt : t < rows.length
                          · have hmatt := hmatH.clrK (p := p) (by omega) hqN k t
                            have htn : (t : Int) < rows.length := by omega
                            obtain ⟨b6, cb6, hv6, hc6, hO6, hbg6, hcb6⟩ := hMt.hd (L := L) hltt (hmatt.ro hltt).1 (by omega)
                            by_cases htq : t = q
                            · subst htq
                              rw [clrK_top p k t (by rw [hmatH.rows]; exact hqN)] at hO6
                              have hcx6 := hO6.cell (i := k) (x := co (top p R2 t k) k) (co_get (show k < (top p R2 t k).length by rw [(hmatH.top (p := p) (by omega) hqN k).1]; exact hkL) ▸ List.getElem?_eq_getElem _)
                              have hEq := Lib.hid (clrK_here p R2 t k)
                              have htq' : ((t : Int) != t) = false := by simp
                              have hMT := Lib.hid hMt
                              clear hMt hO6
                              generalize co (top p R2 t k) k = y at *
                              go_wp2_with fail
                              go_roundw
                              case rel => exact ⟨t + 1, by omega, by simp, by rw [hEq.out]; exact hMT.out, hKt⟩
                              case measure => simp [intOf]; omega
                            · rw [clrK_at p (by rw [hmatH.rows]; exact hltt) htq] at hO6
                              have hcx6 := hO6.cell (i := k) (x := mx R2 t k) (by rw [mx_ro]; exact co_get (by rw [(hmatH.ro hltt).1]; exact hkL) ▸ List.getElem?_eq_getElem _)
                              have htq' : ((t : Int) != q) = true := bne_iff_ne.2 (by omega)
                              have hfb := hmatH.bd (p := p) (by omega) t k
                              by_cases hf0 : mx R2 t k = 0
                              · have hEq := Lib.hid (clrK_none (p := p) (by omega) hmatH hltt htq hf0)
                                rw [hf0] at hcx6
                                have hMT := Lib.hid hMt
                                clear hMt hO6
                                go_wp2_with fail
                                go_roundw
                                case rel => exact ⟨t + 1, by omega, by simp, by rw [hEq.out]; exact hMT.out, hKt⟩
                                case measure => simp [intOf]; omega
                              · have hf0' : (mx R2 t k != 0) = true := bne_iff_ne.2 hf0
                                have hNX := Lib.hid (clrK_next p (R := R2) (q := q) k (show t < R2.length by rw [hmatH.rows]; exact hltt) htq)
                                have hSUB : Hid (mixO (fun c => fsub p (co (ro R2 t) c) (fmul p (mx R2 t k) (co (top p R2 q k) c))) 0 L (ro R2 t) = subR p (mx R2 t k) (ro R2 t) (top p R2 q k)) := Lib.hid (by have := mixO_all (fun c => fsub p (co (ro R2 t) c) (fmul p (mx R2 t k) (co (top p R2 q k) c))) (ro R2 t); rw [(hmatH.ro hltt).1] at this; rw [this]; unfold subR; rw [(hmatH.ro hltt).1])
                                have hMT := Lib.hid hMt
                                have htopl := hmatH.top (p := p) (by omega) hqN k
                                have hstart : (clrK p R2 q k t).set t (mixO (fun c => fsub p (co (ro R2 t) c) (fmul p (mx R2 t k) (co (top p R2 q k) c))) 0 0 (ro R2 t)) = clrK p R2 q k t := by
                                  have e1 := clrK_at p (q := q) (k := k) (show t < R2.length by rw [hmatH.rows]; exact hltt) htq
                                  rw [mixO_zero]
                                  conv => lhs; rw [← e1]
                                  exact set_ro _ _
                                have hSTART := Lib.hid hstart
                                have hlenc := clrK_len p R2 q k t
                                have hroq := clrK_top p k t (show q < R2.length by rw [hmatH.rows]; exact hqN)
                                clear hMt hO6 hstart hf0
                                generalize hFF : mx R2 t k = F at *
                                generalize hTT : top p R2 q k = TT at *
                                generalize hCC : clrK p R2 q k t = CC at *
                                have hCm : Mat p rows.length L CC := hmatt
                                clear hmatt hFF hTT hCC
                                rename World => w7
                                go_wp2_with fail
                                go_loopw [21] (fun i wr => ∃ j : Nat, j ≤ L ∧ i = .int .i64 j ∧ MP w.heap.size wr (.slice (some ⟨g, 0, none⟩) rows.length cap) rows.length rows.length vs3 (CC.set t (mixO (fun c => fsub p (co (ro R2 t) c) (fmul p F (co TT c))) 0 j (ro R2 t))) ∧ Kp w.heap.size W3 wr) (fun i _ => L - (intOf i).toNat)
                                case atStart => exact ⟨0, Nat.zero_le _, rfl, by rw [hSTART.out]; exact hMT.out, hKt⟩
                                case round =>
                                  obtain ⟨j, hj, rfl, hMj, hKj⟩ := hrel
                                  have hbj : w.heap.size ≤ wr.heap.size := Nat.le_trans hb3 hKj.below.size
                                  have hrt : ro (CC.set t (mixO (fun c => fsub p (co (ro R2 t) c) (fmul p F (co TT c))) 0 j (ro R2 t))) t = mixO (fun c => fsub p (co (ro R2 t) c) (fmul p F (co TT c))) 0 j (ro R2 t) := by rw [ro_set (by rw [hCm.rows]; exact hltt), if_pos rfl]
                                  have hrq : ro (CC.set t (mixO (fun c => fsub p (co (ro R2 t) c) (fmul p F (co TT c))) 0 j (ro R2 t))) q = TT := by rw [ro_set (by rw [hCm.rows]; exact hltt), if_neg (fun e => htq e.symm)]; exact hroq
                                  obtain ⟨b8, cb8, hv8, hc8, hO8, hbg8, hcb8⟩ := hMj.hd (L := L) hltt (by rw [hrt, mixO_len]; exact (hmatH.ro hltt).1) (by omega)
                                  obtain ⟨b9, cb9, hv9, hc9, hO9, hbg9, hcb9⟩ := hMj.hd (L := L) hqN (by rw [hrq]; exact htopl.1) (by omega)
                                  rw [hrt] at hO8
                                  rw [hrq] at hO9
                                  by_cases hltj : j < L
                                  · have hcj := hO8.cell (mixO_get (fun c => fsub p (co (ro R2 t) c) (fmul p F (co TT c))) 0 j (ro R2 t) (c := j) (by rw [(hmatH.ro hltt).1]; exact hltj))
                                    rw [if_neg (by omega)] at hcj
                                    have hcy := hO9.cell (i := j) (x := co TT j) (co_get (show j < TT.length by rw [htopl.1]; exact hltj) ▸ List.getElem?_eq_getElem _)
                                    have hxb := (hmatH.ro hltt).2.co (p := p) (by omega) j
                                    have hyb := htopl.2.co (p := p) (by omega) j
                                    have hm9 := fmul_bd p F (co TT j) (by omega)
                                    have hfz := hO8.frozen j
                                    have hST := Lib.hid (show OwnAt (wr.drew.setCell ⟨b8, j, none⟩ (.int .u64 (fsub p (co (ro R2 t) j) (fmul p F (co TT j))))) w.heap.size b8 L cb8 (mixO (fun c => fsub p (co (ro R2 t) c) (fmul p F (co TT c))) 0 (j + 1) (ro R2 t)) by rw [← mixO_set0]; exact hO8.drew.put _ _)
                                    have hGR := Lib.hid (hO8.drew.grow j (fsub p (co (ro R2 t) j) (fmul p F (co TT j))))
                                    have hKG := Lib.hid (Kp.grown hO8.drew hGR.out hbj)
                                    have hlt8 := hO8.lt
                                    have hMJ := Lib.hid hMj
                                    have hjL : (j : Int) < L := by omega
                                    clear hMj hO8 hO9 hrt hrq
                                    generalize co (ro R2 t) j = x at *
                                    generalize co TT j = y at *
                                    go_wp2_with fail
                                    refine wp_region_still_tail 25 (by kernel_rfl) (by kernel_rfl) ?_
                                    simp only [List.take_succ_cons, List.take_zero, List.drop_succ_cons, List.drop_zero]
                                    change wpStill _ _ (World.drew _) (fun a' => wpList _ _ _ _ a' (World.drew _)) _ _
                                    repeat still_step
                                    still_call (still_of (rMul_any _ _ _ hp hfb.1 hfb.2 hyb.1 hyb.2 _))
                                    repeat still_step
                                    still_call (still_of (rSub_any _ _ _ hp hxb.1 hxb.2 hm9.1 hm9.2 _))
                                    repeat still_step
                                    refine wpStill_nil ?_
                                    go_wp2_with fail
                                    go_roundw
                                    case rel => exact ⟨j + 1, by omega, by simp, by have := (hMJ.out.next (Below.refl _ wr).drew).change hltt hv8 hST.out hGR.out; rw [List.set_set] at this; exact this, hKj.trans ((Kp.of (Below.refl _ wr).drew hbj).trans hKG.out)⟩
                                    case measure => simp [intOf]; omega
                                  · obtain rfl : L = j := by omega
                                    rw [hSUB.out, hNX.out] at hMj
                                    have hMJ := Lib.hid hMj
                                    clear hMj hO8 hO9 hrt hrq
                                    go_wp2_with fail
                                    go_roundw
                                    case rel => exact ⟨t + 1, by omega, by simp, hMJ.out, hKj⟩
                                    case measure => simp [intOf]; omega
                          · obtain rfl : t = rows.length := by omega
                            have hM9 : MP w.heap.size wr (.slice (some ⟨g, 0, none⟩) rows.length cap) rows.length rows.length vs3 (clr p R2 q k) := by unfold clr; rw [hmatH.rows]; exact hMt
                            have hM9H := Lib.hid hM9
                            have hP9 := Lib.hid (hKt.own hP3)
                            have hB9 := hB3.trans hKt.below
                            clear hM9 hMt
                            go_wp2_with (at_builtin; refine wpList_append_own _ rfl _ _ 36 rfl w.heap.size 3 i0 (.int .i64 0) 1 8 Try.underlying36 hi0 hz0 hz1 hz2 rfl (by decide) _ _ _ rfl (hP9.out.alloc _) ⟨wr.heap.size, 0, none⟩ 1 1 [.int .i64 (k : Int)] rfl rfl (cell_one_new _ _ _) (by simp [Value.oneCell']) (by simp only [maxLen]; omega) (by omega) (by simp; omega) ?_; intro v10 w10 hown10 hgrow10 _)
                            go_roundw
                            case rel => exact ⟨k + 1, _, vs3, by omega, by simp, rfl, hnx3, (hM9H.out.next ((Below.refl _ wr).alloc (Nat.le_refl _) _)).other (hP9.out.alloc _) hgrow10, by rw [List.length_append, List.length_singleton, HQ.out, pvs_snoc]; exact hown10, (hB9.alloc hbt _).grown hgrow10 (by simp; omega) (fun x e => (World.ownsRow.lt hP9.out x e).1)⟩
                            case measure => simp [intOf]; omega
              · obtain rfl : j = rows.length := by omega
                have hfn : fnd R q k = none := fnd_none.2 fun i h1 h2 => by rw [hmat.rows] at h2; exact hZ.out i h1 h2
                have hnx := hstep hfn
                clear hstep hstep2 hfn hZ
                go_wp2_with fail
                go_roundw
                case rel => exact ⟨k + 1, _, vs1, by omega, by simp, rfl, hnx, HM1.out, by show World.ownsRow _ _ _ _ _ pv.length _; rw [HQ.out]; exact HP1.out, hB1⟩
                case measure => simp [intOf]; omega
          · obtain rfl : k = cols := by omega
            go_wp2_with fail
            go_ret3
            exact ⟨_, vs1, _, by rw [hE.out]; rfl, by rw [hE.out]; exact hM1, by rw [hE.out]; exact hP1, hB1⟩
end Go.Proofs.Ytjijlefplidhpaa

/- square, Rank and Det of the reference of layer 6. Nothing that lay is changed. Conditions: a supported prime, words of its field, at most 100 rows and columns. -/
namespace Go.Proofs.Ytjijlefplidhpaa
set_option maxRecDepth 100000
open Go.RowKit PolyMath FieldMath MatMath

theorem rSquare_any (A : Option Addr) (c : Nat) (rows : List (List Int)) (hl : rows.length ≤ 1000) (w : World) (h : Sll w A c rows) :
    Calls Try.prog 84 #[.slice A rows.length c] w fun e w' => e = .returned (.bool (squ rows)) ∧ Below w.heap.size w w' := by
  have h1 := rRect_b A c rows (by omega) w h
  cases hr : rect rows with
  | false =>
    have hF : Hid (squ rows = false) := Lib.hid (by unfold squ; rw [hr, Bool.and_false])
    rw [hr] at h1
    go_enter Try.func84, Try.ntmps84
    go_wp2_with fail
    refine h1.mono ?_; rintro e w1 ⟨rfl, hB⟩
    go_wp2_with fail
    go_ret
    rw [hF.out]
    exact ⟨rfl, hB⟩
  | true =>
    rw [hr, rectN_of hr] at h1
    by_cases h0 : 0 < rows.length
    · have h0' : (0 : Int) < rows.length := by omega
      by_cases hn : rows.length = ncol rows
      · have hF : Hid (squ rows = true) := Lib.hid (squ_iff.2 ⟨h0, hn, hr⟩)
        have hn' : ((ncol rows : Int) == rows.length) = true := beq_iff_eq.2 (by omega)
        have HN := Lib.hid hn
        clear hn
        go_enter Try.func84, Try.ntmps84
        go_wp2_with fail
        refine h1.mono ?_; rintro e w1 ⟨rfl, hB⟩
        go_wp2_with fail
        go_ret
        rw [hF.out]
        exact ⟨rfl, hB⟩
      · have hF : Hid (squ rows = false) := Lib.hid (by
          cases hs : squ rows with
          | false => rfl
          | true => exact absurd (squ_iff.1 hs).2.1 hn)
        have hn' : ((ncol rows : Int) == rows.length) = false := beq_eq_false_iff_ne.2 (by omega)
        go_enter Try.func84, Try.ntmps84
        go_wp2_with fail
        refine h1.mono ?_; rintro e w1 ⟨rfl, hB⟩
        go_wp2_with fail
        go_ret
        rw [hF.out]
        exact ⟨rfl, hB⟩
    · have h0' : ¬ (0 : Int) < rows.length := by omega
      have hF : Hid (squ rows = false) := Lib.hid (by
        cases hs : squ rows with
        | false => rfl
        | true => exact absurd (squ_iff.1 hs).1 h0)
      go_enter Try.func84, Try.ntmps84
      go_wp2_with fail
      refine h1.mono ?_; rintro e w1 ⟨rfl, hB⟩
      go_wp2_with fail
      go_ret
      rw [hF.out]
      exact ⟨rfl, hB⟩

end Go.Proofs.Ytjijlefplidhpaa

/- beside and Solve of the reference of layer 6. Nothing that lay is changed. Conditions: a supported prime, words of its field, at most 100 rows and columns. -/
namespace Go.Proofs.Ytjijlefplidhpaa
set_option maxRecDepth 100000
open Go.RowKit PolyMath FieldMath MatMath

/-- A column as rows of one word. -/
def colK (b : List Int) (k : Nat) : List (List Int) := (List.range k).map fun i => [co b i]
theorem colK_len (b : List Int) (k : Nat) : (colK b k).length = k := by unfold colK; simp
theorem colK_ro (b : List Int) {k i : Nat} (h : i < k) : ro (colK b k) i = [co b i] := ro_map _ h
theorem colK_next (b : List Int) (k : Nat) : colK b (k + 1) = colK b k ++ [[co b k]] := by unfold colK; rw [List.range_succ, List.map_append]; rfl

set_option maxRecDepth 100000 in
set_option maxHeartbeats 4000000 in
theorem beside_any (p : Int) (A B : Option Addr) (ca cb L : Nat) (a : List (List Int)) (b : List Int) (hN : a.length ≤ 100) (hL : L ≤ 100) (ha : Mat p a.length L a) (w : World) (sa : Sll w A ca a) (sb : Sll w B cb (colK b a.length)) :
    Calls Try.prog 86 #[.slice A a.length ca, .slice B a.length cb] w fun e w' => MFresh w e w' (augL a b) := by
  obtain ⟨u0, hu0, hx0, hx1, hx2⟩ := info_parts info_u64
  obtain ⟨j0, hj0, hy0, hy1, hy2⟩ := info_parts info_sl
  have hgl : (augL a b).length = a.length := augK_len a b _
  go_enter Try.func86, Try.ntmps86
  go_wp2
  go_loopw [5, 6] (fun v i wr => ∃ (k : Nat) (vs : List Value), k ≤ a.length ∧ i = .int .i64 k ∧ MP w.heap.size wr v k k vs ((augL a b).take k) ∧ Below w.heap.size w wr) (fun _ i _ => a.length - (intOf i).toNat)
  case atStart => exact ⟨0, [], Nat.zero_le _, rfl, MP.zero _ _, Below.refl _ _⟩
  case round =>
    obtain ⟨k, vs, hk, rfl, hM, hB⟩ := hrel
    have hsz : w.heap.size ≤ wr.heap.size := hB.size
    by_cases hlt : k < a.length
    · obtain ⟨ba, oa, A', c', hA', hba, hca, hsa⟩ := sa.rowAt (i := k) (L := L) hlt (ha.ro hlt).1
      obtain ⟨bb, ob, B', c8, hB', hbb, hcb, hsb⟩ := sb.rowAt (i := k) (L := 1) (by rw [colK_len]; exact hlt) (by rw [colK_ro b hlt]; rfl)
      subst hA' hB'
      rw [colK_ro b hlt] at hsb
      obtain ⟨b8, o8, y, hB8, hb8, hy8, hcy8⟩ := hsb.at_ (k := 0) (by simp)
      subst hB8
      have hyy : y = co b k := by simpa using hy8.symm
      subst hyy
      rw [Nat.add_zero] at hcy8
      have hcaw := (hB.cell (p := ⟨ba, oa + k, none⟩) hba).trans hca
      have hcbw := (hB.cell (p := ⟨bb, ob + k, none⟩) hbb).trans hcb
      have hcyw := (hB.cell (p := ⟨b8, o8, none⟩) hb8).trans hcy8
      have hbaw : ba < wr.heap.size := Nat.lt_of_lt_of_le hba hsz
      have hbbw : bb < wr.heap.size := Nat.lt_of_lt_of_le hbb hsz
      have hb8w : b8 < wr.heap.size := Nat.lt_of_lt_of_le hb8 hsz
      have hkn : (k : Int) < a.length := by omega
      have hMH := Lib.hid hM
      obtain ⟨Ao, co', ho⟩ := row_form hM.head
      subst ho
      have hTK : Hid ((augL a b).take k ++ [ro (augL a b) k] = (augL a b).take (k + 1)) := Lib.hid (by rw [List.take_add_one, ro_get (by rw [hgl]; exact hlt)]; rfl)
      have hrow : Hid (ro (augL a b) k = ro a k ++ [co b k]) := Lib.hid (by unfold augL; rw [augK_ro b _ hlt, if_pos hlt])
      have hlit := own_lit0 wr
      have hrl := Lib.hid (ha.ro hlt).1
      have hsw := hsa.next hB
      have hone := Lib.hid (one_cells (ro a k))
      have ca1 : (wr.alloc (.cells #[] 22)).cell? ⟨ba, oa + k, none⟩ = some (.slice A' L c') := (World.cell?_alloc_some _ _ _ (by rw [hcaw]; rfl)).trans hcaw
      have cb1 : (wr.alloc (.cells #[] 22)).cell? ⟨bb, ob + k, none⟩ = some (.slice (some ⟨b8, o8, none⟩) 1 c8) := (World.cell?_alloc_some _ _ _ (by rw [hcbw]; rfl)).trans hcbw
      clear hM hsb hy8 hcy8
      generalize co b k = y at *
      cases A' with
      | none =>
        obtain ⟨hr0, hc0⟩ := hsw.empty rfl
        have hL0 : L = 0 := by rw [← hrl.out, hr0]; rfl
        subst hL0 hc0
        have hR0 := Lib.hid hr0
        clear hr0 hsw hsa
        go_wp2_with fail
        go_region_held3 (fun w' => w'.cell? ⟨ba, oa + k, none⟩ = some (.slice none 0 0) ∧ w'.cell? ⟨bb, ob + k, none⟩ = some (.slice (some ⟨b8, o8, none⟩) 1 c8))
          (first | (refine ⟨?_, ?_⟩ <;> assumption) | exact ⟨ca1, cb1⟩)
          (first | (refine step_append_own _ (by rfl) _ _ _ (by rfl) w.heap.size 31 j0 (.slice none 0 0) 1 24 Try.underlying25 hj0 hy0 hy1 hy2 rfl (by decide) _ _ _ (by rfl) hhd.out ⟨w6.heap.size, 0, none⟩ 1 1 [.slice A6 (0 + 1) c6] (by rfl) (by rfl) (cell_one_new _ _ _) (by simp [Value.oneCell']) (by simp only [maxLen]; omega) (by omega) (by first | omega | (simp; done) | (simp; omega)) ?_; intro v8 w8 hown8 hgrow8; have hB8 : Below w.heap.size w w8 := (hB.trans (hb7.mono hsz)).grown hgrow8 (by first | omega | (simp; done) | (simp; omega)) (fun x e => (World.ownsRow.lt hhd.out x e).1); have c18 := (hB8.cell (p := ⟨ba, oa + k, none⟩) hba).trans hca; have c28 := (hB8.cell (p := ⟨bb, ob + k, none⟩) hbb).trans hcb) | (refine step_append_own _ (by rfl) _ _ _ (by rfl) wr.heap.size 22 u0 (.int .u64 0) 1 8 Try.underlying31 hu0 hx0 hx1 hx2 rfl (by decide) _ _ _ (by rfl) hown5H.out ⟨b8, o8, none⟩ 1 c8 [.int .u64 y] (by rfl) (by rfl) (fun j u hj => by match j, hj with | 0, hj => (simp at hj; subst hj; exact hy5) | j + 1, hj => simp at hj) (by simp [Value.oneCell']) (by simp only [maxLen]; omega) (by omega) (by first | omega | (simp; done) | (simp; omega)) ?_; intro v6 w6 hown6 hgrow6; obtain ⟨A6, c6, hv6⟩ := row_form hown6; subst hv6; have hb6 : Below wr.heap.size wr w6 := hb5.grown hgrow6 hsz5 (fun x e => (World.ownsRow.lt hown5H.out x e).1); have hsz6 := hb6.size; have c16 := (hb6.cell (p := ⟨ba, oa + k, none⟩) hbaw).trans hcaw; have c26 := (hb6.cell (p := ⟨bb, ob + k, none⟩) hbbw).trans hcbw; have hb7 := hb6.alloc hsz6 (.cells #[.slice A6 (0 + 1) c6] 31); have c17 := (hb7.cell (p := ⟨ba, oa + k, none⟩) hbaw).trans hcaw; have c27 := (hb7.cell (p := ⟨bb, ob + k, none⟩) hbbw).trans hcbw; have hhd := Lib.hid (hMH.out.next hb7).head; have hu7 := Lib.hid (hown6.alloc (.cells #[.slice A6 (0 + 1) c6] 31)); clear hown6 hgrow6) | (refine step_append_nothing _ (by rfl) _ _ _ (by rfl) 22 u0 Try.underlying31 hu0 _ _ _ (by rfl) (by rfl) rfl ?_; have hb5 : Below wr.heap.size wr ((wr.alloc (.cells #[] 22)).drew) := ((Below.refl _ wr).alloc (Nat.le_refl _) _).drew; have hsz5 := hb5.size; have c15 := (hb5.cell (p := ⟨ba, oa + k, none⟩) hbaw).trans hcaw; have c25 := (hb5.cell (p := ⟨bb, ob + k, none⟩) hbbw).trans hcbw; have hy5 := (hb5.cell (p := ⟨b8, o8, none⟩) hb8w).trans hcyw; have hown5H : Hid (((wr.alloc (.cells #[] 22)).drew).ownsRow wr.heap.size 22 1 (.slice (some ⟨wr.heap.size, 0, none⟩) 0 0) 0 ((ro a k).map (Value.int .u64))) := Lib.hid (by rw [hR0.out]; exact hlit.out)))
        all_goals
          go_wp2_with fail
          go_roundw
          case rel => exact ⟨k + 1, _, by omega, by simp, by rw [← hTK.out]; exact hMH.out.add hb7 hsz (by rw [hrow.out, List.length_append, List.map_append, hrl.out]; exact hu7.out) hown8 hgrow8, hB8⟩
          case measure => simp [intOf]; omega
      | some ad =>
        have hnw := Lib.hid (hsw.news (.cells #[] 22) L)
        rw [List.take_of_length_le (by rw [hrl.out]; exact Nat.le_refl _)] at hnw
        have hnwD : Hid (∀ j u, ((ro a k).map (Value.int .u64))[j]? = some u → ((wr.alloc (.cells #[] 22)).drew).cell? (ad.add j) = some u) := Lib.hid fun j u hu => hnw.out j u hu
        have hlitD : Hid (((wr.alloc (.cells #[] 22)).drew).ownsRow wr.heap.size 22 1 (.slice (some ⟨wr.heap.size, 0, none⟩) 0 0) 0 []) := Lib.hid hlit.out
        have hln : Hid (((ro a k).map (Value.int .u64)).length = L * 1) := Lib.hid (by rw [List.length_map, hrl.out, Nat.mul_one])
        clear hsw hsa hnw
        go_wp2_with fail
        go_region_held3 (fun w' => w'.cell? ⟨ba, oa + k, none⟩ = some (.slice (some ad) L c') ∧ w'.cell? ⟨bb, ob + k, none⟩ = some (.slice (some ⟨b8, o8, none⟩) 1 c8))
          (first | (refine ⟨?_, ?_⟩ <;> assumption) | exact ⟨ca1, cb1⟩)
          (first | (refine step_append_own _ (by rfl) _ _ _ (by rfl) w.heap.size 31 j0 (.slice none 0 0) 1 24 Try.underlying25 hj0 hy0 hy1 hy2 rfl (by decide) _ _ _ (by rfl) hhd.out ⟨w6.heap.size, 0, none⟩ 1 1 [.slice A6 (L + 1) c6] (by rfl) (by rfl) (cell_one_new _ _ _) (by simp [Value.oneCell']) (by simp only [maxLen]; omega) (by omega) (by first | omega | (simp; done) | (simp; omega)) ?_; intro v8 w8 hown8 hgrow8; have hB8 : Below w.heap.size w w8 := (hB.trans (hb7.mono hsz)).grown hgrow8 (by first | omega | (simp; done) | (simp; omega)) (fun x e => (World.ownsRow.lt hhd.out x e).1); have c18 := (hB8.cell (p := ⟨ba, oa + k, none⟩) hba).trans hca; have c28 := (hB8.cell (p := ⟨bb, ob + k, none⟩) hbb).trans hcb) | (refine step_append_own _ (by rfl) _ _ _ (by rfl) wr.heap.size 22 u0 (.int .u64 0) 1 8 Try.underlying31 hu0 hx0 hx1 hx2 rfl (by decide) _ _ _ (by rfl) hown5H.out ⟨b8, o8, none⟩ 1 c8 [.int .u64 y] (by rfl) (by rfl) (fun j u hj => by match j, hj with | 0, hj => (simp at hj; subst hj; exact hy5) | j + 1, hj => simp at hj) (by simp [Value.oneCell']) (by simp only [maxLen]; omega) (by omega) (by first | omega | (simp; done) | (simp; omega)) ?_; intro v6 w6 hown6 hgrow6; obtain ⟨A6, c6, hv6⟩ := row_form hown6; subst hv6; have hb6 : Below wr.heap.size wr w6 := hb5.grown hgrow6 hsz5 (fun x e => (World.ownsRow.lt hown5H.out x e).1); have hsz6 := hb6.size; have c16 := (hb6.cell (p := ⟨ba, oa + k, none⟩) hbaw).trans hcaw; have c26 := (hb6.cell (p := ⟨bb, ob + k, none⟩) hbbw).trans hcbw; have hb7 := hb6.alloc hsz6 (.cells #[.slice A6 (L + 1) c6] 31); have c17 := (hb7.cell (p := ⟨ba, oa + k, none⟩) hbaw).trans hcaw; have c27 := (hb7.cell (p := ⟨bb, ob + k, none⟩) hbbw).trans hcbw; have hhd := Lib.hid (hMH.out.next hb7).head; have hu7 := Lib.hid (hown6.alloc (.cells #[.slice A6 (L + 1) c6] 31)); clear hown6 hgrow6) | (refine step_append_own _ (by rfl) _ _ _ (by rfl) wr.heap.size 22 u0 (.int .u64 0) 1 8 Try.underlying31 hu0 hx0 hx1 hx2 rfl (by decide) _ _ _ (by rfl) hlitD.out ad L c' ((ro a k).map (Value.int .u64)) (by rfl) hln.out hnwD.out hone.out (by simp only [maxLen]; omega) (by omega) (by first | omega | (simp; done) | (simp; omega)) ?_; intro v5 w5 hown5 hgrow5; rw [Nat.zero_add, List.nil_append] at hown5; obtain ⟨A5, c5, hv5⟩ := row_form hown5; subst hv5; have hb5 : Below wr.heap.size wr w5 := ((Below.refl _ wr).alloc (Nat.le_refl _) _).drew.grown hgrow5 (by first | omega | (simp; done) | (simp; omega)) (fun x e => (World.ownsRow.lt hlitD.out x e).1); have hsz5 := hb5.size; have c15 := (hb5.cell (p := ⟨ba, oa + k, none⟩) hbaw).trans hcaw; have c25 := (hb5.cell (p := ⟨bb, ob + k, none⟩) hbbw).trans hcbw; have hy5 := (hb5.cell (p := ⟨b8, o8, none⟩) hb8w).trans hcyw; have hown5H := Lib.hid hown5; clear hown5 hgrow5))
        all_goals
          go_wp2_with fail
          go_roundw
          case rel => exact ⟨k + 1, _, by omega, by simp, by rw [← hTK.out]; exact hMH.out.add hb7 hsz (by rw [hrow.out, List.length_append, List.map_append, hrl.out]; exact hu7.out) hown8 hgrow8, hB8⟩
          case measure => simp [intOf]; omega
    · obtain rfl : k = a.length := by omega
      rw [List.take_of_length_le (by rw [hgl]; exact Nat.le_refl _)] at hM
      obtain ⟨Ao, co', ho⟩ := row_form hM.head
      subst ho
      go_wp2_with fail
      go_ret
      exact ⟨_, vs, rfl, by rw [hgl]; exact hM, hB⟩
theorem beside_at (p : Int) (A B : Option Addr) (ca cb L nb : Nat) (a : List (List Int)) (b : List Int) (hN : a.length ≤ 100) (hL : L ≤ 100) (ha : Mat p a.length L a) (hn : nb = a.length) (w : World) (sa : Sll w A ca a) (sb : Sll w B cb (colK b nb)) :
    Calls Try.prog 86 #[.slice A a.length ca, .slice B nb cb] w fun e w' => MFresh w e w' (augL a b) := by
  subst hn
  exact beside_any p A B ca cb L a b hN hL ha w sa sb
end Go.Proofs.Ytjijlefplidhpaa
