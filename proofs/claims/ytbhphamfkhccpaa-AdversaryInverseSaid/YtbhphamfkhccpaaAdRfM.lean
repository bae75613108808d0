/- ApplyToMessages of the reference of layer 13. Conditions: a valid scenario but for its tapes, at most 40 deviations, messages of at most 20 words over the field. -/
import Derived.Test.YtbhphamfkhccpaaAdRmM
namespace Go.Proofs.Ytbhphamfkhccpaa
set_option maxRecDepth 100000
open Go.RowKit PolyMath FieldMath PartyMath

/-- What stands while one deviation is applied to one message. -/
structure St3 (bs bd G gi i j ci : Nat) (p n t : Int) (vc vd vt : Value) (d : Dv) (u : Value) (w : World) : Prop where
  sx : Sx w bs p n t vc vd vt
  dx : Dx w bd d
  gh : w.cell? ⟨G, i, none⟩ = some (.slice (some ⟨gi, 0, none⟩) n.toNat ci)
  hd : w.cell? ⟨gi, j, none⟩ = some u

set_option maxHeartbeats 16000000 in
theorem rMs_any (p : Int) (N T : Nat) (Ac Ad : Option Addr) (cc cd : Nat) (co : List Int) (ds : List Dv) (vt : Value) (r : Int) (hO : Ok13 p N T co ds) (A : Option Addr) (c : Nat) (f : Nat → Nat → List Int) (hf : Fin2 p f)
    (w : World) (hc : Si w Ac cc co) (hd : Sd w Ad cd ds) (hm : S2 w A c N N f) :
    Calls Try.prog 14 #[sv p N T (.slice Ac co.length cc) (.slice Ad ds.length cd) vt, .int .i64 r, .slice A N c] w fun e w' => ∃ A' c', e = .returned (.slice A' N c') ∧ S2 w' A' c' N N (msF p co N r ds f) ∧ Below w.heap.size w w' := by
  obtain ⟨i0, hi0, hz0, hz1, hz2⟩ := info_parts info_sll
  have hN13 := hO.coal.n13
  have hN4 := hO.coal.n4
  have hN' : (N : Int) ≤ 13 := by omega
  have hp := hO.coal.ok
  have hpb := hp.bd
  have hp0 : 0 < p := by omega
  have hbad := fun x W h => bad_any p N T Ac cc co (.slice Ad ds.length cd) vt x hO.coal.l1000 W h
  have htold := fun d (hd : dvB N d = true) (hk : Wd d.k) A1 c1 l hl A2 c2 h hh W h1 h2 h3 => rTold_any p N T hp Ac cc co (.slice Ad ds.length cd) vt hO.coal.l1000 d N hd hk A1 c1 l hl A2 c2 h hh W h1 h2 h3
  have hheard := fun d (hd : dvB N d = true) W h => heard_any A c N f hN13 d hd W h
  have hX1 := Lib.hid (Sx.made w p N T (.slice Ac co.length cc) (.slice Ad ds.length cd) vt)
  have hB1 := Lib.hid ((Below.refl _ w).alloc (Nat.le_refl _) (.cells #[.int .u64 p, .int .i64 N, .int .i64 T, .slice Ac co.length cc, .slice Ad ds.length cd, vt] 29))
  have hs1 := Lib.hid (World.size_alloc w (.cells #[.int .u64 p, .int .i64 N, .int .i64 T, .slice Ac co.length cc, .slice Ad ds.length cd, vt] 29))
  unfold sv at hbad htold ⊢
  go_enter Try.func14, Try.ntmps14
  go_wp2
  generalize w.alloc (.cells #[.int .u64 p, .int .i64 N, .int .i64 T, .slice Ac co.length cc, .slice Ad ds.length cd, vt] 29) = W1 at *
  go_loopw [7, 8] (fun v q wr => ∃ (k : Nat) (g cp : Nat → Nat), k ≤ N ∧ q = .int .i64 k ∧ Hid (BM W1.heap.size wr v N k g cp f) ∧ Hid (Below W1.heap.size W1 wr)) (fun _ q _ => N - (intOf q).toNat)
  case atStart => exact ⟨0, fun _ => 0, fun _ => 0, Nat.zero_le _, rfl, Lib.hid (BM.nothing _ _ _ _ _ _), Lib.hid (Below.refl _ _)⟩
  case round =>
    obtain ⟨k, g, cp, hk, rfl, hM, hB⟩ := hrel
    have hsr := hB.out.size
    have hBr := Lib.hid (hB1.out.trans (hB.out.mono (by rw [hs1.out]; omega)))
    by_cases hlt : k < N
    · have hkN : (k : Int) < N := by omega
      obtain ⟨b, off, A', c', rfl, hbl, hcell0, hsf0⟩ := hm.at_ hlt
      have hcell := (hBr.out.cell (p := ⟨b, off + k, none⟩) hbl).trans hcell0
      have hcell2 := ((bnew (Below.refl wr.heap.size wr) (.cells #[] 42) (Nat.le_refl _)).cell (p := ⟨b, off + k, none⟩) (Nat.lt_of_lt_of_le hbl hBr.out.size)).trans hcell
      obtain ⟨b2, off2, rfl, hbl2, hcm⟩ := hsf0.rd (by omega)
      have hlit := Lib.hid (own_lit1 wr (Nat.le_refl wr.heap.size))
      have hc2 : Hid (∀ j, j < N → ∃ A' c', (wr.alloc (.cells #[] 42)).cell? ⟨b2, off2 + j, none⟩ = some (.slice A' (f k j).length c') ∧ (Sl wr A' c' (f k j) ∧ (f k j ≠ [] → ∀ ad, A' = some ad → ad.block < W1.heap.size))) := Lib.hid fun j hj => by
        obtain ⟨A', c', h1, h2⟩ := hcm j hj
        exact ⟨A', c', ((hBr.out.trans (bnew (Below.refl w.heap.size wr) (.cells #[] 42) hBr.out.size)).cell (p := ⟨b2, off2 + j, none⟩) hbl2).trans h1, h2.next hBr.out, fun hn ad e => by have := h2.base ad e hn; rw [hs1.out]; omega⟩
      have hsr1 : Hid (wr.heap.size ≤ (wr.alloc (.cells #[] 42)).heap.size) := Lib.hid (by simp)
      have hhead := Lib.hid hM.out.head
      clear hcm hcell0 hsf0
      go_wp2_with (first
        | (at_builtin; refine wpList_append_hd (by rfl) _ _ rfl wr.heap.size _ 0 N [] rfl hlit.out b2 off2 c' (f k) (fun j A' c' => Sl wr A' c' (f k j) ∧ (f k j ≠ [] → ∀ ad, A' = some ad → ad.block < W1.heap.size)) rfl hc2.out (by omega) hsr1.out ?_; intro v2 w3 us hul hus hown hg2; rw [Nat.zero_add, List.nil_append] at hown; obtain ⟨x, cx, rfl, hx1, hx2⟩ := World.ownsRow.form hown (by omega); have hb3 : Below wr.heap.size wr w3 := (bnew (Below.refl _ _) (.cells #[] 42) (Nat.le_refl _)).grown hg2 hsr1.out (fun q e => (hlit.out.lt q e).1); have hb3H := Lib.hid hb3; have hownH := Lib.hid hown; have husH := Lib.hid hus; have hh3 := own_belowN (own_belowN hhead.out hb3) ((Below.refl w3.heap.size w3).alloc (Nat.le_refl _) (.cells #[.slice (some ⟨x, 0, none⟩) N cx] 27)); have hh3H := Lib.hid hh3; have hz3 : Hid (W1.heap.size ≤ (w3.alloc (.cells #[.slice (some ⟨x, 0, none⟩) N cx] 27)).heap.size) := Lib.hid (by have := hb3.size; simp; omega); clear hb3 hown hus hg2 hul hh3)
        | (at_builtin; refine wpList_append_own _ rfl _ _ 30 rfl W1.heap.size 27 i0 (.slice none 0 0) 1 24 Try.underlying30 hi0 hz0 hz1 hz2 rfl (by decide) _ _ _ rfl hh3H.out ⟨w3.heap.size, 0, none⟩ 1 1 [.slice (some ⟨x, 0, none⟩) N cx] rfl rfl (cell_one_new _ _ _) (by simp [Value.oneCell']) (by simp only [maxLen]; omega) (by omega) hz3.out ?_; intro v3 w5 hown5 hg5 _))
      have hMn := Lib.hid (hM.out.add hsr hb3H.out hownH.out husH.out hown5 hg5)
      have hBn := Lib.hid ((hB.out.trans (bnew (hb3H.out.mono hsr) (.cells #[.slice (some ⟨x, 0, none⟩) N cx] 27) hsr)).grown hg5 hz3.out (fun q e => (World.ownsRow.lt hM.out.head q e).1))
      go_roundw
      case rel => exact ⟨k + 1, _, _, by omega, by simp, hMn, hBn⟩
      case measure => simp [intOf]; omega
    · obtain rfl : k = N := by omega
      clear hlt hk
      rename World => W3
      obtain ⟨G, cG, rfl, hG1, hG2⟩ := World.ownsRow.form hM.out.head (by omega)
      have hR := Lib.hid hM.out.rm
      have hX3 := Lib.hid (hB.out.sx hX1.out (by rw [hs1.out]; exact Nat.lt_succ_self _))
      have hLg : ∀ i, i < k → g i < W3.heap.size := fun i hi => (hR.out.glt hi).2
      have hbs : w.heap.size < W1.heap.size := by rw [hs1.out]; exact Nat.lt_succ_self _
      have hlds := hO.len
      clear hM hX1 hB1
      go_wp2
      go_loopw [9] (fun q wr => ∃ n : Nat, n ≤ ds.length ∧ q = .int .i64 n ∧ Hid (RM W1.heap.size wr G k cG g cp (msF p co k r (ds.take n) f)) ∧ Hid (Mid W1.heap.size W3.heap.size W3 wr)) (fun q _ => ds.length - (intOf q).toNat)
      case atStart => exact ⟨0, Nat.zero_le _, rfl, hR, Lib.hid (Mid.refl _ _ _)⟩
      case round =>
        clear hR
        obtain ⟨n, hn, rfl, hM, hMid⟩ := hrel
        have hXr := Lib.hid (hMid.out.sx hX3.out hbs)
        have hBr2 := Lib.hid (hBr.out.trans ((hMid.out.below hsr).mono (by omega)))
        have hsr2 := hMid.out.size
        obtain ⟨y0, y1, y2, y3, y4, y5, hltx⟩ := id hXr.out
        by_cases hlt : n < ds.length
        · have hkN : (n : Int) < ds.length := by omega
          obtain ⟨bd, offd, d, hA, hbld, hdd, d0, d1, d2, d3, d4, d5, d6, d7⟩ := (hd.next hBr2.out).at_ hlt
          subst hA
          have hdv := hO.dv d (List.mem_of_getElem? hdd)
          have hdk := hO.wk d (List.mem_of_getElem? hdd)
          have hdb : 1 ≤ d.frm ∧ d.frm ≤ k := by unfold dvB at hdv; have := of_decide_eq_true hdv; omega
          obtain ⟨fi, hfi⟩ : ∃ fi : Nat, d.frm = (fi : Int) + 1 := ⟨(d.frm - 1).toNat, by omega⟩
          have hfN : fi < k := by omega
          have hfI : (fi : Int) < k := by omega
          have hEY := fun h => Lib.hid (msF_yes (p := p) (cor := co) (N := k) (r := r) (out := f) hdd h)
          have hEN := fun h => Lib.hid (msF_no (p := p) (cor := co) (N := k) (r := r) (out := f) hdd h)
          have hok := fM_ok (p := p) hp0 co k f ((ds.take n).filter (eff co r)) hf
          change Fin2 p (msF p co k r (ds.take n) f) at hok
          have heE := ech_hrd co d k hdv f
          have hhd := hheard d hdv
          have htl := fun A1 c1 l (hl : Okm p l) A2 c2 => htold d hdv hdk A1 c1 l hl A2 c2 (hrd d f) (hrd_ok hf d).1
          rw [heE] at htl
          have hYES := fun (j : Nat) (h : cnc d ((j : Int) + 1) = true) => Lib.hid (stM_yes (p := p) (e := eM co d f) (k := j) (f := fi) (M := msF p co k r (ds.take n) f) hfi.symm h)
          have hNO := fun (j : Nat) (h : cnc d ((j : Int) + 1) = false) => Lib.hid (stM_no (p := p) (e := eM co d f) (k := j) (M := msF p co k r (ds.take n) f) h)
          have hDx := Dx.made wr d
          have hB5 := (Below.refl wr.heap.size wr).alloc (Nat.le_refl _) (.cells #[.int .i64 d.rnd, .int .i64 d.frm, .int .i64 d.to, .int .i64 d.at_, .int .i64 d.kind, .int .u64 d.k, .int .i64 d.of_, .int .i64 d.src] 41)
          have hbd := fun W h => hbad d.frm W h
          have hefE : eff co r d = (decide (d.rnd = r) && decide (d.frm ∈ co)) := rfl
          have hcnE : ∀ j : Int, cnc d j = decide (j ≠ d.frm ∧ (d.to = 0 ∨ d.to = j)) := fun j => rfl
          generalize msF p co k r (ds.take n) f = F at *
          generalize eM co d f = ee at *
          unfold dvv at htl hhd
          rw [hfi] at d1 hDx hB5 hbd htl hhd hefE
          simp only [hfi] at hcnE
          have hfi' := Lib.hid hfi
          have hX5 := hXr.out.next hB5
          have hDH := Lib.hid hDx
          have hXH := Lib.hid hX5
          have hBH := Lib.hid hB5
          clear hdd hdb hdv hdk hfi hDx hX5 hB5
          by_cases h1 : d.rnd = r
          case neg =>
            have hN := hEN (by rw [hefE, decide_eq_false h1]; rfl)
            have h1' : (d.rnd != r) = true := bne_iff_ne.2 h1
            clear h1 hEY hEN hbd htl hhd hYES hNO hcnE
            go_wp2
            go_roundw
            case rel => exact ⟨n + 1, by omega, by simp, by rw [hN.out]; exact Lib.hid (hM.out.next hBH.out), Lib.hid (hMid.out.trans (Mid.of hBH.out))⟩
            case measure => simp [intOf]; omega
          have h1' : (d.rnd != r) = false := by rw [bne_eq_false_iff_eq]; exact h1
          obtain ⟨z0, z1, z2, z3, z4, z5, hltw⟩ := id hXH.out
          by_cases h2 : ((fi : Int) + 1) ∈ co
          case neg =>
            have hN := hEN (by rw [hefE, decide_eq_false h2]; simp)
            rw [decide_eq_false h2] at hbd
            clear h1 h2 hEY hEN htl hhd hYES hNO hcnE
            go_wp2_with fail
            refine (hbd _ (hc.next (hBr2.out.trans (hBH.out.mono hBr2.out.size)))).mono ?_; rintro e w5 ⟨rfl, hb5⟩
            go_wp2_with fail
            go_roundw
            case rel => exact ⟨n + 1, by omega, by simp, by rw [hN.out]; exact Lib.hid (hM.out.next (hBH.out.trans (hb5.mono hBH.out.size))), Lib.hid (hMid.out.trans (Mid.of (hBH.out.trans (hb5.mono hBH.out.size))))⟩
            case measure => simp [intOf]; omega
          have hNX := hEY (by rw [hefE, decide_eq_true h1, decide_eq_true h2]; rfl)
          rw [decide_eq_true h2] at hbd
          clear h1 h2 hEY hEN hefE
          go_wp2_with fail
          refine (hbd _ (hc.next (hBr2.out.trans (hBH.out.mono hBr2.out.size)))).mono ?_; rintro e w5 ⟨rfl, hb5⟩
          have hX5 := Lib.hid (hXH.out.next hb5)
          have hD5 := Lib.hid (hDH.out.next hb5)
          have hB5 := hBH.out.trans (hb5.mono hBH.out.size)
          have hM5 := Lib.hid (hM.out.next hB5)
          have hMd5 := Lib.hid (hMid.out.trans (Mid.of hB5))
          have hsz5 := hB5.size
          have hbxL : W3.heap.size ≤ wr.heap.size := hsr2
          generalize wr.heap.size = bx at *
          rw [← stM_zero p d ee F] at hM5
          clear z0 z1 z2 z3 z4 z5 hltw y0 y1 y2 y3 y4 y5 hltx d0 d1 d2 d3 d4 d5 d6 d7 hb5 hbd hM hMid hXr hDH hXH hBH hB5
          have hBr5 := Lib.hid (hBr.out.trans ((hMd5.out.below hsr).mono (by omega)))
          have hw5 := hMd5.out.size
          go_wp2
          go_loopw [11] (fun q wq => ∃ j : Nat, j ≤ k ∧ q = .int .i64 ((j : Int) + 1) ∧ Hid (RM W1.heap.size wq G k cG g cp (stM p d ee j F)) ∧ Hid (Mid W1.heap.size W3.heap.size w5 wq)) (fun q _ => k + 1 - (intOf q).toNat)
          case atStart => exact ⟨0, Nat.zero_le _, rfl, hM5, Lib.hid (Mid.refl _ _ _)⟩
          case round =>
            clear hM5
            obtain ⟨j, hj, rfl, hM, hMq⟩ := hrel
            have hXq := hMq.out.sx hX5.out hbs
            have hDq := hMq.out.dx hD5.out hbxL
            have hBq := Lib.hid (hBr5.out.trans ((hMq.out.below (by omega)).mono (by omega)))
            obtain ⟨y0, y1, y2, y3, y4, y5, hltx⟩ := id hXq
            by_cases hj0 : j < k
            · have hjI : (j : Int) + 1 ≤ k := by omega
              obtain ⟨x0, x1, x2, x3, x4, x5, x6, x7, hltz⟩ := id hDq
              rw [hfi'.out] at x1
              have hcj := hcnE ((j : Int) + 1)
              have hgh := hM.out.hcell hfN
              obtain ⟨Am, cm, hmc, hms, hmf⟩ := hM.out.at_ hfN hj0
              rw [stM_at] at hmc hms hmf
              by_cases h1 : (j : Int) + 1 = (fi : Int) + 1
              · have hq : cnc d ((j : Int) + 1) = false := by rw [hcj]; exact decide_eq_false fun q => q.1 h1
                have h1' : (((j : Int) + 1) != ((fi : Int) + 1)) = false := by rw [bne_eq_false_iff_eq]; exact h1
                clear h1 hcj hgh hmc hms hmf
                have hno := hNO j hq
                go_wp2
                go_roundw
                case rel => exact ⟨j + 1, by omega, by simp, by rw [hno.out]; exact hM, hMq⟩
                case measure => simp [intOf]; omega
              have h1' : (((j : Int) + 1) != ((fi : Int) + 1)) = true := bne_iff_ne.2 h1
              by_cases h2 : d.to = 0
              · have hq : cnc d ((j : Int) + 1) = true := by rw [hcj]; exact decide_eq_true ⟨h1, .inl h2⟩
                have h2' : (d.to == 0) = true := beq_iff_eq.2 h2
                clear h1 h2 hcj
                go_wp2
                have hSt : (St3 w.heap.size bx G (g fi) fi j (cp fi) p k T (.slice Ac co.length cc) (.slice (some ⟨bd, offd, none⟩) ds.length cd) vt d (.slice Am (F fi j).length cm)) wr.drew := ⟨hXq.next (Below.refl _ _).drew, hDq.next (Below.refl _ _).drew, hgh, hmc⟩
                have hyes := hYES j hq
                clear y0 y1 y2 y3 y4 y5 hltx x0 x1 x2 x3 x4 x5 x6 x7 hltz
                refine wp_region_hold 22 2 (St3 w.heap.size bx G (g fi) fi j (cp fi) p k T (.slice Ac co.length cc) (.slice (some ⟨bd, offd, none⟩) ds.length cd) vt d (.slice Am (F fi j).length cm)) (by kernel_rfl) (by kernel_rfl) hSt (fun hInh => ?_)
                simp only [List.take_succ_cons, List.take_zero, List.drop_succ_cons, List.drop_zero]
                have C0 := fun b : Hold (St3 w.heap.size bx G (g fi) fi j (cp fi) p k T (.slice Ac co.length cc) (.slice (some ⟨bd, offd, none⟩) ds.length cd) vt d (.slice Am (F fi j).length cm)) => b.ok.sx.c0
                have C1 := fun b : Hold (St3 w.heap.size bx G (g fi) fi j (cp fi) p k T (.slice Ac co.length cc) (.slice (some ⟨bd, offd, none⟩) ds.length cd) vt d (.slice Am (F fi j).length cm)) => b.ok.sx.c1
                have C2 := fun b : Hold (St3 w.heap.size bx G (g fi) fi j (cp fi) p k T (.slice Ac co.length cc) (.slice (some ⟨bd, offd, none⟩) ds.length cd) vt d (.slice Am (F fi j).length cm)) => b.ok.sx.c2
                have C3 := fun b : Hold (St3 w.heap.size bx G (g fi) fi j (cp fi) p k T (.slice Ac co.length cc) (.slice (some ⟨bd, offd, none⟩) ds.length cd) vt d (.slice Am (F fi j).length cm)) => b.ok.sx.c3
                have C4 := fun b : Hold (St3 w.heap.size bx G (g fi) fi j (cp fi) p k T (.slice Ac co.length cc) (.slice (some ⟨bd, offd, none⟩) ds.length cd) vt d (.slice Am (F fi j).length cm)) => b.ok.sx.c4
                have C5 := fun b : Hold (St3 w.heap.size bx G (g fi) fi j (cp fi) p k T (.slice Ac co.length cc) (.slice (some ⟨bd, offd, none⟩) ds.length cd) vt d (.slice Am (F fi j).length cm)) => b.ok.sx.c5
                have E0 := fun b : Hold (St3 w.heap.size bx G (g fi) fi j (cp fi) p k T (.slice Ac co.length cc) (.slice (some ⟨bd, offd, none⟩) ds.length cd) vt d (.slice Am (F fi j).length cm)) => b.ok.dx.d0
                have E1 := fun b : Hold (St3 w.heap.size bx G (g fi) fi j (cp fi) p k T (.slice Ac co.length cc) (.slice (some ⟨bd, offd, none⟩) ds.length cd) vt d (.slice Am (F fi j).length cm)) => b.ok.dx.d1
                have E2 := fun b : Hold (St3 w.heap.size bx G (g fi) fi j (cp fi) p k T (.slice Ac co.length cc) (.slice (some ⟨bd, offd, none⟩) ds.length cd) vt d (.slice Am (F fi j).length cm)) => b.ok.dx.d2
                have E3 := fun b : Hold (St3 w.heap.size bx G (g fi) fi j (cp fi) p k T (.slice Ac co.length cc) (.slice (some ⟨bd, offd, none⟩) ds.length cd) vt d (.slice Am (F fi j).length cm)) => b.ok.dx.d3
                have E4 := fun b : Hold (St3 w.heap.size bx G (g fi) fi j (cp fi) p k T (.slice Ac co.length cc) (.slice (some ⟨bd, offd, none⟩) ds.length cd) vt d (.slice Am (F fi j).length cm)) => b.ok.dx.d4
                have E5 := fun b : Hold (St3 w.heap.size bx G (g fi) fi j (cp fi) p k T (.slice Ac co.length cc) (.slice (some ⟨bd, offd, none⟩) ds.length cd) vt d (.slice Am (F fi j).length cm)) => b.ok.dx.d5
                have E6 := fun b : Hold (St3 w.heap.size bx G (g fi) fi j (cp fi) p k T (.slice Ac co.length cc) (.slice (some ⟨bd, offd, none⟩) ds.length cd) vt d (.slice Am (F fi j).length cm)) => b.ok.dx.d6
                have E7 := fun b : Hold (St3 w.heap.size bx G (g fi) fi j (cp fi) p k T (.slice Ac co.length cc) (.slice (some ⟨bd, offd, none⟩) ds.length cd) vt d (.slice Am (F fi j).length cm)) => b.ok.dx.d7
                have EG := fun b : Hold (St3 w.heap.size bx G (g fi) fi j (cp fi) p k T (.slice Ac co.length cc) (.slice (some ⟨bd, offd, none⟩) ds.length cd) vt d (.slice Am (F fi j).length cm)) => b.ok.gh
                have EH := fun b : Hold (St3 w.heap.size bx G (g fi) fi j (cp fi) p k T (.slice Ac co.length cc) (.slice (some ⟨bd, offd, none⟩) ds.length cd) vt d (.slice Am (F fi j).length cm)) => b.ok.hd
                simp only [hfi'.out] at E1
                repeat (go_big_quiet_step (fail))
                refine wpQuiet_nil ?_
                clear C0 C1 C2 C3 C4 C5 E0 E1 E2 E3 E4 E5 E6 E7 EG EH
                refine wpListS_step (by rfl) (fun K hK => ?_)
                go_simp
                have hB6 := (Below.refl wr.heap.size wr).drew
                have hBw := hBq.out.trans (hB6.mono hBq.out.size)
                refine (hhd _ (hm.next hBw)).mono ?_; rintro e w6 ⟨Ah, ch, rfl, hsh, hb6⟩
                have hS6 : (St3 w.heap.size bx G (g fi) fi j (cp fi) p k T (.slice Ac co.length cc) (.slice (some ⟨bd, offd, none⟩) ds.length cd) vt d (.slice Am (F fi j).length cm)) w6 := ⟨hSt.sx.next hb6, hSt.dx.next hb6, (hb6.cell (p := ⟨G, fi, none⟩) hM.out.lt.2).trans hSt.gh, (hb6.cell (p := ⟨g fi, j, none⟩) (hM.out.glt hfN).2).trans hSt.hd⟩
                have hB7 := hB6.trans hb6
                have hBw7 := hBw.trans (hb6.mono hBw.size)
                refine hK _ _ hS6 (fun _ => ?_)
                clear hK K hb6
                refine wpListS_step (by rfl) (fun K hK => ?_)
                go_simp
                refine (htl Am cm (F fi j) (hok fi j) Ah ch _ (hc.next hBw7) (hms.next hB7) hsh).mono ?_; rintro e w7 ⟨A7, c7, rfl, hs7, hor7, hb7⟩
                have hS7 : (St3 w.heap.size bx G (g fi) fi j (cp fi) p k T (.slice Ac co.length cc) (.slice (some ⟨bd, offd, none⟩) ds.length cd) vt d (.slice Am (F fi j).length cm)) w7 := ⟨hS6.sx.next hb7, hS6.dx.next hb7, (hb7.cell (p := ⟨G, fi, none⟩) (Nat.lt_of_lt_of_le hM.out.lt.2 hB7.size)).trans hS6.gh, (hb7.cell (p := ⟨g fi, j, none⟩) (Nat.lt_of_lt_of_le (hM.out.glt hfN).2 hB7.size)).trans hS6.hd⟩
                have hB8 := hB7.trans (hb7.mono hB7.size)
                have hM7 := hM.out.next hB8
                have hfar : told p d (F fi j) ee ≠ [] → ∀ ad, A7 = some ad → ∀ i', i' < k → ad.block ≠ g i' := fun hn ad ea i' hi' => by
                  rcases hor7 with ⟨q1, q2⟩ | q
                  · rw [q2] at hn; exact hmf hn ad (q1 ▸ ea) i' hi'
                  · have := q ad ea; have := (hM.out.glt hi').2; have := hB7.size; omega
                have hMn := Lib.hid (hM7.put hfN hj0 hs7 hfar)
                rw [← hyes.out] at hMn
                have hMd := Lib.hid ((hMq.out.trans (Mid.of hB8)).trans (Mid.setCell w7 (p := ⟨g fi, j, none⟩) (hM.out.glt hfN).1 (hLg fi hfN) (.slice A7 (told p d (F fi j) ee).length c7)))
                refine hK _ _ hS7 (fun _ => ?_)
                clear hK K hb7 hSt hS6
                refine wpListS_end ?_
                have hcell7 := hS7.hd
                have hfz7 := hM7.frozen hfN j
                generalize told p d (F fi j) ee = rr at *
                clear hM7 hS7 hs7 hor7 hfar
                go_wp2
                refine NoPanic.normal ?_
                go_wp2
                go_roundw
                case rel => exact ⟨j + 1, by omega, by simp, hMn, hMd⟩
                case measure => simp [intOf]; omega
              have h2' : (d.to == 0) = false := beq_eq_false_iff_ne.2 h2
              by_cases h3 : d.to = (j : Int) + 1
              · have hq : cnc d ((j : Int) + 1) = true := by rw [hcj]; exact decide_eq_true ⟨h1, .inr h3⟩
                have h3' : (d.to == (j : Int) + 1) = true := beq_iff_eq.2 h3
                clear h1 h2 h3 hcj
                go_wp2
                have hSt : (St3 w.heap.size bx G (g fi) fi j (cp fi) p k T (.slice Ac co.length cc) (.slice (some ⟨bd, offd, none⟩) ds.length cd) vt d (.slice Am (F fi j).length cm)) wr.drew := ⟨hXq.next (Below.refl _ _).drew, hDq.next (Below.refl _ _).drew, hgh, hmc⟩
                have hyes := hYES j hq
                clear y0 y1 y2 y3 y4 y5 hltx x0 x1 x2 x3 x4 x5 x6 x7 hltz
                refine wp_region_hold 22 2 (St3 w.heap.size bx G (g fi) fi j (cp fi) p k T (.slice Ac co.length cc) (.slice (some ⟨bd, offd, none⟩) ds.length cd) vt d (.slice Am (F fi j).length cm)) (by kernel_rfl) (by kernel_rfl) hSt (fun hInh => ?_)
                simp only [List.take_succ_cons, List.take_zero, List.drop_succ_cons, List.drop_zero]
                have C0 := fun b : Hold (St3 w.heap.size bx G (g fi) fi j (cp fi) p k T (.slice Ac co.length cc) (.slice (some ⟨bd, offd, none⟩) ds.length cd) vt d (.slice Am (F fi j).length cm)) => b.ok.sx.c0
                have C1 := fun b : Hold (St3 w.heap.size bx G (g fi) fi j (cp fi) p k T (.slice Ac co.length cc) (.slice (some ⟨bd, offd, none⟩) ds.length cd) vt d (.slice Am (F fi j).length cm)) => b.ok.sx.c1
                have C2 := fun b : Hold (St3 w.heap.size bx G (g fi) fi j (cp fi) p k T (.slice Ac co.length cc) (.slice (some ⟨bd, offd, none⟩) ds.length cd) vt d (.slice Am (F fi j).length cm)) => b.ok.sx.c2
                have C3 := fun b : Hold (St3 w.heap.size bx G (g fi) fi j (cp fi) p k T (.slice Ac co.length cc) (.slice (some ⟨bd, offd, none⟩) ds.length cd) vt d (.slice Am (F fi j).length cm)) => b.ok.sx.c3
                have C4 := fun b : Hold (St3 w.heap.size bx G (g fi) fi j (cp fi) p k T (.slice Ac co.length cc) (.slice (some ⟨bd, offd, none⟩) ds.length cd) vt d (.slice Am (F fi j).length cm)) => b.ok.sx.c4
                have C5 := fun b : Hold (St3 w.heap.size bx G (g fi) fi j (cp fi) p k T (.slice Ac co.length cc) (.slice (some ⟨bd, offd, none⟩) ds.length cd) vt d (.slice Am (F fi j).length cm)) => b.ok.sx.c5
                have E0 := fun b : Hold (St3 w.heap.size bx G (g fi) fi j (cp fi) p k T (.slice Ac co.length cc) (.slice (some ⟨bd, offd, none⟩) ds.length cd) vt d (.slice Am (F fi j).length cm)) => b.ok.dx.d0
                have E1 := fun b : Hold (St3 w.heap.size bx G (g fi) fi j (cp fi) p k T (.slice Ac co.length cc) (.slice (some ⟨bd, offd, none⟩) ds.length cd) vt d (.slice Am (F fi j).length cm)) => b.ok.dx.d1
                have E2 := fun b : Hold (St3 w.heap.size bx G (g fi) fi j (cp fi) p k T (.slice Ac co.length cc) (.slice (some ⟨bd, offd, none⟩) ds.length cd) vt d (.slice Am (F fi j).length cm)) => b.ok.dx.d2
                have E3 := fun b : Hold (St3 w.heap.size bx G (g fi) fi j (cp fi) p k T (.slice Ac co.length cc) (.slice (some ⟨bd, offd, none⟩) ds.length cd) vt d (.slice Am (F fi j).length cm)) => b.ok.dx.d3
                have E4 := fun b : Hold (St3 w.heap.size bx G (g fi) fi j (cp fi) p k T (.slice Ac co.length cc) (.slice (some ⟨bd, offd, none⟩) ds.length cd) vt d (.slice Am (F fi j).length cm)) => b.ok.dx.d4
                have E5 := fun b : Hold (St3 w.heap.size bx G (g fi) fi j (cp fi) p k T (.slice Ac co.length cc) (.slice (some ⟨bd, offd, none⟩) ds.length cd) vt d (.slice Am (F fi j).length cm)) => b.ok.dx.d5
                have E6 := fun b : Hold (St3 w.heap.size bx G (g fi) fi j (cp fi) p k T (.slice Ac co.length cc) (.slice (some ⟨bd, offd, none⟩) ds.length cd) vt d (.slice Am (F fi j).length cm)) => b.ok.dx.d6
                have E7 := fun b : Hold (St3 w.heap.size bx G (g fi) fi j (cp fi) p k T (.slice Ac co.length cc) (.slice (some ⟨bd, offd, none⟩) ds.length cd) vt d (.slice Am (F fi j).length cm)) => b.ok.dx.d7
                have EG := fun b : Hold (St3 w.heap.size bx G (g fi) fi j (cp fi) p k T (.slice Ac co.length cc) (.slice (some ⟨bd, offd, none⟩) ds.length cd) vt d (.slice Am (F fi j).length cm)) => b.ok.gh
                have EH := fun b : Hold (St3 w.heap.size bx G (g fi) fi j (cp fi) p k T (.slice Ac co.length cc) (.slice (some ⟨bd, offd, none⟩) ds.length cd) vt d (.slice Am (F fi j).length cm)) => b.ok.hd
                simp only [hfi'.out] at E1
                repeat (go_big_quiet_step (fail))
                refine wpQuiet_nil ?_
                clear C0 C1 C2 C3 C4 C5 E0 E1 E2 E3 E4 E5 E6 E7 EG EH
                refine wpListS_step (by rfl) (fun K hK => ?_)
                go_simp
                have hB6 := (Below.refl wr.heap.size wr).drew
                have hBw := hBq.out.trans (hB6.mono hBq.out.size)
                refine (hhd _ (hm.next hBw)).mono ?_; rintro e w6 ⟨Ah, ch, rfl, hsh, hb6⟩
                have hS6 : (St3 w.heap.size bx G (g fi) fi j (cp fi) p k T (.slice Ac co.length cc) (.slice (some ⟨bd, offd, none⟩) ds.length cd) vt d (.slice Am (F fi j).length cm)) w6 := ⟨hSt.sx.next hb6, hSt.dx.next hb6, (hb6.cell (p := ⟨G, fi, none⟩) hM.out.lt.2).trans hSt.gh, (hb6.cell (p := ⟨g fi, j, none⟩) (hM.out.glt hfN).2).trans hSt.hd⟩
                have hB7 := hB6.trans hb6
                have hBw7 := hBw.trans (hb6.mono hBw.size)
                refine hK _ _ hS6 (fun _ => ?_)
                clear hK K hb6
                refine wpListS_step (by rfl) (fun K hK => ?_)
                go_simp
                refine (htl Am cm (F fi j) (hok fi j) Ah ch _ (hc.next hBw7) (hms.next hB7) hsh).mono ?_; rintro e w7 ⟨A7, c7, rfl, hs7, hor7, hb7⟩
                have hS7 : (St3 w.heap.size bx G (g fi) fi j (cp fi) p k T (.slice Ac co.length cc) (.slice (some ⟨bd, offd, none⟩) ds.length cd) vt d (.slice Am (F fi j).length cm)) w7 := ⟨hS6.sx.next hb7, hS6.dx.next hb7, (hb7.cell (p := ⟨G, fi, none⟩) (Nat.lt_of_lt_of_le hM.out.lt.2 hB7.size)).trans hS6.gh, (hb7.cell (p := ⟨g fi, j, none⟩) (Nat.lt_of_lt_of_le (hM.out.glt hfN).2 hB7.size)).trans hS6.hd⟩
                have hB8 := hB7.trans (hb7.mono hB7.size)
                have hM7 := hM.out.next hB8
                have hfar : told p d (F fi j) ee ≠ [] → ∀ ad, A7 = some ad → ∀ i', i' < k → ad.block ≠ g i' := fun hn ad ea i' hi' => by
                  rcases hor7 with ⟨q1, q2⟩ | q
                  · rw [q2] at hn; exact hmf hn ad (q1 ▸ ea) i' hi'
                  · have := q ad ea; have := (hM.out.glt hi').2; have := hB7.size; omega
                have hMn := Lib.hid (hM7.put hfN hj0 hs7 hfar)
                rw [← hyes.out] at hMn
                have hMd := Lib.hid ((hMq.out.trans (Mid.of hB8)).trans (Mid.setCell w7 (p := ⟨g fi, j, none⟩) (hM.out.glt hfN).1 (hLg fi hfN) (.slice A7 (told p d (F fi j) ee).length c7)))
                refine hK _ _ hS7 (fun _ => ?_)
                clear hK K hb7 hSt hS6
                refine wpListS_end ?_
                have hcell7 := hS7.hd
                have hfz7 := hM7.frozen hfN j
                generalize told p d (F fi j) ee = rr at *
                clear hM7 hS7 hs7 hor7 hfar
                go_wp2
                refine NoPanic.normal ?_
                go_wp2
                go_roundw
                case rel => exact ⟨j + 1, by omega, by simp, hMn, hMd⟩
                case measure => simp [intOf]; omega
              · have hq : cnc d ((j : Int) + 1) = false := by rw [hcj]; exact decide_eq_false fun q => q.2.elim h2 h3
                have h3' : (d.to == (j : Int) + 1) = false := beq_eq_false_iff_ne.2 h3
                clear h1 h2 h3 hcj hgh hmc hms hmf
                have hno := hNO j hq
                go_wp2
                go_roundw
                case rel => exact ⟨j + 1, by omega, by simp, by rw [hno.out]; exact hM, hMq⟩
                case measure => simp [intOf]; omega
            · obtain rfl : j = k := by omega
              go_wp2
              go_roundw
              case rel => exact ⟨n + 1, by omega, by simp, by rw [hNX.out]; exact hM, Lib.hid (hMd5.out.trans hMq.out)⟩
              case measure => simp [intOf]; omega
        · obtain rfl : n = ds.length := by omega
          have hM' := hM.out
          rw [List.take_length] at hM'
          have hMH := Lib.hid hM'
          clear hM'
          go_wp2
          go_ret
          exact ⟨_, _, rfl, hMH.out.s2, hBr2.out⟩
end Go.Proofs.Ytbhphamfkhccpaa
