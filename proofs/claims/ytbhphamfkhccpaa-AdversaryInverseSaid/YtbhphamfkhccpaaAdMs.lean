/- ApplyToMessages of package adversary. Conditions: a valid scenario but for its tapes, at most 40 deviations, messages of at most 20 words over the field. -/
import Derived.Test.YtbhphamfkhccpaaAdBc
namespace Go.Proofs.Ytbhphamfkhccpaa
set_option maxRecDepth 100000
open Go.RowKit PolyMath FieldMath PartyMath

/-- All blocks of the lists of messages lie below L. -/
structure LimM (L G N : Nat) (g : Nat → Nat) (u : Nat → Nat → Value) : Prop where
  G : G < L
  g : ∀ i, i < N → g i < L
  u : ∀ i j, i < N → j < N → ∀ e, (u i j).ownBlock = some e → e < L
section
variable {B : Nat} {w w' : World} {G N K : Nat} {g : Nat → Nat} {u : Nat → Nat → Value} {f : Nat → Nat → List Int}
theorem LimM.of (h : OM B w G N N g u f) : LimM w.heap.size G N g u :=
  ⟨h.lt.2, fun _ hi => (h.glt hi).2, fun _ _ hi hj e he => (h.ult hi hj e he).2⟩
theorem LimM.put {L a b : Nat} {v : Value} (h : LimM L G N g u) (ha : a < N) (hb : b < N) (hv : ∀ e, v.ownBlock = some e → (u a b).ownBlock = some e) : LimM L G N g (up2 u a b v) :=
  ⟨h.G, h.g, fun i j hi hj e he => by
    by_cases q : i = a ∧ j = b
    · obtain ⟨rfl, rfl⟩ := q; rw [up2_at] at he; exact h.u i j hi hj e (hv e he)
    · rw [up2_else _ _ q] at he; exact h.u i j hi hj e he⟩
theorem OM.begin (g : Nat → Nat) (u : Nat → Nat → Value) (f : Nat → Nat → List Int) (h : w.ownsRow B 27 1 (.slice (some ⟨G, 0, none⟩) N N) N (List.replicate N (.slice none 0 0))) : OM B w G N 0 g u f := by
  rw [rep_map] at h
  refine ⟨?_, fun _ hi => absurd hi (Nat.not_lt_zero _), fun _ _ hi => absurd hi (Nat.not_lt_zero _), fun _ _ hi => absurd hi (Nat.not_lt_zero _), fun _ _ _ _ _ hi => absurd hi (Nat.not_lt_zero _)⟩
  have : (List.range N).map (hdg g N 0) = (List.range N).map fun _ => Value.slice none 0 0 := List.map_congr_left fun i _ => by unfold hdg; rw [if_neg (Nat.not_lt_zero _)]
  rw [this]; exact h
theorem OM.kcell (h : OM B w G N K g u f) {i : Nat} (hi : i < N) : w.cell? ⟨G, i, none⟩ = some (hdg g N K i) := (World.ownsRow.cellAt h.head i (by omega)).trans (get_map _ hi)
theorem OM.ext {f' : Nat → Nat → List Int} (h : OM B w G N K g u f) (e : ∀ i j, i < K → j < N → f' i j = f i j) : OM B w G N K g u f' :=
  ⟨h.head, h.mid, fun i j hi hj => by rw [e i j hi hj]; exact h.row i j hi hj, h.gi, h.ap⟩
/-- Behind a written message the headers are as they were. -/
theorem OM.hkeep (h : OM B w G N N g u f) {a b : Nat} (ha : a < N) (hb : b < N) (hg : w.grownBy w' (u a b).ownBlock) {i : Nat} (hi : i < N) (j : Nat) : w'.cell? ⟨g i, j, none⟩ = w.cell? ⟨g i, j, none⟩ ∧ w'.frozen? ⟨g i, j, none⟩ = false := by
  have hne : some (g i) ≠ (u a b).ownBlock := by
    rcases ne_row (h.mid i hi) (h.row a b ha hb) (by decide) with q | q
    · cases q
    · exact q
  have hb := hg.block (g i) (h.glt hi).2 hne
  exact ⟨World.cell?_of_block (w := w) hb, (World.frozen?_of_block (w := w) hb).trans (World.ownsRow.frozenAt (h.mid i hi) j)⟩
end
/-- What stands while the echo is looked up. -/
structure St2 (bs bd : Nat) (p n t : Int) (vc vd vt : Value) (d : Dv) (w : World) : Prop where
  sx : Sx w bs p n t vc vd vt
  dx : Dx w bd d

set_option maxHeartbeats 8000000 in
theorem ms_any (p : Int) (N T : Nat) (Ac Ad : Option Addr) (cc cd : Nat) (co : List Int) (ds : List Dv) (vt : Value) (r : Int) (hO : Ok13 p N T co ds) (A : Option Addr) (c : Nat) (f : Nat → Nat → List Int) (hf : Fin2 p f)
    (w : World) (hc : Si w Ac cc co) (hd : Sd w Ad cd ds) (hm : S2 w A c N N f) :
    Calls Try.prog 13 #[sv p N T (.slice Ac co.length cc) (.slice Ad ds.length cd) vt, .int .i64 r, .slice A N c] w fun e w' => ∃ A' c', e = .returned (.slice A' N c') ∧ S2 w' A' c' N N (msF p co N r ds f) ∧ Below w.heap.size w w' := by
  obtain ⟨i0, hi0, hz0, hz1, hz2⟩ := info_parts info_sll
  have hN13 := hO.coal.n13
  have hN' : (N : Int) ≤ 13 := by omega
  have hB8 : Hid (i0.bytes * N ≤ 281474976710656) := Lib.hid (by rw [hz2]; omega)
  have hp := hO.coal.ok
  have hpb := hp.bd
  have hp0 : 0 < p := by omega
  have hiF := fun W h1 h2 => isFor_any p N T Ac Ad cc cd co ds vt hO W h1 h2
  have hiS := fun W h => isSquare_any A c N f hN13 W h
  have hef := fun W h1 h2 => effective_any p N T Ac Ad cc cd co ds vt r hO.coal.l1000 (by have := hO.len; omega) W h1 h2
  have hech := fun d (hd : dvB N d = true) A' c' i W h1 h2 => echoed_any p N T Ac cc co (.slice Ad ds.length cd) vt d N hd hN13 hO.coal.l1000 A' c' (fun j => f j i) (fun j => (hf j i).2) W h1 h2
  have hX1 := Sx.made w p N T (.slice Ac co.length cc) (.slice Ad ds.length cd) vt
  have hB1 := (Below.refl _ w).alloc (Nat.le_refl _) (.cells #[.int .u64 p, .int .i64 N, .int .i64 T, .slice Ac co.length cc, .slice Ad ds.length cd, vt] 29)
  unfold sv at hiF hef hech ⊢
  go_enter Try.func13, Try.ntmps13
  go_wp2_with fail
  refine (hiF _ (hc.next hB1) (hd.next hB1)).mono ?_; rintro e w2 ⟨rfl, hb2⟩
  have hX2 := hX1.next hb2
  have hB2 := hB1.trans (hb2.mono hB1.size)
  clear hX1 hB1 hb2 hiF
  go_wp2_with fail
  refine (hiS _ (hm.next hB2)).mono ?_; rintro e w3 ⟨rfl, hb3⟩
  have hX3 := Lib.hid (hX2.next hb3)
  have hB3 := Lib.hid (hB2.trans (hb3.mono hB2.size))
  clear hX2 hB2 hb3 hiS
  have hbs : w.heap.size < w3.heap.size := hX3.out.lt
  go_wp2_with (at_make; refine wpList_make_full _ rfl _ _ 30 rfl w3.heap.size 27 i0 (.slice none 0 0) 1 Try.underlying30 hi0 hz0 hz1 .i64 .i64 _ _ N rfl rfl (by omega) (by omega) hB8.out (by simp only [maxLen]; omega) (Nat.le_refl _) ?_; intro w4 hown4 hgrow4)
  have hb4 : Below w3.heap.size w3 w4 := (Below.refl _ w3).grown hgrow4 (Nat.le_refl _) (fun k e => by cases e)
  simp only [Value.cells, toList_madeCells_one, Nat.mul_one] at hown4
  have hM4 := Lib.hid (OM.begin (fun _ => 0) (fun _ _ => .slice none 0 0) f hown4)
  clear hown4 hgrow4
  go_loopw [31] (fun q wr => ∃ (k : Nat) (g : Nat → Nat) (u : Nat → Nat → Value), k ≤ N ∧ q = .int .i64 k ∧ Hid (OM w3.heap.size wr w3.heap.size N k g u f) ∧ Below w3.heap.size w3 wr) (fun q _ => N - (intOf q).toNat)
  case atStart => exact ⟨0, _, _, Nat.zero_le _, rfl, hM4, hb4⟩
  case round =>
    clear hM4 hb4
    obtain ⟨k, g, u, hk, rfl, hM, hB⟩ := hrel
    have hsz := hB.size
    by_cases hlt : k < N
    · have hkN : (k : Int) < N := by omega
      obtain ⟨b, off, A', c', rfl, hbl, hcell0, hsf0⟩ := hm.at_ hlt
      have hBw := hB3.out.trans (hB.mono (by omega))
      have hcell := (hBw.cell (p := ⟨b, off + k, none⟩) hbl).trans hcell0
      have hcl := cloned_any A' c' N (f k) hN13 (fun j => (hf k j).2) wr (hsf0.next hBw)
      clear hcell0 hBw hsf0
      go_wp2_with fail
      refine hcl.mono ?_; rintro e w5 ⟨x, v, rfl, hF5, hb5⟩
      have hM5 := hM.out.next hb5
      have hu5 := hM5.kcell hlt
      have hfz5 := World.ownsRow.frozenAt hM5.head k
      have HP := Lib.hid (hM.out.add hlt hb5 hF5 hsz)
      have HB := Lib.hid ((hB.trans (hb5.mono hsz)).setCell (p := ⟨w3.heap.size, k, none⟩) (Nat.le_refl _) (.slice (some ⟨x, 0, none⟩) N N))
      clear hcl hF5 hM5 hM hb5 hB
      go_wp2_with fail
      go_roundw
      case rel => exact ⟨k + 1, _, _, by omega, by simp, by
        have e : up f k (f k) = f := by funext a; unfold up; split <;> rename_i h <;> first | rfl | (rw [h])
        rw [e] at HP; exact HP, HB.out⟩
      case measure => simp [intOf]; omega
    · obtain rfl : k = N := by omega
      clear hlt hk
      rename World => W3
      obtain ⟨c0, c1, c2, c3, c4, c5, hltx⟩ := id (hX3.out.next hB)
      have hB4 := Lib.hid (hB3.out.trans (hB.mono (by omega)))
      have hX4 := hX3.out.next hB
      go_wp2_with fail
      refine (hef _ (hc.next hB4.out) (hd.next hB4.out)).mono ?_; rintro e w4 ⟨v4, rfl, hD4, hb4⟩
      have hX5 := Lib.hid (hX4.next hb4)
      have hB5 := Lib.hid (hB4.out.trans (hb4.mono hB4.out.size))
      have hL4 := Lib.hid (LimM.of hM.out)
      have hM5 := Lib.hid (hM.out.next hb4)
      have hs34 := hb4.size
      have hDv : ∀ d ∈ ds.filter (eff co r), dvB k d = true ∧ Wd d.k := fun d hd => ⟨hO.dv d (List.mem_filter.1 hd).1, hO.wk d (List.mem_filter.1 hd).1⟩
      have hbc : Hid (msF p co k r ds f = fM p co k (ds.filter (eff co r)) f f) := Lib.hid rfl
      have hDl : (ds.filter (eff co r)).length ≤ 40 := Nat.le_trans (List.length_filter_le _ _) hO.len
      obtain ⟨Ad4, cd4, rfl, _⟩ := hD4.form
      clear c0 c1 c2 c3 c4 c5 hltx hb4 hef hM hX4 hX3 hB
      generalize ds.filter (eff co r) = D at *
      have hDH := Lib.hid hD4
      clear hD4 hB3 hB4
      go_wp2
      go_loopw [46] (fun q wr => ∃ (n : Nat) (u : Nat → Nat → Value), n ≤ D.length ∧ q = .int .i64 n ∧ Hid (OM w3.heap.size wr w3.heap.size k k g u (fM p co k (D.take n) f f)) ∧ Hid (LimM W3.heap.size w3.heap.size k g u) ∧ Hid (Mid w3.heap.size W3.heap.size w4 wr)) (fun q _ => D.length - (intOf q).toNat)
      case atStart => exact ⟨0, u, Nat.zero_le _, rfl, hM5, hL4, Lib.hid (Mid.refl _ _ _)⟩
      case round =>
        clear hM5 hL4
        obtain ⟨n, u, hn, rfl, hM, hL, hMid⟩ := hrel
        have hXr := Lib.hid (hMid.out.sx hX5.out hbs)
        have hBr := Lib.hid (hB5.out.trans ((hMid.out.below (by omega)).mono (by omega)))
        have hsr := hMid.out.size
        by_cases hlt : n < D.length
        · have hkN : (n : Int) < D.length := by omega
          obtain ⟨b, off, d, hA, hbl, hdd, d0, d1, d2, d3, d4, d5, d6, d7⟩ := (OD.sd (hMid.out.own hDH.out)).at_ hlt
          subst hA
          obtain ⟨hdv, hdk⟩ := hDv d (List.mem_of_getElem? hdd)
          have hdb : 1 ≤ d.frm ∧ d.frm ≤ k := by unfold dvB at hdv; have := of_decide_eq_true hdv; omega
          obtain ⟨fi, hfi⟩ : ∃ fi : Nat, d.frm = (fi : Int) + 1 := ⟨(d.frm - 1).toNat, by omega⟩
          have hfN : fi < k := by omega
          have hfI : (fi : Int) < k := by omega
          have hNX := Lib.hid (fM_next (p := p) (cor := co) (N := k) (out := f) (M := f) hdd)
          have hok := fM_ok (p := p) hp0 co k f (D.take n) hf
          have heM : eM co d f = eB co d (fun j => f j fi) := by unfold eM eB; rw [hfi]; rw [show ((fi : Int) + 1 - 1).toNat = fi by omega]
          have hx := ech_bd hp0 co d (hf (d.of_ - 1).toNat fi).1
          have hec := fun A' c' => hech d hdv A' c' fi
          have hrc := fun W h => received_any A c k fi f hN13 hfN W h
          have hcn := fun j W => concerns_any d j W
          have hdev := fun l (hl : Okm p l) B u W h => deviated_any p hp d k hdv hdk (eB co d (fun j => f j fi)) hx l hl.1 hl.2 B u W h
          have hDx := Dx.made wr d
          have hB6 := Lib.hid ((Below.refl wr.heap.size wr).alloc (Nat.le_refl _) (.cells #[.int .i64 d.rnd, .int .i64 d.frm, .int .i64 d.to, .int .i64 d.at_, .int .i64 d.kind, .int .u64 d.k, .int .i64 d.of_, .int .i64 d.src] 41))
          have hfi' := Lib.hid hfi
          have hYES := fun (j : Nat) (h : cnc d ((j : Int) + 1) = true) => Lib.hid (stM_yes (p := p) (e := eB co d (fun j => f j fi)) (k := j) (f := fi) (M := fM p co k (D.take n) f f) hfi.symm h)
          have hNO := fun (j : Nat) (h : cnc d ((j : Int) + 1) = false) => Lib.hid (stM_no (p := p) (e := eB co d (fun j => f j fi)) (k := j) (M := fM p co k (D.take n) f f) h)
          rw [heM] at hNX
          unfold dvv at hec hdev hcn
          rw [hfi] at d1 hDx hB6 hec hdev
          simp only [hfi] at hcn
          clear hdd hdb hdv hdk hx hfi heM
          go_wp2
          have hSt : St2 w.heap.size wr.heap.size p k T (.slice Ac co.length cc) (.slice Ad ds.length cd) vt d (wr.alloc (.cells #[.int .i64 d.rnd, .int .i64 ((fi : Int) + 1), .int .i64 d.to, .int .i64 d.at_, .int .i64 d.kind, .int .u64 d.k, .int .i64 d.of_, .int .i64 d.src] 41)).drew :=
            ⟨hXr.out.next hB6.out.drew, hDx.next (Below.refl _ _).drew⟩
          have hB7 := Lib.hid hB6.out.drew
          clear hB6 hDx
          refine wp_region_hold 5 2 (St2 w.heap.size wr.heap.size p k T (.slice Ac co.length cc) (.slice Ad ds.length cd) vt d) (by kernel_rfl) (by kernel_rfl) hSt (fun hInh => ?_)
          simp only [List.take_succ_cons, List.take_zero, List.drop_succ_cons, List.drop_zero]
          have C0 := fun b : Hold (St2 w.heap.size wr.heap.size p k T (.slice Ac co.length cc) (.slice Ad ds.length cd) vt d) => b.ok.sx.c0
          have C1 := fun b : Hold (St2 w.heap.size wr.heap.size p k T (.slice Ac co.length cc) (.slice Ad ds.length cd) vt d) => b.ok.sx.c1
          have C2 := fun b : Hold (St2 w.heap.size wr.heap.size p k T (.slice Ac co.length cc) (.slice Ad ds.length cd) vt d) => b.ok.sx.c2
          have C3 := fun b : Hold (St2 w.heap.size wr.heap.size p k T (.slice Ac co.length cc) (.slice Ad ds.length cd) vt d) => b.ok.sx.c3
          have C4 := fun b : Hold (St2 w.heap.size wr.heap.size p k T (.slice Ac co.length cc) (.slice Ad ds.length cd) vt d) => b.ok.sx.c4
          have C5 := fun b : Hold (St2 w.heap.size wr.heap.size p k T (.slice Ac co.length cc) (.slice Ad ds.length cd) vt d) => b.ok.sx.c5
          have E0 := fun b : Hold (St2 w.heap.size wr.heap.size p k T (.slice Ac co.length cc) (.slice Ad ds.length cd) vt d) => b.ok.dx.d0
          have E1 := fun b : Hold (St2 w.heap.size wr.heap.size p k T (.slice Ac co.length cc) (.slice Ad ds.length cd) vt d) => b.ok.dx.d1
          have E2 := fun b : Hold (St2 w.heap.size wr.heap.size p k T (.slice Ac co.length cc) (.slice Ad ds.length cd) vt d) => b.ok.dx.d2
          have E3 := fun b : Hold (St2 w.heap.size wr.heap.size p k T (.slice Ac co.length cc) (.slice Ad ds.length cd) vt d) => b.ok.dx.d3
          have E4 := fun b : Hold (St2 w.heap.size wr.heap.size p k T (.slice Ac co.length cc) (.slice Ad ds.length cd) vt d) => b.ok.dx.d4
          have E5 := fun b : Hold (St2 w.heap.size wr.heap.size p k T (.slice Ac co.length cc) (.slice Ad ds.length cd) vt d) => b.ok.dx.d5
          have E6 := fun b : Hold (St2 w.heap.size wr.heap.size p k T (.slice Ac co.length cc) (.slice Ad ds.length cd) vt d) => b.ok.dx.d6
          have E7 := fun b : Hold (St2 w.heap.size wr.heap.size p k T (.slice Ac co.length cc) (.slice Ad ds.length cd) vt d) => b.ok.dx.d7
          simp only [hfi'.out] at E1
          repeat (go_big_quiet_step (fail))
          refine wpQuiet_nil ?_
          clear C0 C1 C2 C3 C4 C5 E0 E1 E2 E3 E4 E5 E6 E7
          refine wpListS_step (by rfl) (fun K hK => ?_)
          go_simp
          have hBw := hBr.out.trans (hB7.out.mono hBr.out.size)
          refine (hrc _ (hm.next hBw)).mono ?_; rintro e w6 ⟨x6, rfl, hsf6, hb6⟩
          have hS6 : (St2 w.heap.size wr.heap.size p k T (.slice Ac co.length cc) (.slice Ad ds.length cd) vt d) w6 := ⟨hSt.sx.next hb6, hSt.dx.next hb6⟩
          have hBw6 := hBw.trans (hb6.mono hBw.size)
          have hB8 := hB7.out.trans (hb6.mono hB7.out.size)
          refine hK _ _ hS6 (fun _ => ?_)
          clear hK K hb6 hSt
          refine wpListS_step (by rfl) (fun K hK => ?_)
          go_simp
          refine (hec _ _ _ (hc.next hBw6) hsf6).mono ?_; rintro e w7 ⟨rfl, hb7⟩
          have hS7 : (St2 w.heap.size wr.heap.size p k T (.slice Ac co.length cc) (.slice Ad ds.length cd) vt d) w7 := ⟨hS6.sx.next hb7, hS6.dx.next hb7⟩
          have hB9 := hB8.trans (hb7.mono hB8.size)
          have hM7 := Lib.hid (hM.out.next hB9)
          have hMd7 := Lib.hid (hMid.out.trans (Mid.of hB9))
          have hsz7 := hB9.size
          refine hK _ _ hS7 (fun _ => ?_)
          clear hK K hb7 hS6 hB8 hBw6 hBw hec hrc hM hMid
          refine wpListS_end ?_
          have hhc := hM7.out.hcell hfN
          obtain ⟨c0, c1, c2, c3, c4, c5, hltx⟩ := id hS7.sx
          obtain ⟨e0, e1, e2, e3, e4, e5, e6, e7, hlty⟩ := id hS7.dx
          rw [hfi'.out] at e1
          go_wp2
          refine NoPanic.normal ?_
          go_wp2
          have hbdL : W3.heap.size ≤ wr.heap.size := by omega
          generalize wr.heap.size = bd at *
          generalize fM p co k (D.take n) f f = F at *
          generalize eB co d (fun j => f j fi) = ee at *
          rw [← stM_zero p d ee F] at hM7
          have hBr7 := Lib.hid (hB5.out.trans ((hMd7.out.below (by omega)).mono (by omega)))
          have hw37 : w3.heap.size ≤ w7.heap.size := by have := hM7.out.lt; omega
          clear hXr hBr hhc c0 c1 c2 c3 c4 c5 e0 e1 e2 e3 e4 e5 e6 e7 hltx hlty
          go_loopw [65] (fun q wq => ∃ (j : Nat) (u : Nat → Nat → Value), j ≤ k ∧ q = .int .i64 j ∧ Hid (OM w3.heap.size wq w3.heap.size k k g u (stM p d ee j F)) ∧ Hid (LimM W3.heap.size w3.heap.size k g u) ∧ Hid (Mid w3.heap.size W3.heap.size w7 wq)) (fun q _ => k - (intOf q).toNat)
          case atStart => exact ⟨0, u, Nat.zero_le _, rfl, hM7, hL, Lib.hid (Mid.refl _ _ _)⟩
          case round =>
            clear hM7 hL
            obtain ⟨j, u, hj, rfl, hM, hL, hMq⟩ := hrel
            by_cases hjk : j < k
            · have hjI : (j : Int) < k := by omega
              have hSq := hMq.out.sx hS7.sx hbs
              have hDq := hMq.out.dx hS7.dx hbdL
              have hhc := hM.out.cell hfN hjk
              obtain ⟨e0, e1, e2, e3, e4, e5, e6, e7, hlty⟩ := id hDq
              rw [hfi'.out] at e1
              have hcj := hcn ((j : Int) + 1)
              cases hq : cnc d ((j : Int) + 1) with
              | false =>
                rw [hq] at hcj
                have hno := hNO j hq
                go_wp2_with fail
                refine (hcj _).mono ?_; rintro e w8 ⟨rfl, hb8⟩
                go_wp2_with fail
                go_roundw
                case rel => exact ⟨j + 1, u, by omega, by simp, by rw [hno.out]; exact Lib.hid (hM.out.next hb8), hL, Lib.hid (hMq.out.trans (Mid.of hb8))⟩
                case measure => simp [intOf]; omega
              | true =>
                rw [hq] at hcj
                have hyes := hYES j hq
                have hFj := hok fi j
                have hdv := hdev (F fi j) hFj w3.heap.size (u fi j)
                go_wp2_with fail
                refine (hcj _).mono ?_; rintro e w8 ⟨rfl, hb8⟩
                have hM8 := hM.out.next hb8
                have hrow8 := hM8.row fi j hfN hjk
                rw [stM_at] at hrow8
                have hS8 := hSq.next hb8
                have hD8 := hDq.next hb8
                have hMd8 := Lib.hid (hMq.out.trans (Mid.of hb8))
                clear e0 e1 e2 e3 e4 e5 e6 e7 hlty hb8 hhc hSq hDq hcj
                obtain ⟨c0, c1, c2, c3, c4, c5, hltx⟩ := id hS8
                obtain ⟨e0, e1, e2, e3, e4, e5, e6, e7, hlty⟩ := id hD8
                rw [hfi'.out] at e1
                go_wp2_with fail
                refine (hdv _ hrow8).mono ?_; rintro e w9 ⟨v, rfl, hown, hg9, hv9⟩
                have hub : ∀ e, (u fi j).ownBlock = some e → w3.heap.size ≤ e ∧ e < W3.heap.size := fun e he => ⟨(hM8.ult hfN hjk e he).1, hL.out.u fi j hfN hjk e he⟩
                have hMd9 : Mid w3.heap.size W3.heap.size w8 w9 := Mid.grown hg9 hub
                have hcell9 := (hM8.hkeep hfN hjk hg9 hfN j).1.trans (hM8.cell hfN hjk)
                have hfz9 := (hM8.hkeep hfN hjk hg9 hfN j).2
                have hMn := Lib.hid (hM8.lay hfN hjk hg9 (.inr rfl) hown (fun e he => .inr (hv9 e he)))
                rw [← hyes.out] at hMn
                have hLn := Lib.hid (hL.out.put hfN hjk hv9)
                obtain ⟨A2, c2', rfl, _⟩ := own_form hown
                have hMdn := Lib.hid ((hMd8.out.trans hMd9).trans (Mid.setCell w9 (p := ⟨g fi, j, none⟩) (hM8.glt hfN).1 (hL.out.g fi hfN) (.slice A2 (told p d (F fi j) ee).length c2')))
                generalize told p d (F fi j) ee = rr at *
                clear hown hg9 hv9 hS8 hD8 hM8 hMd9 hub hdv c0 c1 c2 c3 c4 c5 e0 e1 e2 e3 e4 e5 e6 e7 hltx hlty hM
                go_wp2_with fail
                go_roundw
                case rel => exact ⟨j + 1, _, by omega, by simp, hMn, hLn, hMdn⟩
                case measure => simp [intOf]; omega
            · obtain rfl : j = k := by omega
              go_wp2
              go_roundw
              case rel => exact ⟨n + 1, u, by omega, by simp, by rw [hNX.out]; exact hM, hL, Lib.hid (hMd7.out.trans hMq.out)⟩
              case measure => simp [intOf]; omega
        · obtain rfl : n = D.length := by omega
          go_wp2
          go_ret
          have hM' := hM.out
          rw [List.take_length, ← hbc.out] at hM'
          exact ⟨_, _, rfl, hM'.s2, hBr.out⟩
end Go.Proofs.Ytbhphamfkhccpaa
