/- ApplyToBroadcasts of package adversary. Conditions: a valid scenario but for its tapes, at most 40 deviations, messages of at most 20 words over the field. -/
import Derived.Test.YtbhphamfkhccpaaAdEff
import Derived.Test.YtbhphamfkhccpaaAdHold
namespace Go.Proofs.Ytbhphamfkhccpaa
set_option maxRecDepth 100000
open Go.RowKit PolyMath FieldMath PartyMath

theorem Mid.sx {B L : Nat} {w w' : World} (h : Mid B L w w') {b : Nat} {p n t : Int} {vc vd vt : Value} (hs : Sx w b p n t vc vd vt) (hb : b < B) : Sx w' b p n t vc vd vt := by
  have k : ∀ o, w'.cell? ⟨b, o, none⟩ = w.cell? ⟨b, o, none⟩ := fun o => World.cell?_of_block (w := w) (h.block b hs.lt (.inl hb))
  exact ⟨(k 0).trans hs.c0, (k 1).trans hs.c1, (k 2).trans hs.c2, (k 3).trans hs.c3, (k 4).trans hs.c4, (k 5).trans hs.c5, Nat.lt_of_lt_of_le hs.lt h.size⟩
theorem ech_bd {p : Int} (hp : 0 < p) (cor : List Int) (d : Dv) {l : List Int} (h : El p l) : 0 ≤ ech cor d l ∧ ech cor d l < p := by
  unfold ech
  split
  · exact el_co hp h _
  · omega
/-- All blocks of a list of messages lie below L. -/
structure LimB (L g N : Nat) (u : Nat → Value) : Prop where
  g : g < L
  u : ∀ i, i < N → ∀ e, (u i).ownBlock = some e → e < L
theorem LimB.of {B : Nat} {w : World} {g N : Nat} {u : Nat → Value} {f : Nat → List Int} (h : OF B w g N u f) : LimB w.heap.size g N u :=
  ⟨h.lt.2, fun i hi e he => (World.ownsRow.lt (h.row i hi) e he).2⟩
theorem LimB.put {L g N k : Nat} {u : Nat → Value} {v : Value} (h : LimB L g N u) (hk : k < N) (hv : ∀ e, v.ownBlock = some e → (u k).ownBlock = some e) : LimB L g N (up u k v) :=
  ⟨h.g, fun i hi e he => by
    by_cases q : i = k
    · subst q; rw [up_at] at he; exact h.u i hi e (hv e he)
    · rw [up_else _ _ q] at he; exact h.u i hi e he⟩
theorem OF.hkeep {B : Nat} {w w' : World} {g N k : Nat} {u : Nat → Value} {f : Nat → List Int} (h : OF B w g N u f) (hk : k < N) (hg : w.grownBy w' (u k).ownBlock) (i : Nat) : w'.cell? ⟨g, i, none⟩ = w.cell? ⟨g, i, none⟩ ∧ w'.frozen? ⟨g, i, none⟩ = false := by
  have hne : some g ≠ (u k).ownBlock := by
    rcases ne_row h.head (h.row k hk) (by decide) with q | q
    · cases q
    · exact q
  have hb := hg.block g h.lt.2 hne
  exact ⟨World.cell?_of_block (w := w) hb, (World.frozen?_of_block (w := w) hb).trans (World.ownsRow.frozenAt h.head i)⟩
/-- What stands while one deviation is applied. -/
structure St1 (bs bd g i : Nat) (p n t : Int) (vc vd vt : Value) (d : Dv) (u : Value) (w : World) : Prop where
  sx : Sx w bs p n t vc vd vt
  dx : Dx w bd d
  hd : w.cell? ⟨g, i, none⟩ = some u

set_option maxHeartbeats 8000000 in
theorem bc_any (p : Int) (N T : Nat) (Ac Ad : Option Addr) (cc cd : Nat) (co : List Int) (ds : List Dv) (vt : Value) (r : Int) (hO : Ok13 p N T co ds) (A : Option Addr) (c : Nat) (f : Nat → List Int) (hf : Fin1 p f)
    (w : World) (hc : Si w Ac cc co) (hd : Sd w Ad cd ds) (hm : Sf w A c N f) :
    Calls Try.prog 16 #[sv p N T (.slice Ac co.length cc) (.slice Ad ds.length cd) vt, .int .i64 r, .slice A N c] w fun e w' => ∃ A' c', e = .returned (.slice A' N c') ∧ Sf w' A' c' N (bcF p co r ds f) ∧ Below w.heap.size w w' := by
  have hN13 := hO.coal.n13
  have hN' : (N : Int) ≤ 13 := by omega
  have hp := hO.coal.ok
  have hpb := hp.bd
  have hp0 : 0 < p := by omega
  have hiF := fun W h1 h2 => isFor_any p N T Ac Ad cc cd co ds vt hO W h1 h2
  have hcl := fun W h => cloned_any A c N f hN13 (fun i => (hf i).2) W h
  have hef := fun W h1 h2 => effective_any p N T Ac Ad cc cd co ds vt r hO.coal.l1000 (by have := hO.len; omega) W h1 h2
  have hech := fun d (hd : dvB N d = true) W h1 h2 => echoed_any p N T Ac cc co (.slice Ad ds.length cd) vt d N hd hN13 hO.coal.l1000 A c f (fun i => (hf i).2) W h1 h2
  have hX1 := Sx.made w p N T (.slice Ac co.length cc) (.slice Ad ds.length cd) vt
  have hB1 := (Below.refl _ w).alloc (Nat.le_refl _) (.cells #[.int .u64 p, .int .i64 N, .int .i64 T, .slice Ac co.length cc, .slice Ad ds.length cd, vt] 29)
  unfold sv at hiF hef hech ⊢
  go_enter Try.func16, Try.ntmps16
  go_wp2_with fail
  refine (hiF _ (hc.next hB1) (hd.next hB1)).mono ?_; rintro e w2 ⟨rfl, hb2⟩
  have hX2 := hX1.next hb2
  have hB2 := Lib.hid (hB1.trans (hb2.mono hB1.size))
  clear hX1 hB1 hb2 hiF
  go_wp2_with fail
  refine (hcl _ (hm.next hB2.out)).mono ?_; rintro e w3 ⟨g, u0, rfl, hM3, hb3⟩
  have hX3 := Lib.hid (hX2.next hb3)
  have hB3 := Lib.hid (hB2.out.trans (hb3.mono hB2.out.size))
  have hbs : w.heap.size < w2.heap.size := hX2.lt
  obtain ⟨c0, c1, c2, c3, c4, c5, hlt⟩ := id hX3.out
  clear hX2 hb3 hcl
  go_wp2_with fail
  refine (hef _ (hc.next hB3.out) (hd.next hB3.out)).mono ?_; rintro e w4 ⟨v4, rfl, hD4, hb4⟩
  have hX4 := Lib.hid (hX3.out.next hb4)
  have hB4 := Lib.hid (hB3.out.trans (hb4.mono hB3.out.size))
  have hL4 := LimB.of hM3
  have hM4 := Lib.hid (hM3.next hb4)
  have hs23 : w2.heap.size ≤ w3.heap.size := by have := hM3.lt; omega
  have hs34 := hb4.size
  have hDv : ∀ d ∈ ds.filter (eff co r), dvB N d = true ∧ Wd d.k := fun d hd => ⟨hO.dv d (List.mem_filter.1 hd).1, hO.wk d (List.mem_filter.1 hd).1⟩
  have hDl : (ds.filter (eff co r)).length ≤ 40 := Nat.le_trans (List.length_filter_le _ _) hO.len
  have hbc : Hid (bcF p co r ds f = fB p co (ds.filter (eff co r)) f f) := Lib.hid rfl
  obtain ⟨Ad4, cd4, rfl, _⟩ := hD4.form
  clear c0 c1 c2 c3 c4 c5 hlt hb4 hef hM3 hX3
  generalize ds.filter (eff co r) = D at *
  have hDH := Lib.hid hD4
  have hLH := Lib.hid hL4
  clear hD4 hL4
  go_wp2
  go_loopw [22] (fun q wr => ∃ (k : Nat) (u : Nat → Value), k ≤ D.length ∧ q = .int .i64 k ∧ Hid (OF w2.heap.size wr g N u (fB p co (D.take k) f f)) ∧ Hid (LimB w3.heap.size g N u) ∧ Hid (Mid w2.heap.size w3.heap.size w4 wr)) (fun q _ => D.length - (intOf q).toNat)
  case atStart => exact ⟨0, u0, Nat.zero_le _, rfl, hM4, hLH, Lib.hid (Mid.refl _ _ _)⟩
  case round =>
    obtain ⟨k, u, hk, rfl, hM, hL, hMid⟩ := hrel
    have hXr := Lib.hid (hMid.out.sx hX4.out hbs)
    have hBr := Lib.hid (hB4.out.trans ((hMid.out.below (by omega)).mono (by omega)))
    have hsr := hMid.out.size
    by_cases hlt : k < D.length
    · have hkN : (k : Int) < D.length := by omega
      obtain ⟨b, off, d, hA, hbl, hdd, d0, d1, d2, d3, d4, d5, d6, d7⟩ := (OD.sd (hMid.out.own hDH.out)).at_ hlt
      subst hA
      obtain ⟨hdv, hdk⟩ := hDv d (List.mem_of_getElem? hdd)
      have hdb : 1 ≤ d.frm ∧ d.frm ≤ N := by unfold dvB at hdv; have := of_decide_eq_true hdv; omega
      obtain ⟨fi, hfi⟩ : ∃ fi : Nat, d.frm = (fi : Int) + 1 := ⟨(d.frm - 1).toNat, by omega⟩
      have hfN : fi < N := by omega
      have hfI : (fi : Int) < N := by omega
      have hNX := Lib.hid ((fB_next (p := p) (cor := co) (out := f) (M := f) hdd).trans (stB_up hfi.symm))
      have hok := fB_ok (p := p) hp0 co f (D.take k) hf
      have hx := ech_bd hp0 co d (hf (d.of_ - 1).toNat).1
      have hec := hech d hdv
      have hdev := fun W h => deviated_any p hp d N hdv hdk (eB co d f) hx (fB p co (D.take k) f f fi) (hok fi).1 (hok fi).2 w2.heap.size (u fi) W h
      have hDx := Dx.made wr d
      have hB5 := Lib.hid ((Below.refl wr.heap.size wr).alloc (Nat.le_refl _) (.cells #[.int .i64 d.rnd, .int .i64 d.frm, .int .i64 d.to, .int .i64 d.at_, .int .i64 d.kind, .int .u64 d.k, .int .i64 d.of_, .int .i64 d.src] 41))
      unfold dvv at hec hdev
      rw [hfi] at d1 hDx hB5 hec hdev
      have hfi' := Lib.hid hfi
      clear hdd hdb hdv hdk hok hx hfi
      go_wp2
      have hSt : St1 w.heap.size wr.heap.size g fi p N T (.slice Ac co.length cc) (.slice Ad ds.length cd) vt d (u fi) (wr.alloc (.cells #[.int .i64 d.rnd, .int .i64 ((fi : Int) + 1), .int .i64 d.to, .int .i64 d.at_, .int .i64 d.kind, .int .u64 d.k, .int .i64 d.of_, .int .i64 d.src] 41)).drew :=
        ⟨hXr.out.next hB5.out.drew, hDx.next (Below.refl _ _).drew, (hB5.out.drew.cell (p := ⟨g, fi, none⟩) hM.out.lt.2).trans (hM.out.cell hfN)⟩
      have hB6 := Lib.hid hB5.out.drew
      clear hB5 hDx
      refine wp_region_hold 13 2 (St1 w.heap.size wr.heap.size g fi p N T (.slice Ac co.length cc) (.slice Ad ds.length cd) vt d (u fi)) (by kernel_rfl) (by kernel_rfl) hSt (fun hInh => ?_)
      simp only [List.take_succ_cons, List.take_zero, List.drop_succ_cons, List.drop_zero]
      have C0 := fun b : Hold (St1 w.heap.size wr.heap.size g fi p N T (.slice Ac co.length cc) (.slice Ad ds.length cd) vt d (u fi)) => b.ok.sx.c0
      have C1 := fun b : Hold (St1 w.heap.size wr.heap.size g fi p N T (.slice Ac co.length cc) (.slice Ad ds.length cd) vt d (u fi)) => b.ok.sx.c1
      have C2 := fun b : Hold (St1 w.heap.size wr.heap.size g fi p N T (.slice Ac co.length cc) (.slice Ad ds.length cd) vt d (u fi)) => b.ok.sx.c2
      have C3 := fun b : Hold (St1 w.heap.size wr.heap.size g fi p N T (.slice Ac co.length cc) (.slice Ad ds.length cd) vt d (u fi)) => b.ok.sx.c3
      have C4 := fun b : Hold (St1 w.heap.size wr.heap.size g fi p N T (.slice Ac co.length cc) (.slice Ad ds.length cd) vt d (u fi)) => b.ok.sx.c4
      have C5 := fun b : Hold (St1 w.heap.size wr.heap.size g fi p N T (.slice Ac co.length cc) (.slice Ad ds.length cd) vt d (u fi)) => b.ok.sx.c5
      have E0 := fun b : Hold (St1 w.heap.size wr.heap.size g fi p N T (.slice Ac co.length cc) (.slice Ad ds.length cd) vt d (u fi)) => b.ok.dx.d0
      have E1 := fun b : Hold (St1 w.heap.size wr.heap.size g fi p N T (.slice Ac co.length cc) (.slice Ad ds.length cd) vt d (u fi)) => b.ok.dx.d1
      have E2 := fun b : Hold (St1 w.heap.size wr.heap.size g fi p N T (.slice Ac co.length cc) (.slice Ad ds.length cd) vt d (u fi)) => b.ok.dx.d2
      have E3 := fun b : Hold (St1 w.heap.size wr.heap.size g fi p N T (.slice Ac co.length cc) (.slice Ad ds.length cd) vt d (u fi)) => b.ok.dx.d3
      have E4 := fun b : Hold (St1 w.heap.size wr.heap.size g fi p N T (.slice Ac co.length cc) (.slice Ad ds.length cd) vt d (u fi)) => b.ok.dx.d4
      have E5 := fun b : Hold (St1 w.heap.size wr.heap.size g fi p N T (.slice Ac co.length cc) (.slice Ad ds.length cd) vt d (u fi)) => b.ok.dx.d5
      have E6 := fun b : Hold (St1 w.heap.size wr.heap.size g fi p N T (.slice Ac co.length cc) (.slice Ad ds.length cd) vt d (u fi)) => b.ok.dx.d6
      have E7 := fun b : Hold (St1 w.heap.size wr.heap.size g fi p N T (.slice Ac co.length cc) (.slice Ad ds.length cd) vt d (u fi)) => b.ok.dx.d7
      have EH := fun b : Hold (St1 w.heap.size wr.heap.size g fi p N T (.slice Ac co.length cc) (.slice Ad ds.length cd) vt d (u fi)) => b.ok.hd
      simp only [hfi'.out] at E1
      repeat (go_big_quiet_step (fail))
      refine wpQuiet_nil ?_
      clear C0 C1 C2 C3 C4 C5 E0 E1 E2 E3 E4 E5 E6 E7 EH
      refine wpListS_step (by rfl) (fun K hK => ?_)
      go_simp
      have hBw := hBr.out.trans (hB6.out.mono hBr.out.size)
      refine (hec _ (hc.next hBw) (hm.next hBw)).mono ?_; rintro e w6 ⟨rfl, hb6⟩
      have hM6 := hM.out.next (hB6.out.trans (hb6.mono hB6.out.size))
      have hS6 : St1 w.heap.size wr.heap.size g fi p N T (.slice Ac co.length cc) (.slice Ad ds.length cd) vt d (u fi) w6 := ⟨hSt.sx.next hb6, hSt.dx.next hb6, (hb6.cell (p := ⟨g, fi, none⟩) (Nat.lt_of_lt_of_le hM.out.lt.2 hB6.out.size)).trans hSt.hd⟩
      have hMd6 := Lib.hid (hMid.out.trans (Mid.of (hB6.out.trans (hb6.mono hB6.out.size))))
      have hsz6 := Nat.le_trans hB6.out.size hb6.size
      refine hK _ _ hS6 (fun _ => ?_)
      clear hK K hb6 hSt
      refine wpListS_step (by rfl) (fun K hK => ?_)
      go_simp
      refine (hdev _ (hM6.row fi hfN)).mono ?_; rintro e w7 ⟨v, rfl, hown, hg7, hv7⟩
      have hub : ∀ e, (u fi).ownBlock = some e → w2.heap.size ≤ e ∧ e < w3.heap.size := fun e he => ⟨(World.ownsRow.lt (hM6.row fi hfN) e he).1, hL.out.u fi hfN e he⟩
      have hMd67 : Mid w2.heap.size w3.heap.size w6 w7 := Mid.grown hg7 hub
      have hS7 : St1 w.heap.size wr.heap.size g fi p N T (.slice Ac co.length cc) (.slice Ad ds.length cd) vt d (u fi) w7 := ⟨hMd67.sx hS6.sx hbs, hMd67.dx hS6.dx (by omega), (hM6.hkeep hfN hg7 fi).1.trans hS6.hd⟩
      refine hK _ _ hS7 (fun _ => ?_)
      clear hK K
      refine wpListS_end ?_
      have hcell7 := hS7.hd
      have hfz7 := (hM6.hkeep hfN hg7 fi).2
      have hMn := Lib.hid (hM6.lay hfN hg7 (.inr rfl) hown (fun e he => .inr (hv7 e he)))
      rw [← hNX.out] at hMn
      have hLn := Lib.hid (hL.out.put hfN hv7)
      obtain ⟨A2, c2, rfl, _⟩ := own_form hown
      have hMdn := Lib.hid ((hMd6.out.trans hMd67).trans (Mid.setCell w7 (p := ⟨g, fi, none⟩) (World.ownsRow.lt hM6.head g rfl).1 hL.out.g (.slice A2 (told p d (fB p co (D.take k) f f fi) (eB co d f)).length c2)))
      generalize told p d (fB p co (D.take k) f f fi) (eB co d f) = rr at *
      clear hown hg7 hv7 hS7 hS6 hM6 hMd67 hub hec hdev
      go_wp2
      refine NoPanic.normal ?_
      go_wp2
      go_roundw
      case rel => exact ⟨k + 1, _, by omega, by simp, hMn, hLn, hMdn⟩
      case measure => simp [intOf]; omega
    · obtain rfl : k = D.length := by omega
      go_wp2
      go_ret
      have hM' := hM.out
      rw [List.take_length, ← hbc.out] at hM'
      exact ⟨_, _, rfl, hM'.sf, hBr.out⟩
end Go.Proofs.Ytbhphamfkhccpaa
