/- ValidScenario of package params and of the reference of layer 12. Nothing that lay is changed. Conditions: at most 1000 numbers, deviations, tapes, words of a tape. -/
import Derived.Test.YtbhphamfkhccpaaFScn
import Derived.Test.YtbhphamfkhccpaaVQuiet
namespace Go.Proofs.Ytbhphamfkhccpaa
set_option maxRecDepth 100000
open Go.RowKit PolyMath FieldMath PartyMath

theorem quiet_same {P : Program} {f : FuncId} {args : Array Value} {w : World} {a n : Nat} {v : Value} (h : Calls P f args (w.drewN (a + n)) fun e w' => e = .returned v ∧ w.drewN (a + n) = w') : Calls P f args (w.drewN (a + n)) fun e w'' => e = .returned v ∧ ∃ m, w'' = w.drewN (a + m) :=
  h.mono fun _ _ ⟨he, hw⟩ => ⟨he, n, hw.symm⟩
/-- Whether a scenario is valid. -/
def scB (p n t : Int) (co : List Int) (ds : List Dv) (ts : List (List Int)) : Bool := vC p n t co && (ds.all (dvB n) && tpB p n ts)
/-- A scenario that lies in a box. -/
structure Sx (w : World) (b : Nat) (p n t : Int) (vc vd vt : Value) : Prop where
  c0 : w.cell? ⟨b, 0, none⟩ = some (.int .u64 p)
  c1 : w.cell? ⟨b, 1, none⟩ = some (.int .i64 n)
  c2 : w.cell? ⟨b, 2, none⟩ = some (.int .i64 t)
  c3 : w.cell? ⟨b, 3, none⟩ = some vc
  c4 : w.cell? ⟨b, 4, none⟩ = some vd
  c5 : w.cell? ⟨b, 5, none⟩ = some vt
  lt : b < w.heap.size
theorem Sx.made (w : World) (p n t : Int) (vc vd vt : Value) : Sx (w.alloc (.cells #[.int .u64 p, .int .i64 n, .int .i64 t, vc, vd, vt] 29)) w.heap.size p n t vc vd vt := by
  refine ⟨?_, ?_, ?_, ?_, ?_, ?_, by simp⟩
  all_goals go_simp
theorem Sx.next {w w' : World} {b : Nat} {p n t : Int} {vc vd vt : Value} (h : Sx w b p n t vc vd vt) (hb : Below w.heap.size w w') : Sx w' b p n t vc vd vt :=
  ⟨(hb.cell h.lt).trans h.c0, (hb.cell h.lt).trans h.c1, (hb.cell h.lt).trans h.c2, (hb.cell h.lt).trans h.c3, (hb.cell h.lt).trans h.c4, (hb.cell h.lt).trans h.c5, Nat.lt_of_lt_of_le h.lt hb.size⟩
/-- The three slices of a scenario, as they lie. -/
structure Lie (w : World) (Ac Ad At : Option Addr) (cc cd ct : Nat) (co : List Int) (ds : List Dv) (ts : List (List Int)) : Prop where
  co : Si w Ac cc co
  ds : Sd w Ad cd ds
  ts : Sll w At ct ts
theorem Lie.next {w w' : World} {Ac Ad At : Option Addr} {cc cd ct : Nat} {co : List Int} {ds : List Dv} {ts : List (List Int)} (h : Lie w Ac Ad At cc cd ct co ds ts) (hb : Below w.heap.size w w') : Lie w' Ac Ad At cc cd ct co ds ts := ⟨h.co.next hb, h.ds.next hb, h.ts.next hb⟩
/-- A scenario within the bounds. -/
structure Fit (n t : Int) (co : List Int) (ds : List Dv) (ts : List (List Int)) : Prop where
  wn : Wi n
  wt : Wi t
  nums : Nums co
  lds : ds.length ≤ 9223372036854775807
  lts : ts.length ≤ 9223372036854775807
  lws : ∀ r ∈ ts, r.length ≤ 9223372036854775807
/-- A scenario as a value. -/
def sv (p n t : Int) (vc vd vt : Value) : Value := .agg #[.int .u64 p, .int .i64 n, .int .i64 t, vc, vd, vt]

set_option maxHeartbeats 1000000 in
theorem scen_any (p n t : Int) (Ac Ad At : Option Addr) (cc cd ct : Nat) (co : List Int) (ds : List Dv) (ts : List (List Int)) (hF : Fit n t co ds ts) (hco : co.length ≤ 1000) (hdl : ds.length ≤ 1000) (htl : ts.length ≤ 1000) (hwl : ∀ r ∈ ts, r.length ≤ 1000) (w : World) (h : Lie w Ac Ad At cc cd ct co ds ts) :
    Calls Try.prog 37 #[sv p n t (.slice Ac co.length cc) (.slice Ad ds.length cd) (.slice At ts.length ct)] w fun e w' => e = .returned (.bool (scB p n t co ds ts)) ∧ Below w.heap.size w w' := by
  have hB1 := Lib.hid ((Below.refl _ w).alloc (Nat.le_refl _) (.cells #[.int .u64 p, .int .i64 n, .int .i64 t, .slice Ac co.length cc, .slice Ad ds.length cd, .slice At ts.length ct] 29))
  have hX1 := Lib.hid (Sx.made w p n t (.slice Ac co.length cc) (.slice Ad ds.length cd) (.slice At ts.length ct))
  have hS1 := h.next hB1.out
  have hv := coal_any p n t hF.wn hF.wt Ac cc co hco hF.nums _ hS1.co
  have hd := fun W (hs : Sd W Ad cd ds) => devs_any p n t Ad cd ds hdl W hs
  have ht := fun W (hs : Sll W At ct ts) => tapes_any p n t At ct ts htl hwl W hs
  unfold pv at hv hd ht
  unfold sv
  cases h1 : vC p n t co with
  | false =>
    have e : scB p n t co ds ts = false := by unfold scB; rw [h1]; rfl
    rw [e]
    rw [h1] at hv
    go_enter Try.func37, Try.ntmps37
    go_wp2_with fail
    refine hv.mono ?_; rintro e w1 ⟨rfl, hb⟩
    go_wp2_with fail
    go_ret
    exact ⟨rfl, hB1.out.trans (hb.mono (by simp))⟩
  | true =>
    rw [h1] at hv
    cases h2 : ds.all (dvB n) with
    | false =>
      have e : scB p n t co ds ts = false := by unfold scB; rw [h1, h2]; rfl
      rw [e]
      rw [h2] at hd
      go_enter Try.func37, Try.ntmps37
      go_wp2_with fail
      refine hv.mono ?_; rintro e w1 ⟨rfl, hb⟩
      obtain ⟨c0, c1, c2, c3, c4, c5, hlt⟩ := hX1.out.next hb
      have hB2 := Lib.hid (hB1.out.trans (hb.mono (by simp)))
      have hS2 := hS1.next hb
      clear hb hS1
      go_wp2_with fail
      refine (hd _ hS2.ds).mono ?_; rintro e w2 ⟨rfl, hb⟩
      go_wp2_with fail
      go_ret
      exact ⟨rfl, hB2.out.trans (hb.mono hB2.out.size)⟩
    | true =>
      have e : scB p n t co ds ts = tpB p n ts := by unfold scB; rw [h1, h2]; rfl
      rw [e]
      rw [h2] at hd
      go_enter Try.func37, Try.ntmps37
      go_wp2_with fail
      refine hv.mono ?_; rintro e w1 ⟨rfl, hb⟩
      have hX2 := hX1.out.next hb
      have hX2' := hX2
      obtain ⟨c0, c1, c2, c3, c4, c5, hlt⟩ := hX2'
      have hB2 := Lib.hid (hB1.out.trans (hb.mono (by simp)))
      have hS2 := hS1.next hb
      clear hb hS1
      go_wp2_with fail
      refine (hd _ hS2.ds).mono ?_; rintro e w2 ⟨rfl, hb⟩
      obtain ⟨d0, d1, d2, d3, d4, d5, hlt2⟩ := hX2.next hb
      have hB3 := Lib.hid (hB2.out.trans (hb.mono hB2.out.size))
      have hS3 := hS2.next hb
      clear hb hS2 c0 c1 c2 c3 c4 c5
      go_wp2_with fail
      refine (ht _ hS3.ts).mono ?_; rintro e w3 ⟨rfl, hb⟩
      go_wp2_with fail
      go_ret
      exact ⟨rfl, hB3.out.trans (hb.mono hB3.out.size)⟩

set_option maxHeartbeats 4000000 in
theorem rScen_any (p n t : Int) (hp : Wd p) (Ac Ad At : Option Addr) (cc cd ct : Nat) (co : List Int) (ds : List Dv) (ts : List (List Int)) (hF : Fit n t co ds ts) (w : World) (h : Lie w Ac Ad At cc cd ct co ds ts) :
    Calls Try.prog 19 #[sv p n t (.slice Ac co.length cc) (.slice Ad ds.length cd) (.slice At ts.length ct)] w fun e w' => e = .returned (.bool (scB p n t co ds ts)) ∧ Below w.heap.size w w' := by
  have hB1 := Lib.hid ((Below.refl _ w).alloc (Nat.le_refl _) (.cells #[.int .u64 p, .int .i64 n, .int .i64 t, .slice Ac co.length cc, .slice Ad ds.length cd, .slice At ts.length ct] 29))
  have hX1 := Lib.hid (Sx.made w p n t (.slice Ac co.length cc) (.slice Ad ds.length cd) (.slice At ts.length ct))
  have hS1 := h.next hB1.out
  have hva := fun W => rValid_any p n t hp hF.wn W
  have hv := fun W (hs : Si W Ac cc co) => rCoal_any p n t hp hF.wn hF.wt Ac cc co hF.nums W hs
  have hdl := hF.lds
  have htl := hF.lts
  unfold pv at hva hv
  unfold sv
  cases h0 : vS p n t with
  | false =>
    have e : scB p n t co ds ts = false := by unfold scB vC; rw [h0]; rfl
    rw [e]
    rw [h0] at hva
    go_enter Try.func19, Try.ntmps19
    go_wp2_with fail
    refine (hva _).mono ?_; rintro e w1 ⟨rfl, hb⟩
    go_wp2_with fail
    go_ret
    exact ⟨rfl, hB1.out.trans (hb.mono (by simp))⟩
  | true =>
    rw [h0] at hva
    cases h1 : vC p n t co with
    | false =>
      have e : scB p n t co ds ts = false := by unfold scB; rw [h1]; rfl
      rw [e]
      rw [h1] at hv
      go_enter Try.func19, Try.ntmps19
      go_wp2_with fail
      refine (hva _).mono ?_; rintro e w1 ⟨rfl, hb⟩
      obtain ⟨c0, c1, c2, c3, c4, c5, hlt⟩ := hX1.out.next hb
      have hB2 := Lib.hid (hB1.out.trans (hb.mono (by simp)))
      have hS2 := hS1.next hb
      clear hb hS1
      go_wp2_with fail
      refine (hv _ hS2.co).mono ?_; rintro e w2 ⟨rfl, hb⟩
      go_wp2_with fail
      go_ret
      exact ⟨rfl, hB2.out.trans (hb.mono hB2.out.size)⟩
    | true =>
      rw [h1] at hv
      by_cases h2 : (ts.length : Int) = n
      case neg =>
        have e : scB p n t co ds ts = false := by unfold scB tpB; rw [decide_eq_false h2]; simp
        rw [e]
        have h2' : ((ts.length : Int) != n) = true := bne_iff_ne.2 h2
        clear h2
        go_enter Try.func19, Try.ntmps19
        go_wp2_with fail
        refine (hva _).mono ?_; rintro e w1 ⟨rfl, hb⟩
        have hX2 := hX1.out.next hb
        have hX2' := hX2
        obtain ⟨c0, c1, c2, c3, c4, c5, hlt⟩ := hX2'
        have hB2 := Lib.hid (hB1.out.trans (hb.mono (by simp)))
        have hS2 := hS1.next hb
        clear hb hS1
        go_wp2_with fail
        refine (hv _ hS2.co).mono ?_; rintro e w2 ⟨rfl, hb⟩
        obtain ⟨d0, d1, d2, d3, d4, d5, hlt2⟩ := hX2.next hb
        go_wp2_with fail
        go_ret
        exact ⟨rfl, hB2.out.trans (hb.mono hB2.out.size)⟩
      have e : scB p n t co ds ts = (ds.all (dvB n) && ts.all (lessB p)) := by unfold scB tpB; rw [h1, decide_eq_true h2]; rfl
      rw [e]
      have h2' : ((ts.length : Int) != n) = false := by rw [bne_eq_false_iff_eq]; exact h2
      have hne : Hid ((ts.length : Int) = n) := Lib.hid h2
      clear h2 e
      go_enter Try.func19, Try.ntmps19
      go_wp2_with fail
      refine (hva _).mono ?_; rintro e w1 ⟨rfl, hb⟩
      have hX2 := hX1.out.next hb
      have hX2' := hX2
      obtain ⟨c0, c1, c2, c3, c4, c5, hlt⟩ := hX2'
      have hB2 := Lib.hid (hB1.out.trans (hb.mono (by simp)))
      have hS2 := hS1.next hb
      clear hb hS1
      go_wp2_with fail
      refine (hv _ hS2.co).mono ?_; rintro e w2 ⟨rfl, hb⟩
      have hX3 := Lib.hid (hX2.next hb)
      obtain ⟨d0, d1, d2, d3, d4, d5, hlt2⟩ := hX3.out
      have hB3 := Lib.hid (hB2.out.trans (hb.mono hB2.out.size))
      have hS3 := hS2.next hb
      clear hb hS2 hX2 c0 c1 c2 c3 c4 c5 hlt
      go_wp2
      clear d0 d1 d2 d3 d4 d5 hlt2
      go_loopw [3] (fun i wr => ∃ k : Nat, k ≤ ds.length ∧ i = .int .i64 k ∧ Hid ((ds.take k).all (dvB n) = true) ∧ Below w2.heap.size w2 wr) (fun i _ => ds.length - (intOf i).toNat)
      case atStart => exact ⟨0, Nat.zero_le _, rfl, Lib.hid (by simp), Below.refl _ _⟩
      case round =>
        obtain ⟨k, hk, rfl, hE, hb⟩ := hrel
        have hXr := hX3.out.next hb
        by_cases hlt : k < ds.length
        · obtain ⟨b, off, d, hA, hbl, hd, _⟩ := (hS3.ds.next hb).at_ hlt
          subst hA
          have hkN : (k : Int) < ds.length := by omega
          have hbs : ∀ b : Beyond wr, Calls Try.prog 35 #[pv p n t, dvv d] b.W fun e w'' => e = .returned (.bool (dvB n d)) ∧ ∃ b' : Beyond wr, w'' = b'.W := fun b => b.of (rDev_any p n t d b.W)
          unfold pv dvv at hbs
          obtain ⟨c0, c1, c2, c3, c4, c5, hltr⟩ := hXr
          have C0 := fun b : Beyond wr => (b.below.cell (p := ⟨w.heap.size, 0, none⟩) hltr).trans c0
          have C1 := fun b : Beyond wr => (b.below.cell (p := ⟨w.heap.size, 1, none⟩) hltr).trans c1
          have C2 := fun b : Beyond wr => (b.below.cell (p := ⟨w.heap.size, 2, none⟩) hltr).trans c2
          have C4 := fun b : Beyond wr => (b.below.cell (p := ⟨w.heap.size, 4, none⟩) hltr).trans c4
          have D : ∀ i v, (dcs d)[i]? = some v → ∀ x : Beyond wr, x.W.cell? ⟨b, off + k * 8 + i, none⟩ = some v := fun i v hv x => by
            obtain ⟨b', off', e, _, hcc⟩ := ((hS3.ds.next hb).next x.below).rd _ rfl (fun e => by rw [e] at hlt; simp at hlt)
            injection e with e1 e2
            subst e1 e2
            exact hcc k d hd i v hv
          have D0 := D 0 _ rfl
          have D1 := D 1 _ rfl
          have D2 := D 2 _ rfl
          have D3 := D 3 _ rfl
          have D4 := D 4 _ rfl
          have D5 := D 5 _ rfl
          have D6 := D 6 _ rfl
          have D7 := D 7 _ rfl
          rw [Nat.add_zero] at D0
          clear D
          cases hq : dvB n d with
          | true =>
            rw [hq] at hbs
            have hN := Lib.hid (show (ds.take (k + 1)).all (dvB n) = true by rw [List.take_add_one, hd, List.all_append, hE.out]; simp [hq])
            clear hd hq
            go_wp2
            refine wp_region_beyond (by kernel_rfl) (by kernel_rfl) ?_
            repeat (go_big_quiet_step (exact hbs _))
            refine wpQuiet_nil ?_
            rintro _ ⟨⟨w4, hb4⟩, rfl⟩
            clear C0 C1 C2 C4 D0 D1 D2 D3 D4 D5 D6 D7 hbs
            go_wp2
            go_roundw
            case rel => exact ⟨k + 1, by omega, by simp, hN, hb.trans (hb4.mono hb.size)⟩
            case measure => simp [intOf]; omega
          | false =>
            rw [hq] at hbs
            have hN := Lib.hid (show ds.all (dvB n) = false from by
              cases e : ds.all (dvB n) with
              | false => rfl
              | true => rw [List.all_eq_true] at e; rw [e d (List.mem_of_getElem? hd)] at hq; cases hq)
            clear hd hq
            go_wp2
            refine wp_region_beyond (by kernel_rfl) (by kernel_rfl) ?_
            repeat (go_big_quiet_step (exact hbs _))
            refine wpQuiet_nil ?_
            rintro _ ⟨⟨w4, hb4⟩, rfl⟩
            clear C0 C1 C2 C4 D0 D1 D2 D3 D4 D5 D6 D7 hbs
            go_wp2
            go_ret
            exact ⟨by rw [hN.out]; rfl, hB3.out.trans ((hb.trans (hb4.mono hb.size)).mono hB3.out.size)⟩
        · obtain rfl : k = ds.length := by omega
          have hN := Lib.hid (show ds.all (dvB n) = true by have := hE.out; rwa [List.take_length] at this)
          have hX4 := Lib.hid hXr
          obtain ⟨c0, c1, c2, c3, c4, c5, hltr⟩ := hXr
          have hS4 := hS3.next hb
          have hB4 := Lib.hid (hB3.out.trans (hb.mono hB3.out.size))
          have hQ : Hid ((ds.all (dvB n) && ts.all (lessB p)) = ts.all (lessB p)) := Lib.hid (by rw [hN.out]; rfl)
          rename World => W0
          clear hb hE
          go_wp2
          go_loopw [4] (fun i wr => ∃ k m : Nat, k ≤ ts.length ∧ i = .int .i64 k ∧ Hid ((ts.take k).all (lessB p) = true) ∧ wr = W0.drewN m) (fun i _ => ts.length - (intOf i).toNat)
          case atStart => exact ⟨0, 0, Nat.zero_le _, rfl, Lib.hid (by simp), rfl⟩
          case round =>
            obtain ⟨k, m, hk, rfl, hE, rfl⟩ := hrel
            have hdw := below_drewN (Below.refl W0.heap.size W0) m
            by_cases hlt : k < ts.length
            · obtain ⟨b, off, r, A', c', hA, hbl, hd, cr, hs⟩ := hS4.ts.at_ hlt
              subst hA
              have hkN : (k : Int) < ts.length := by omega
              have hrl := hF.lws r (List.mem_of_getElem? hd)
              have hbw : ∀ W, Sl W A' c' r → Calls Try.prog 36 #[.int .u64 p, .slice A' r.length c'] W fun e w' => e = .returned (.bool (lessB p r)) ∧ W = w' := fun W hsl => by
                have := below_any p A' c' r W hsl hrl
                rwa [lessB_is] at this
              have hsd := fun j : Nat => hs.drewN j
              generalize hrl : r.length = rl at *
              have HR := Lib.hid hrl
              clear hrl
              cases hq : lessB p r with
              | true =>
                rw [hq] at hbw
                have hN2 := Lib.hid (show (ts.take (k + 1)).all (lessB p) = true by rw [List.take_add_one, hd, List.all_append, hE.out]; simp [hq])
                clear hd hq
                go_wp2
                go_quiet (exact quiet_same (hbw _ (hsd _)))
                go_wp2
                go_roundw
                case rel => exact ⟨k + 1, _, by omega, by simp, hN2, by first | rfl | (simp; rfl)⟩
                case measure => simp [intOf]; omega
              | false =>
                rw [hq] at hbw
                have hN2 := Lib.hid (show ts.all (lessB p) = false from by
                  cases e : ts.all (lessB p) with
                  | false => rfl
                  | true => rw [List.all_eq_true] at e; rw [e r (List.mem_of_getElem? hd)] at hq; cases hq)
                clear hd hq
                go_wp2
                go_quiet (exact quiet_same (hbw _ (hsd _)))
                go_wp2
                go_ret
                exact ⟨by rw [hQ.out, hN2.out]; rfl, hB4.out.trans ((below_drewN hdw _).mono hB4.out.size)⟩
            · obtain rfl : k = ts.length := by omega
              have hN2 := Lib.hid (show ts.all (lessB p) = true by have := hE.out; rwa [List.take_length] at this)
              go_wp2
              go_ret
              exact ⟨by rw [hQ.out, hN2.out]; rfl, hB4.out.trans (hdw.mono hB4.out.size)⟩
end Go.Proofs.Ytbhphamfkhccpaa
