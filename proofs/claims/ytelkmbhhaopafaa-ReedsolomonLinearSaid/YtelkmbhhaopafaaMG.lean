/- Texts joined: VEqs, VCand, VSort, VIter, VPdq, VDist, VDec. Each says its own conditions. -/
import Derived.Test.YtelkmbhhaopafaaMF
import Derived.Test.YtelkmbhhaopafaaMD
import Derived.Test.YtelkmbhhaopafaaMC
import Derived.Test.YtelkmbhhaopafaaMB
import Derived.BigRegion
import Derived.Maps.AppendAt
import Derived.Lib.SliceRun
/- keyEquations of package reedsolomon: the system of equations; nothing that lay is changed. Conditions: a supported prime, points over its field, as many as said. -/
namespace Go.Proofs.Ytelkmbhhaopafaa
set_option maxRecDepth 100000
open Go.RowKit PolyMath FieldMath MatMath

/-- No header leads to the block. -/
def FarFrom (us : List Value) (gv : Nat) : Prop := ∀ (i : Nat) (u : Value), us[i]? = some u → u.ownBlock ≠ some gv
theorem MP.keepB {base N k gv : Nat} {w w' : World} {v : Value} {vs : List Value} {rows : List (List Int)} (h : MP base w v N k vs rows) (hg : w.grownBy w' (some gv)) (hv : v.ownBlock ≠ some gv) (hf : FarFrom vs gv) : MP base w' v N k vs rows :=
  ⟨World.ownsRow.kept h.head hg (.inr hv), h.len, h.le, fun i hi => by
    obtain ⟨u, h1, h2⟩ := h.row i hi
    exact ⟨u, h1, World.ownsRow.kept h2 hg (.inr (hf i u h1))⟩, h.apart⟩
theorem FarFrom.set {us : List Value} {gv k : Nat} {u : Value} (h : FarFrom us gv) (hu : u.ownBlock ≠ some gv) : FarFrom (us.set k u) gv := fun i x hx => by
  rw [List.getElem?_set] at hx
  split at hx
  · split at hx
    · injection hx with hx; subst hx; exact hu
    · cases hx
  · exact h i x hx

/-- What keyEquations hands back. -/
def EqsE (p : Int) (ps : List (Int × Int)) (N wn : Nat) (w : World) (e : Ending) (w' : World) : Prop :=
  ∃ A c A2 c2, e = .returned (.tuple #[.slice A ps.length c, .slice A2 ps.length c2]) ∧ Sll w' A c (kMat p ps N wn) ∧ Sl w' A2 c2 (kVal p ps wn) ∧ Below w.heap.size w w'

set_option maxHeartbeats 4000000 in
theorem eqs_any (p : Int) (hp : OkP p) (B : Option Addr) (cb : Nat) (ps : List (Int × Int)) (hx : El p (px ps)) (hy : El p (py ps)) (deg wn : Nat) (hl : ps.length ≤ 50) (hN : deg + wn + 1 ≤ 50) (w : World) (sp : Pt w B cb ps) :
    Calls Try.prog 42 #[.int .u64 p, .slice B ps.length cb, .int .i64 deg, .int .i64 wn] w fun e w' => EqsE p ps (deg + wn + 1) wn w e w' := by
  obtain ⟨i0, hi, hz0, hz1, hz2⟩ := info_parts info_u64
  have hbd := hp.bd
  have hab := absc8_row B cb ps (by omega) w sp
  unfold Row at hab
  simp only [px_len] at hab
  obtain ⟨N, hNe⟩ : ∃ N, N = deg + wn + 1 := ⟨_, rfl⟩
  rw [← hNe]
  have hvd := fun A c W h => vand_own p ((deg : Int) + wn + 1) hp N (by omega) (by omega) A c (px ps) hx (by rw [px_len]; omega) W h
  simp only [px_len] at hvd
  have hb8 : i0.bytes * ps.length ≤ 281474976710656 := by rw [hz2]; omega
  have hB8 := Lib.hid hb8
  have wr1 : IntKind.i64.wrap ((deg : Int) + wn) = (deg : Int) + wn := IntWalk.i64_in _ (by omega)
  have wr2 : IntKind.i64.wrap ((deg : Int) + wn + 1) = (deg : Int) + wn + 1 := IntWalk.i64_in _ (by omega)
  have hwN : wn < N := by omega
  have hN5 : N ≤ 50 := by omega
  have hKV := Lib.hid (kVal_fill p ps wn)
  have hKM := Lib.hid (kMK_zero p ps N wn)
  have hKD := Lib.hid (kMK_done p ps N wn)
  have hw5 : wn ≤ 50 := by omega
  have hd5 : deg ≤ 50 := by omega
  clear hb8 hNe hN
  go_enter Try.func42, Try.ntmps42
  go_wp2_with fail
  refine hab.mono ?_
  rintro e w1 ⟨A1, c1, rfl, hs1, hb1⟩
  clear hab
  go_wp2_with fail
  refine (hvd A1 c1 w1 hs1).mono ?_
  rintro e w2 ⟨vs, rfl, hM, hb2⟩
  rw [hKM.out] at hM
  have hM2 := Lib.hid hM
  have hgl := World.ownsRow.lt hM.head w1.heap.size rfl
  have hfar0 : FarFrom vs w2.heap.size := fun i u hu e => by
    have hvl := hM.vlen
    have hi := (List.getElem?_eq_some_iff.1 hu).1
    have := (World.ownsRow.lt (hM.own (by omega) hu) _ e).2
    omega
  have hF := Lib.hid hfar0
  have sp2 := (sp.next hb1).next hb2
  have hBw2 : Below w.heap.size w w2 := hb1.trans (hb2.mono hb1.size)
  clear hM hfar0 hs1 hvd
  go_wp2_with (at_make; refine wpList_make_full _ rfl _ _ 28 rfl w2.heap.size 22 i0 (.int .u64 0) 1 Try.underlying28 hi hz0 hz1 .i64 .i64 _ _ ps.length rfl rfl (by omega) (by omega) hB8.out (by simp only [maxLen]; omega) (Nat.le_refl _) ?_; intro w3 hown3 hgrow3)
  have hb3 : Below w2.heap.size w2 w3 := (Below.refl _ w2).grown hgrow3 (Nat.le_refl _) (fun k e => by cases e)
  simp only [Value.cells, toList_madeCells_one, Nat.mul_one] at hown3
  have hO3 : OwnAt w3 w2.heap.size w2.heap.size ps.length ps.length (fillL (fun i => kVl p wn (co (px ps) i) (co (py ps) i)) ps.length 0) := by
    unfold OwnAt; rw [fillL_start]; simpa using hown3
  have hM3 := Lib.hid (hM2.out.next hb3)
  clear hown3 hgrow3 hM2
  have hgv : w1.heap.size ≠ w2.heap.size := by omega
  go_loopw [28] (fun i wr => ∃ (k : Nat) (us : List Value), k ≤ ps.length ∧ i = .int .i64 k ∧ MP w1.heap.size wr (.slice (some ⟨w1.heap.size, 0, none⟩) ps.length ps.length) ps.length ps.length us (kMK p ps N wn k) ∧ Hid (FarFrom us w2.heap.size) ∧ OwnAt wr w2.heap.size w2.heap.size ps.length ps.length (fillL (fun i => kVl p wn (co (px ps) i) (co (py ps) i)) ps.length k) ∧ Below w1.heap.size w1 wr) (fun i _ => ps.length - (intOf i).toNat)
  case atStart => exact ⟨0, vs, Nat.zero_le _, rfl, hM3.out, hF, hO3, hb2.trans (hb3.mono hb2.size)⟩
  case round =>
    clear hO3 hM3 hF
    obtain ⟨k, us, hk, rfl, hMk, hFk, hOk, hBk⟩ := hrel
    by_cases hlt : k < ps.length
    · obtain ⟨b, off, x, y, hA, hbl, hxy, hcx, hcy⟩ := ((sp.next hb1).next hBk).at_ hlt
      subst hA
      have hxb : 0 ≤ x ∧ x < p := by have := hx.co (p := p) (by omega) k; rwa [px_at hxy] at this
      have hyb : 0 ≤ y ∧ y < p := by have := hy.co (p := p) (by omega) k; rwa [py_at hxy] at this
      have hrk : ro (kMK p ps N wn k) k = pows p x N := by rw [kMK_ro _ _ _ _ _ hlt, if_neg (by omega), px_at hxy]
      obtain ⟨bu, cu, hu, hcell, huo, hbg, hLc⟩ := hMk.hd (L := N) hlt (by rw [hrk, pows_len]) (by omega)
      rw [hrk] at huo
      have hset := fillL_set (fun i => kVl p wn (co (px ps) i) (co (py ps) i)) ps.length k
      simp only [px_at hxy, py_at hxy] at hset
      have hS := Lib.hid hset
      have hNX : Hid ((kMK p ps N wn k).set k (pows p x N ++ scl8 p (fneg p y) (pows p x wn)) = kMK p ps N wn (k + 1)) := Lib.hid (by rw [← kMK_next p ps N wn hlt, px_at hxy, py_at hxy]; rfl)
      have hcw := huo.cell (i := wn) (x := x ^ wn % p) (by unfold pows; rw [List.getElem?_map, List.getElem?_range hwN]; rfl)
      have hpb : 0 ≤ x ^ wn % p ∧ x ^ wn % p < p := ⟨Int.emod_nonneg _ (by omega), Int.emod_lt_of_pos _ (by omega)⟩
      have hbug : bu ≠ w2.heap.size := fun e => hFk.out k _ hu (by rw [e]; rfl)
      have hcv := hOk.cell (fillL_get (fun i => kVl p wn (co (px ps) i) (co (py ps) i)) ps.length k k hlt)
      have hfv := hOk.frozen k
      have hkN : (k : Int) < ps.length := by omega
      have hwNI : (wn : Int) < N := by omega
      have hkv : Hid (kVl p wn x y = fmul p y (x ^ wn % p)) := Lib.hid rfl
      obtain ⟨X, hX⟩ : ∃ X, X = x ^ wn % p := ⟨_, rfl⟩
      rw [← hX] at hcw hpb hkv
      have hnb := fneg_bd p y (by omega)
      have hps : (pows p x wn).length = wn := pows_len _ _ _
      have hpe := pows_el (p := p) (by omega) x wn
      have hslt : Hid ((pows p x N).take wn = pows p x wn) := Lib.hid (pows_take p x (by omega))
      have hO7 := Lib.hid (hOk.put k (fmul p y X))
      have hG7 := Lib.hid (hOk.grow k (fmul p y X))
      have hM7 := Lib.hid (hMk.keepB hG7.out (by simpa [Value.ownBlock] using hgv) hFk.out)
      have hB7 := Lib.hid (hBk.setCell (p := ⟨w2.heap.size, k, none⟩) (by show w1.heap.size ≤ w2.heap.size; omega) (.int .u64 (fmul p y X)))
      have hrkH := Lib.hid hrk
      have hFH := hFk
      clear hset hX hcx hxy hrk huo hMk hOk hBk hFk
      go_wp2_with (go_at_call 49; refine (mul_any _ _ _ hp hyb.1 hyb.2 hpb.1 hpb.2 _).mono ?_; rintro e w' ⟨rfl, rfl⟩)
      obtain ⟨W7, hW7⟩ : ∃ W7, W7 = wr.setCell ⟨w2.heap.size, k, none⟩ (.int .u64 (fmul p y X)) := ⟨_, rfl⟩
      rw [← hW7] at hO7 hG7 hM7 hB7 ⊢
      obtain ⟨bu2, cu2, hu2, hcell7, huo7, _, _⟩ := hM7.out.hd (L := N) hlt (by rw [hrkH.out, pows_len]) (by omega)
      rw [hrkH.out] at huo7
      rw [hu] at hu2
      injection hu2 with hu2
      injection hu2 with e1 e2 e3
      injection e1 with e1
      injection e1 with e1
      subst e1 e3
      have hsl7 := huo7.sl.take wn
      rw [hslt.out] at hsl7
      have hsc := scaled_own p (fneg p y) hp hnb (some ⟨bu, 0, none⟩) cu (pows p x wn) hpe (by omega) W7.drew hsl7.drew
      rw [hps] at hsc
      have hneg := fun W => neg_any p y hp hyb.1 hyb.2 W
      have hgl7 := (World.ownsRow.lt hM7.out.head w1.heap.size rfl).2
      have hgv7 := hO7.out.lt
      have hbu7 := huo7.lt
      have hwc : (wn : Int) ≤ cu := by omega
      have hwc2 : (wn : Int) ≤ N := by omega
      have hwc3 : wn ≤ cu := by omega
      have HO7 := Lib.hid huo7
      have hfz7 := World.ownsRow.frozenAt hM7.out.head k
      have hsz7 : w1.heap.size ≤ W7.heap.size := hB7.out.size
      have HU := Lib.hid hu
      have hslen : Hid ((scl8 p (fneg p y) (pows p x wn)).length = wn) := Lib.hid (by rw [scl8_len, pows_len])
      have hplen : Hid ((pows p x N).length = N) := Lib.hid (pows_len _ _ _)
      generalize scl8 p (fneg p y) (pows p x wn) = sc at *
      generalize fneg p y = ny at *
      clear hu huo7 hW7 hsl7 hps hpe hcell hcw hcv hfv hcy
      by_cases hw0 : wn = 0
      · have hsc0 : sc = [] := List.eq_nil_of_length_eq_zero (by rw [hslen.out, hw0])
        have HS0 := Lib.hid hsc0
        have HW0 := Lib.hid hw0
        clear hsc0 hw0
        go_wp2_with fail
        go_region_law (first
          | (go_simp; go_at_call 55; (with_reducible refine (hneg _).mono ?_); rintro e w' ⟨rfl, rfl⟩)
          | (go_simp; go_at_call 54; (with_reducible refine hsc.mono ?_); rintro e w5 ⟨rfl, hu5, hb5⟩; have cy5 := (hb5.cell (p := ⟨w1.heap.size, k, none⟩) hgl7).trans hcell7; have hhd5 := Lib.hid (own_belowN hM7.out.head ((Below.refl _ W7).drew.trans (hb5.mono (Nat.le_refl _)))); have hfz5 := World.ownsRow.frozenAt hhd5.out k; clear hu5)
          | (refine step_append_none _ (by rfl) _ _ _ (by rfl) 22 i0 Try.underlying28 hi (some ⟨bu, 0, none⟩) N cu hLc _ _ wn HW0.out (by rfl) (by rfl) ?_))
        all_goals
          have hbd5 : Below W7.heap.size W7 w5 := (Below.refl _ W7).drew.trans (hb5.mono (Nat.le_refl _))
          have hst5 := World.ownsRow.stored hhd5.out k (.slice (some ⟨bu, 0, none⟩) N cu)
          have hM8 := Lib.hid (hM7.out.lay (w' := w5) (i := k) (k' := ps.length) (u := .slice (some ⟨bu, 0, none⟩) N cu) (r := pows p x N ++ sc) (row := some bu) (by omega) hlt (by omega) (grown_of hbd5 (some bu)) (fun q e => ⟨hlt, _, HU.out, e⟩) (by rw [HS0.out, List.append_nil, hplen.out]; exact own_belowN HO7.out hbd5) (fun q e => .inr e))
          have hO8 := Lib.hid ((hO7.out.next hbd5).kept hst5.2 (by simpa using fun e => hgv e.symm))
          have hB8' := Lib.hid ((hB7.out.trans (hbd5.mono hsz7)).setCell (p := ⟨w1.heap.size, k, none⟩) (Nat.le_refl _) (.slice (some ⟨bu, 0, none⟩) N cu))
          have hF8 : Hid (FarFrom (us.set k (.slice (some ⟨bu, 0, none⟩) N cu)) w2.heap.size) := Lib.hid (hFH.out.set (by simpa [Value.ownBlock] using hbug))
          clear hst5 hhd5 hbd5 hb5 hM7 hO7 hB7 hFH
          go_wp2
          go_roundw
          case rel => exact ⟨k + 1, _, by omega, by simp, by rw [← hNX.out]; exact hM8.out, hF8, by rw [← hS.out, hkv.out]; exact hO8.out, hB8'.out⟩
          case measure => simp [intOf]; omega
      · have hwp : 0 < wn := by omega
        go_wp2_with fail
        go_region_law (first
          | (go_simp; go_at_call 55; (with_reducible refine (hneg _).mono ?_); rintro e w' ⟨rfl, rfl⟩)
          | (go_simp; go_at_call 54; (with_reducible refine hsc.mono ?_); rintro e w5 ⟨rfl, hu5, hb5⟩; have cy5 := (hb5.cell (p := ⟨w1.heap.size, k, none⟩) hgl7).trans hcell7; have HO5 : Hid (OwnAt w5 w1.heap.size bu N cu (pows p x N)) := Lib.hid (own_belowN HO7.out.drew hb5); have hbd5 : Below W7.heap.size W7 w5 := (Below.refl _ W7).drew.trans (hb5.mono (Nat.le_refl _)); have hM5 := Lib.hid (hM7.out.next hbd5); have hV5 := Lib.hid (hO7.out.next hbd5); have hnews : Hid (∀ j u, (sc.map (Value.int .u64))[j]? = some u → w5.cell? ((⟨W7.heap.size, 0, none⟩ : Addr).add j) = some u) := Lib.hid (fun j u hj => World.ownsRow.cells hu5 rfl j u hj); have hsz5 : w1.heap.size ≤ w5.heap.size := Nat.le_trans hsz7 hbd5.size; clear hu5)
          | (refine step_append_lies _ (by rfl) _ _ _ (by rfl) w1.heap.size 22 i0 (.int .u64 0) 1 8 Try.underlying28 hi hz0 hz1 hz2 rfl (by decide) _ _ _ (by rfl) HO5.out ⟨W7.heap.size, 0, none⟩ wn wn (sc.map (Value.int .u64)) (by rfl) (by rw [List.length_map, hslen.out, Nat.mul_one]) hnews.out (one_cells _) hwp (by simp only [maxLen]; omega) (by omega) hsz5 w5.heap.size rfl ?_; intro g6 cap6 w6 hown6 hgrow6 hat6 hlt6; have hhd6 : w6.ownsRow w1.heap.size 28 1 (.slice (some ⟨w1.heap.size, 0, none⟩) ps.length ps.length) ps.length us := World.ownsRow.kept hM5.out.head hgrow6 (.inr fun e => hM5.out.far hlt HU.out rfl e); have cy6 := (World.ownsRow.cellAt hhd6 k (by omega)).trans HU.out; have hfz6 := World.ownsRow.frozenAt hhd6 k; have hgl6 := (World.ownsRow.lt hhd6 w1.heap.size rfl).2; have hown6H := Lib.hid hown6; have HHD6 := Lib.hid hhd6; clear hown6 hhd6))
        all_goals
          have hst6 := World.ownsRow.stored HHD6.out k (.slice (some ⟨g6, 0, none⟩) (N + wn) cap6)
          have hM8 := Lib.hid (hM5.out.lay (w' := w6) (i := k) (k' := ps.length) (u := .slice (some ⟨g6, 0, none⟩) (N + wn) cap6) (r := pows p x N ++ sc) (row := some bu) (by omega) hlt (by omega) hgrow6 (fun q e => ⟨hlt, _, HU.out, e⟩) (by rw [List.length_append, hplen.out, hslen.out, List.map_append]; exact hown6H.out) (fun q e => by
            have e1 : g6 = q := by simpa [Value.ownBlock] using e
            subst e1
            rcases hat6 with e2 | e2
            · exact .inr e2
            · exact .inl (by omega)))
          have hg6v : g6 ≠ w2.heap.size := fun e => by
            have h7 := hbd5.size
            rcases hat6 with e2 | e2
            · have e3 : bu = g6 := by simpa [Value.ownBlock] using e2
              exact hbug (e3.trans e)
            · omega
          have hO8 := Lib.hid ((hV5.out.kept hgrow6 (fun e => hbug (by simpa [Value.ownBlock] using e.symm))).kept hst6.2 (by simpa using fun e => hgv e.symm))
          have hB8' := Lib.hid (((hB7.out.trans (hbd5.mono hsz7)).grown hgrow6 hsz5 (fun x e => (World.ownsRow.lt HO5.out x e).1)).setCell (p := ⟨w1.heap.size, k, none⟩) (Nat.le_refl _) (.slice (some ⟨g6, 0, none⟩) (N + wn) cap6))
          have hF8 : Hid (FarFrom (us.set k (.slice (some ⟨g6, 0, none⟩) (N + wn) cap6)) w2.heap.size) := Lib.hid (hFH.out.set (by simpa [Value.ownBlock] using hg6v))
          clear hst6 HHD6 hgrow6 hat6 hbd5 hb5 hM7 hO7 hB7 hFH hM5 hV5
          go_wp2
          go_roundw
          case rel => exact ⟨k + 1, _, by omega, by simp, by rw [← hNX.out]; exact hM8.out, hF8, by rw [← hS.out, hkv.out]; exact hO8.out, hB8'.out⟩
          case measure => simp [intOf]; omega
    · obtain rfl : k = ps.length := by omega
      rw [hKD.out] at hMk
      rw [hKV.out] at hOk
      have hS1 := Lib.hid hMk.sll
      have hS2 := Lib.hid hOk.sl
      have hBE := Lib.hid (hb1.trans (hBk.mono hb1.size))
      clear hMk hOk hBk
      go_wp2
      go_ret2
      exact ⟨_, _, _, _, rfl, hS1.out, hS2.out, hBE.out⟩
end Go.Proofs.Ytelkmbhhaopafaa

/- candidate of package reedsolomon: the quotient of the two parts of a solution of the equations; nothing that lay is changed. Conditions: a supported prime, points over its field, as many as said. -/
namespace Go.Proofs.Ytelkmbhhaopafaa
set_option maxRecDepth 100000
open Go.RowKit PolyMath FieldMath MatMath

/-- What candidate hands back. -/
def CandE (p : Int) (ps : List (Int × Int)) (deg wn : Nat) (w : World) (e : Ending) (w' : World) : Prop :=
  (slv p (kMat p ps (deg + wn + 1) wn) (kVal p ps wn) = none ∧ e = .returned (.tuple #[.slice none 0 0, .bool false]) ∧ Below w.heap.size w w') ∨
  (∃ s f r A c, slv p (kMat p ps (deg + wn + 1) wn) (kVal p ps wn) = some s ∧ DM p (s.take (deg + wn + 1)) (s.drop (deg + wn + 1) ++ [1]) f r ∧ e = .returned (.tuple #[.slice A f.length c, .bool true]) ∧ Sl w' A c f ∧ Below w.heap.size w w')

set_option maxHeartbeats 4000000 in
theorem cand_any (p : Int) (hp : OkP p) (B : Option Addr) (cb : Nat) (ps : List (Int × Int)) (hx : El p (px ps)) (hy : El p (py ps)) (deg wn : Nat) (h0 : 0 < ps.length) (hl : ps.length ≤ 50) (hN : deg + wn + 1 + wn ≤ 50) (w : World) (sp : Pt w B cb ps) :
    Calls Try.prog 32 #[.int .u64 p, .slice B ps.length cb, .int .i64 deg, .int .i64 wn] w fun e w' => CandE p ps deg wn w e w' := by
  obtain ⟨i0, hi, hz0, hz1, hz2⟩ := info_parts info_u64
  have hbd := hp.bd
  have hp0 : 0 < p := by omega
  have heq := eqs_any p hp B cb ps hx hy deg wn hl (by omega) w sp
  have hsz : Sized (kMat p ps (deg + wn + 1) wn) := ⟨by rw [kMat_len]; omega, fun i => by
    by_cases hi : i < ps.length
    · rw [kMat_ro _ _ hi, kRow_len]; omega
    · unfold ro; rw [List.getElem?_eq_none (by rw [kMat_len]; omega)]; simp⟩
  have hso := fun A B c cv W hA hB => solve_any p hp A B c cv (kMat p ps (deg + wn + 1) wn) (kVal p ps wn) hsz (kMat_el hp0 ps _ wn) (kVal_el hp0 ps wn) (kMat_rect _ _ h0) (by rw [kMat_len, kVal_len]) W hA hB
  simp only [kMat_len, kVal_len] at hso
  have hcand : Hid (∀ s, slv p (kMat p ps (deg + wn + 1) wn) (kVal p ps wn) = some s → Cand p ps deg wn s) := Lib.hid fun s hs => cand_of hp.good h0 hs
  obtain ⟨M, hM⟩ : ∃ M, M = slv p (kMat p ps (deg + wn + 1) wn) (kVal p ps wn) := ⟨_, rfl⟩
  have HM := Lib.hid hM
  unfold SolE at hso
  rw [← hM] at hso hcand
  unfold CandE
  rw [← hM]
  clear hM
  have wr1 : IntKind.i64.wrap ((deg : Int) + wn) = (deg : Int) + wn := IntWalk.i64_in _ (by omega)
  have wr2 : IntKind.i64.wrap ((deg : Int) + wn + 1) = (deg : Int) + wn + 1 := IntWalk.i64_in _ (by omega)
  go_enter Try.func32, Try.ntmps32
  go_wp2_with fail
  refine heq.mono ?_
  rintro e w1 ⟨A1, c1, A2, c2, rfl, hs1, hs2, hb1⟩
  clear heq
  go_wp2_with fail
  refine (hso A1 A2 c1 c2 w1 hs1 hs2).mono ?_
  clear hso hs1 hs2
  rintro e w2 (⟨s, hs, A3, c3, rfl, hs3, hb3⟩ | ⟨hs, rfl, hb3⟩)
  · have hc := hcand.out s hs
    have hlen := hc.len
    have hel := hc.el
    have HS := Lib.hid hs
    have HC := Lib.hid hc
    have hB2 := hb1.trans (hb3.mono hb1.size)
    obtain ⟨b, off, _, hA, hbl, _, _⟩ := hs3.at_ (k := 0) (by omega)
    subst hA
    obtain ⟨N, hNe⟩ : ∃ N : Nat, N = deg + wn + 1 := ⟨_, rfl⟩
    have hNI : (deg : Int) + wn + 1 = (N : Int) := by omega
    have hL : s.length = N + wn := by omega
    have hcap := hs3.cap
    rw [hL] at hcap
    have hst := hs3.take N
    have hsd := hs3.drop N
    rw [hL]
    have wr3 : IntKind.i64.wrap ((deg : Int) + wn + 1) = (N : Int) := wr2.trans hNI
    clear wr2
    have HNI := Lib.hid hNI
    have HNE := Lib.hid hNe
    have HLS := Lib.hid hL
    have hN50 : N + wn ≤ 50 := by omega
    have hT : Hid ((s.take N).length = N) := Lib.hid (by rw [List.length_take]; omega)
    have hD : Hid ((s.drop N).length = wn) := Lib.hid (by rw [List.length_drop]; omega)
    clear hs hc hs3 hNI hNe hlen hL hcand
    have hNc : (N : Int) ≤ c3 := by omega
    have hNc2 : (N : Int) ≤ (N + wn : Nat) := by omega
    have hNc3 : (N : Int) ≤ (N : Int) + wn := by omega
    have hD1 : Hid ((s.drop N ++ [1]).length = wn + 1) := Lib.hid (by rw [List.length_append, hD.out]; rfl)
    have hTD : Hid ((s.drop N).take wn = s.drop N) := Lib.hid (List.take_of_length_le (by rw [hD.out]; exact Nat.le_refl _))
    have hel1 : El p (s.take N) := fun x hx => hel x (List.mem_of_mem_take hx)
    have hmon := HC.out.mon hp.good
    rw [← HNE.out] at hmon
    have hdiv : ∀ A6 c6 W, Below w2.heap.size w2 W → Sl W A6 c6 (s.drop N ++ [1]) → Calls Try.prog 45 #[.int .u64 p, .slice (some ⟨b, off, none⟩) N c3, .slice A6 (wn + 1) c6] W fun e w' => DivRow p (s.take N) (s.drop N ++ [1]) W e w' := fun A6 c6 W hW h6 => by
      have := div_row p hp (some ⟨b, off, none⟩) A6 c3 c6 wn (s.take N) (s.drop N ++ [1]) hel1 hmon.el (by rw [hT.out]; omega) (by rw [hD1.out]; omega) W (hst.next hW) h6 hmon.tn
      rw [hT.out, hD1.out] at this
      exact this
    have hB0 : Below w2.heap.size w2 (w2.alloc (.cells #[.int .u64 1] 22)).drew := ((Below.refl _ w2).alloc (Nat.le_refl _) _).drew
    have hDI : (s.drop N).length ≤ 1000 := by rw [hD.out]; omega
    have hDL : wn ≤ (s.drop N).length := by rw [hD.out]; exact Nat.le_refl _
    by_cases hcN : c3 = N
    · have hw0 : wn = 0 := by omega
      have hblank : s.drop N = [] := List.eq_nil_of_length_eq_zero (by rw [hD.out, hw0])
      have hsb : Sl w2 (some ⟨b, off, none⟩) 0 (s.drop N) := by rw [hblank]; exact Sl.blank _ _ _
      have hclA := clone_any (some ⟨b, off, none⟩) wn 0 (s.drop N) w2.drew hsb.drew hDL hDI
      have hclB := clone_any (some ⟨b, off, none⟩) wn 0 (s.drop N) _ (hsb.next hB0) hDL hDI
      clear hblank hsb hw0 hsd hDI hDL hmon hcap
      have hcN2 := hcN.symm
      clear hcN
      subst hcN2
      unfold Fresh at hclA hclB
      rw [hTD.out, hD.out] at hclA hclB
      go_wp2_with fail
      go_region_held3 (fun w' => True) (trivial)
        (first
          | (go_at_call 44; (with_reducible refine hclA.mono ?_); rintro e w5 ⟨v5, rfl, hown5, hb5⟩; have hbA : Below w2.heap.size w2 w5 := (Below.refl _ w2).drew.trans (hb5.mono (Nat.le_refl _)); obtain ⟨A5, c5, rfl⟩ := row_form hown5; have HOA := Lib.hid (hown5.alloc (.cells #[.int .u64 1] 22)); have hsz5 := hbA.size; clear hown5)
          | (go_at_call 44; (with_reducible refine hclB.mono ?_); rintro e w5 ⟨v5, rfl, hown5, hb5⟩; have hbB : Below w2.heap.size w2 w5 := hB0.trans (hb5.mono hB0.size); obtain ⟨A5, c5, rfl⟩ := row_form hown5; have HOB := Lib.hid (own_base (base' := w2.heap.size) hown5 hB0.size); have hnews : Hid (∀ j u, [Value.int .u64 1][j]? = some u → w5.cell? ((⟨w2.heap.size, 0, none⟩ : Addr).add j) = some u) := Lib.hid (fun j u hj => (hb5.cell (p := (⟨w2.heap.size, 0, none⟩ : Addr).add j) (by unfold Addr.add; split <;> simp)).trans (cell_one_new _ _ _ j u hj)); have hsz5 := hbB.size; clear hown5)
          | (refine step_append_own _ (by rfl) _ _ _ (by rfl) w2.heap.size 22 i0 (.int .u64 0) 1 8 Try.underlying28 hi hz0 hz1 hz2 rfl (by decide) _ _ _ (by rfl) HOA.out ⟨w5.heap.size, 0, none⟩ 1 1 [.int .u64 1] (by rfl) (by rfl) (cell_one_new _ _ _) (by simp [Value.oneCell']) (by simp only [maxLen]; omega) (by omega) (by first | omega | (simp; done) | (simp; omega)) ?_; intro v6 w6 hown6 hgrow6; have hB6 : Below w2.heap.size w2 w6 := (hbA.alloc hsz5 _).grown hgrow6 (by first | omega | (simp; done) | (simp; omega)) (fun x e => (World.ownsRow.lt HOA.out x e).1); clear hgrow6)
          | (refine step_append_own _ (by rfl) _ _ _ (by rfl) w2.heap.size 22 i0 (.int .u64 0) 1 8 Try.underlying28 hi hz0 hz1 hz2 rfl (by decide) _ _ _ (by rfl) HOB.out ⟨w2.heap.size, 0, none⟩ 1 1 [.int .u64 1] (by rfl) (by rfl) hnews.out (by simp [Value.oneCell']) (by simp only [maxLen]; omega) (by omega) (by first | omega | (simp; done) | (simp; omega)) ?_; intro v6 w6 hown6 hgrow6; have hB6 : Below w2.heap.size w2 w6 := hbB.grown hgrow6 hsz5 (fun x e => (World.ownsRow.lt HOB.out x e).1); clear hgrow6))
      all_goals
        obtain ⟨A6, c6, hv6, hs6⟩ := own_form (xs := s.drop N ++ [1]) (by rw [List.map_append]; exact hown6)
        rw [hD1.out] at hv6
        subst hv6
        have hdv := hdiv A6 c6 w6 hB6 hs6
        have hBE := hB2.trans (hB6.mono hB2.size)
        clear hown6 hs6
        go_wp2_with fail
        refine hdv.mono ?_
        rintro e w7 ⟨f, r, A7, c7, A8, c8, rfl, hs7, _, hDM, _, hb7⟩
        have hBF := hBE.trans (hb7.mono hBE.size)
        have HF := Lib.hid hs7
        clear hs7 hdv
        go_wp2
        go_ret2
        exact .inr ⟨s, f, r, A7, c7, HS.out, by rw [← HNE.out]; exact hDM, rfl, HF.out, hBF⟩
    · have hclA := clone_any (some ⟨b, off + N, none⟩) wn (c3 - N) (s.drop N) w2.drew hsd.drew hDL hDI
      have hclB := clone_any (some ⟨b, off + N, none⟩) wn (c3 - N) (s.drop N) _ (hsd.next hB0) hDL hDI
      clear hsd hDI hDL hmon
      unfold Fresh at hclA hclB
      rw [hTD.out, hD.out] at hclA hclB
      go_wp2_with fail
      go_region_held3 (fun w' => True) (trivial)
        (first
          | (go_at_call 44; (with_reducible refine hclA.mono ?_); rintro e w5 ⟨v5, rfl, hown5, hb5⟩; have hbA : Below w2.heap.size w2 w5 := (Below.refl _ w2).drew.trans (hb5.mono (Nat.le_refl _)); obtain ⟨A5, c5, rfl⟩ := row_form hown5; have HOA := Lib.hid (hown5.alloc (.cells #[.int .u64 1] 22)); have hsz5 := hbA.size; clear hown5)
          | (go_at_call 44; (with_reducible refine hclB.mono ?_); rintro e w5 ⟨v5, rfl, hown5, hb5⟩; have hbB : Below w2.heap.size w2 w5 := hB0.trans (hb5.mono hB0.size); obtain ⟨A5, c5, rfl⟩ := row_form hown5; have HOB := Lib.hid (own_base (base' := w2.heap.size) hown5 hB0.size); have hnews : Hid (∀ j u, [Value.int .u64 1][j]? = some u → w5.cell? ((⟨w2.heap.size, 0, none⟩ : Addr).add j) = some u) := Lib.hid (fun j u hj => (hb5.cell (p := (⟨w2.heap.size, 0, none⟩ : Addr).add j) (by unfold Addr.add; split <;> simp)).trans (cell_one_new _ _ _ j u hj)); have hsz5 := hbB.size; clear hown5)
          | (refine step_append_own _ (by rfl) _ _ _ (by rfl) w2.heap.size 22 i0 (.int .u64 0) 1 8 Try.underlying28 hi hz0 hz1 hz2 rfl (by decide) _ _ _ (by rfl) HOA.out ⟨w5.heap.size, 0, none⟩ 1 1 [.int .u64 1] (by rfl) (by rfl) (cell_one_new _ _ _) (by simp [Value.oneCell']) (by simp only [maxLen]; omega) (by omega) (by first | omega | (simp; done) | (simp; omega)) ?_; intro v6 w6 hown6 hgrow6; have hB6 : Below w2.heap.size w2 w6 := (hbA.alloc hsz5 _).grown hgrow6 (by first | omega | (simp; done) | (simp; omega)) (fun x e => (World.ownsRow.lt HOA.out x e).1); clear hgrow6)
          | (refine step_append_own _ (by rfl) _ _ _ (by rfl) w2.heap.size 22 i0 (.int .u64 0) 1 8 Try.underlying28 hi hz0 hz1 hz2 rfl (by decide) _ _ _ (by rfl) HOB.out ⟨w2.heap.size, 0, none⟩ 1 1 [.int .u64 1] (by rfl) (by rfl) hnews.out (by simp [Value.oneCell']) (by simp only [maxLen]; omega) (by omega) (by first | omega | (simp; done) | (simp; omega)) ?_; intro v6 w6 hown6 hgrow6; have hB6 : Below w2.heap.size w2 w6 := hbB.grown hgrow6 hsz5 (fun x e => (World.ownsRow.lt HOB.out x e).1); clear hgrow6))
      all_goals
        obtain ⟨A6, c6, hv6, hs6⟩ := own_form (xs := s.drop N ++ [1]) (by rw [List.map_append]; exact hown6)
        rw [hD1.out] at hv6
        subst hv6
        have hdv := hdiv A6 c6 w6 hB6 hs6
        have hBE := hB2.trans (hB6.mono hB2.size)
        clear hown6 hs6
        go_wp2_with fail
        refine hdv.mono ?_
        rintro e w7 ⟨f, r, A7, c7, A8, c8, rfl, hs7, _, hDM, _, hb7⟩
        have hBF := hBE.trans (hb7.mono hBE.size)
        have HF := Lib.hid hs7
        clear hs7 hdv
        go_wp2
        go_ret2
        exact .inr ⟨s, f, r, A7, c7, HS.out, by rw [← HNE.out]; exact hDM, rfl, HF.out, hBF⟩
  · have hB2 := hb1.trans (hb3.mono hb1.size)
    go_wp2
    go_ret2
    exact .inl ⟨hs, rfl, hB2⟩
end Go.Proofs.Ytelkmbhhaopafaa

/- cmp.Less and slices.insertionSortOrdered at words: the words of a slice of the call's own, in ascending order. Conditions: at most 1000 words. -/
namespace Go.Proofs.Ytelkmbhhaopafaa
set_option maxRecDepth 100000
open Go.RowKit PolyMath FieldMath

theorem nan_any (a : Int) (w : World) : Calls Try.prog 107 #[.int .u64 a] w fun e w' => e = .returned (.bool false) ∧ w' = w := by
  go_enter Try.func107, Try.ntmps107
  go_wp2
  go_ret
  simp
theorem less_any (a b : Int) (r : Bool) (hr : decide (a < b) = r) (w : World) : Calls Try.prog 96 #[.int .u64 a, .int .u64 b] w fun e w' => e = .returned (.bool r) ∧ w' = w := by
  subst hr
  have hn := fun x => nan_any x w
  go_enter Try.func96, Try.ntmps96
  go_wp2_with (go_at_call 107; refine (hn _).mono ?_; rintro e w' ⟨rfl, rfl⟩)
  go_ret
  simp

theorem less_q (a b : Int) (r : Bool) (hr : decide (a < b) = r) (w : World) (n : Nat) : Calls Try.prog 96 #[.int .u64 a, .int .u64 b] (w.drewN n) fun e w' => e = .returned (.bool r) ∧ ∃ m, w' = w.drewN m :=
  (less_any a b r hr (w.drewN n)).mono fun _ _ ⟨h1, h2⟩ => ⟨h1, n, h2⟩

/-- Ascending up to place i; ascending up to place i but for what stands at j. -/
def SortTo (ys : List Int) (i : Nat) : Prop := ∀ a b, a < b → b < i → co ys a ≤ co ys b
def Hole (ys : List Int) (i j : Nat) : Prop := ∀ a b, a < b → b ≤ i → b ≠ j → co ys a ≤ co ys b
/-- What stands at j and ahead of it exchanged. -/
def swp (ys : List Int) (j : Nat) : List Int := (ys.set j (co ys (j - 1))).set (j - 1) (co ys j)
theorem swp_len (ys : List Int) (j : Nat) : (swp ys j).length = ys.length := by unfold swp; simp
theorem swp_perm {ys : List Int} {j : Nat} (h : j < ys.length) : (swp ys j).Perm ys := by
  unfold swp
  rw [co_get (i := j - 1) (by omega), co_get h]
  exact List.set_set_perm h (by omega)
theorem swp_co {ys : List Int} {j : Nat} (h : j < ys.length) (h0 : 0 < j) (n : Nat) : co (swp ys j) n = if n = j then co ys (j - 1) else if n = j - 1 then co ys j else co ys n := by
  unfold swp
  rw [co_set _ _ _ (by rw [List.length_set]; omega), co_set _ _ _ h]
  split
  · rw [if_neg (by omega)]
  · rfl
theorem Hole.start {ys : List Int} {i : Nat} (h : SortTo ys i) : Hole ys i i := fun a b h1 h2 h3 => h a b h1 (by omega)
theorem Hole.step {ys : List Int} {i j : Nat} (h : Hole ys i j) (hj : j < ys.length) (h0 : 0 < j) (hji : j ≤ i) (hlt : co ys j < co ys (j - 1)) : Hole (swp ys j) i (j - 1) := fun a b h1 h2 h3 => by
  rw [swp_co hj h0, swp_co hj h0]
  have g1 := fun a b h1 h2 h3 => h a b h1 h2 h3
  by_cases eb : b = j
  · subst eb
    rw [if_neg (by omega), if_pos rfl]
    by_cases ea : a = b - 1
    · rw [if_pos ea]; omega
    · rw [if_neg ea]; exact g1 a (b - 1) (by omega) (by omega) (by omega)
  · rw [if_neg eb, if_neg h3]
    by_cases ea : a = j
    · rw [if_pos ea]; exact g1 (j - 1) b (by omega) h2 eb
    · rw [if_neg ea]
      by_cases ea' : a = j - 1
      · rw [if_pos ea']; exact g1 j b (by omega) h2 eb
      · rw [if_neg ea']; exact g1 a b h1 h2 eb
theorem Hole.stop {ys : List Int} {i j : Nat} (h : Hole ys i j) (hji : j ≤ i) (hs : j = 0 ∨ co ys (j - 1) ≤ co ys j) : SortTo ys (i + 1) := fun a b h1 h2 => by
  by_cases eb : b = j
  · subst eb
    rcases hs with hs | hs
    · omega
    · by_cases ea : a = b - 1
      · subst ea; exact hs
      · exact Int.le_trans (h a (b - 1) (by omega) (by omega) (by omega)) hs
  · exact h a b h1 (by omega) eb

set_option maxHeartbeats 4000000 in
theorem isort_any (base g n cap : Nat) (xs : List Int) (hn : n ≤ 1000) (w : World) (h : OwnAt w base g n cap xs) :
    Calls Try.prog 90 #[.slice (some ⟨g, 0, none⟩) n cap, .int .i64 0, .int .i64 n] w fun e w' => (∃ v, e = .returned v) ∧ ∃ zs : List Int, zs.Perm xs ∧ SortTo zs n ∧ OwnAt w' base g n cap zs ∧ w.grownBy w' (some g) := by
  go_enter Try.func90, Try.ntmps90
  go_wp2
  go_loopw [6] (fun i wr => ∃ (k : Nat) (ys : List Int), 1 ≤ k ∧ k ≤ max 1 n ∧ i = .int .i64 k ∧ ys.Perm xs ∧ Hid (SortTo ys k) ∧ OwnAt wr base g n cap ys ∧ w.grownBy wr (some g)) (fun i _ => max 1 n - (intOf i).toNat)
  case atStart => exact ⟨1, xs, Nat.le_refl _, by omega, rfl, List.Perm.refl _, Lib.hid (fun a b h1 h2 => by omega), h, World.grownBy.refl _ _⟩
  case round =>
    obtain ⟨k, ys, hk1, hk, rfl, hP, hS, hO, hG⟩ := hrel
    by_cases hlt : k < n
    · have hkn : (k : Int) < n := by omega
      rename World => W0
      go_wp2
      go_loopw [7] (fun i wr => ∃ (j : Nat) (ys : List Int), j ≤ k ∧ i = .int .i64 j ∧ ys.Perm xs ∧ Hid (Hole ys k j) ∧ OwnAt wr base g n cap ys ∧ w.grownBy wr (some g)) (fun i _ => (intOf i).toNat)
      case atStart => exact ⟨k, ys, Nat.le_refl _, rfl, hP, Lib.hid (Hole.start hS.out), hO, hG⟩
      case round =>
        clear hP hS hO hG
        obtain ⟨j, ys, hj, rfl, hP, hH, hO, hG⟩ := hrel
        have hlen := hO.len
        have hL := Lib.hid hlen
        clear hlen
        by_cases h0 : j = 0
        · subst h0
          have hS2 : Hid (SortTo ys (k + 1)) := Lib.hid (hH.out.stop (by omega) (.inl rfl))
          have hO2 := fun m => hO.next (below_drewN (Below.refl _ _) m)
          have hG2 := fun m => grown_trans hG (grown_of (below_drewN (Below.refl _ wr) m) (some g))
          go_wp2
          go_quiet (fail)
          go_wp2
          go_roundw
          case rel => exact ⟨k + 1, ys, by omega, by omega, by simp, hP, hS2, hO2 _, hG2 _⟩
          case measure => simp [intOf]; omega
        · have hjn : j < ys.length := by rw [hL.out]; omega
          have hx : ys[j]? = some (co ys j) := by rw [co_get hjn]; exact List.getElem?_eq_getElem hjn
          have hy : ys[j - 1]? = some (co ys (j - 1)) := by rw [co_get (by omega)]; exact List.getElem?_eq_getElem (by omega)
          have hcx := fun m => (hO.next (below_drewN (Below.refl _ _) m)).cell hx
          have hcy := fun m => (hO.next (below_drewN (Below.refl _ _) m)).cell hy
          have hjp : (0 : Int) < j := by omega
          have hjd : decide (0 < j) = true := decide_eq_true (by omega)
          have hjI : (j : Int) < n := by omega
          have hj1 : (j : Int) - 1 < n := by omega
          have hj0 : (0 : Int) ≤ (j : Int) - 1 := by omega
          have hjt : ((j : Int) - 1).toNat = j - 1 := by omega
          have wr1 : IntKind.i64.wrap ((j : Int) - 1) = (j : Int) - 1 := IntWalk.i64_in _ (by omega)
          by_cases e : co ys j < co ys (j - 1)
          · have hH2 := Lib.hid (hH.out.step hjn (by omega) hj e)
            have hP2 : (swp ys j).Perm xs := (swp_perm hjn).trans hP
            have hls := less_q (co ys j) (co ys (j - 1)) true (decide_eq_true e) wr
            have hOH := Lib.hid hO
            have hSW : Hid (swp ys j = (ys.set j (co ys (j - 1))).set (j - 1) (co ys j)) := Lib.hid rfl
            have hgl := hO.lt
            generalize hQ : swp ys j = qs at *
            clear hQ hO hx hy e
            generalize co ys j = x at *
            generalize co ys (j - 1) = y at *
            go_wp2
            go_quiet (exact hls _)
            go_wp2
            obtain ⟨W1, hW1⟩ : ∃ W1, W1 = wr.drewN nq := ⟨_, rfl⟩
            have hc1 := hcx nq
            have hc2 := hcy nq
            rw [← hW1] at hc1 hc2 ⊢
            have hO1 : OwnAt W1 base g n cap ys := by rw [hW1]; exact hOH.out.next (below_drewN (Below.refl _ _) nq)
            have hG1 : w.grownBy W1 (some g) := by rw [hW1]; exact grown_trans hG (grown_of (below_drewN (Below.refl _ wr) nq) (some g))
            have hf1 := hO1.frozen j
            have hf2 := hO1.frozen (j - 1)
            have HO1 := Lib.hid hO1
            clear hcx hcy hW1 hO1 hls
            have hjc := Lib.hid (show (j : Int) - 1 = ((j - 1 : Nat) : Int) by omega)
            go_region
            obtain ⟨w4, hw4⟩ : ∃ w4, w4 = ((W1.setCell ⟨g, j, none⟩ (.int .u64 y)).setCell ⟨g, j - 1, none⟩ (.int .u64 x)).drew := ⟨_, rfl⟩
            rw [← hw4]
            have hO4 : OwnAt w4 base g n cap qs := by rw [hw4, hSW.out]; exact ((HO1.out.put j y).put (j - 1) x).drew
            have hG4 : w.grownBy w4 (some g) := by rw [hw4]; exact grown_drew (grown_trans hG1 (grown_trans (HO1.out.grow j y) ((HO1.out.put j y).grow (j - 1) x)))
            clear hw4
            go_wp2
            go_roundw
            case rel => exact ⟨j - 1, qs, by omega, by rw [hjc.out], hP2, hH2, hO4, hG4⟩
            case measure => simp [intOf]; omega
          · have hS2 : Hid (SortTo ys (k + 1)) := Lib.hid (hH.out.stop (by omega) (.inr (by omega)))
            have hls := less_q (co ys j) (co ys (j - 1)) false (decide_eq_false e) wr
            have hO2 := fun m => hO.next (below_drewN (Below.refl _ _) m)
            have hG2 := fun m => grown_trans hG (grown_of (below_drewN (Below.refl _ wr) m) (some g))
            generalize co ys j = x at *
            generalize co ys (j - 1) = y at *
            go_wp2
            go_quiet (exact hls _)
            go_wp2
            go_roundw
            case rel => exact ⟨k + 1, ys, by omega, by omega, by simp, hP, hS2, hO2 _, hG2 _⟩
            case measure => simp [intOf]; omega
    · have hS2 : SortTo ys n := fun a b h1 h2 => hS.out a b h1 (by omega)
      have hS3 := Lib.hid hS2
      clear hS2
      go_wp2
      go_end0
      exact ⟨⟨_, rfl⟩, ys, hP, hS3.out, hO, hG⟩
end Go.Proofs.Ytelkmbhhaopafaa

/- slices.Values over words, slices.AppendSeq and slices.Collect of it: the same words in memory of the call's own. Conditions: at most 1000 words. -/
namespace Go.Proofs.Ytelkmbhhaopafaa
set_option maxRecDepth 100000
open Go.RowKit Go.Shelf PolyMath FieldMath
attribute [local go_sem] Oper.semAt_some

theorem vals_in (n : Nat) (A : Option Addr) (k c : Nat) (w : World) :
    CallsIn Fence.wide n Try.prog 40 #[.slice A k c] w fun e w' =>
      e = .returned (.func (.func 52) #[] #[.pointer (some ⟨w.heap.size, 0, none⟩)]) ∧ w' = w.alloc (.cells #[.slice A k c] 28) := by
  refine callsIn_of_wp Try.func40 rfl trivial ?_ rfl
  simp only [Try.ntmps40, List.size_toArray, List.length_cons, List.length_nil, Nat.reduceAdd, Nat.reduceSub, Array.replicate_succ, Array.replicate_zero, List.push_toArray, List.append_toArray, List.nil_append, List.cons_append]
  gi_wp2
  go_ret
  exact ⟨rfl, rfl⟩

set_option maxHeartbeats 2000000 in
theorem vals1_in (n : Nat) (hn : 1 ≤ n) (l Ba c : Nat) (A : Option Addr) (xs : List Int) (hN : xs.length ≤ 1000) (w0 : World) (h : Sl w0 A c xs)
    (J Jx : List Int → World → Prop)
    (hY : ∀ pre x W, J pre W → pre.length < xs.length → YieldAt Fence.wide (n - 1) Try.prog l #[.int .u64 x] W (YieldGoes J Jx (Below w0.heap.size) pre x W))
    (W : World) (hB : Below w0.heap.size w0 W) (ba : Boxed W Ba 28 (.slice A xs.length c)) (h0 : J [] W) :
    CallsIn Fence.wide n Try.prog 52 #[.func (.yield l) #[] #[], .pointer (some ⟨Ba, 0, none⟩)] W fun e W' => (∃ v, e = .returned v) ∧
      ((∃ ys : List Int, ys = xs ∧ J ys W') ∨ (∃ pre : List Int, True ∧ Jx pre W')) := by
  refine callsIn_of_wp Try.func52 rfl trivial ?_ rfl
  simp only [Try.ntmps52, List.size_toArray, List.length_cons, List.length_nil, Nat.reduceAdd, Nat.reduceSub, Array.replicate_succ, Array.replicate_zero, List.push_toArray, List.append_toArray, List.nil_append, List.cons_append]
  have hca := ba.cell
  gi_wp2
  gi_loopw [7] (fun i wr => ∃ k : Nat, k ≤ xs.length ∧ i = .int .i64 (k : Int) ∧ J (xs.take k) wr ∧ Below w0.heap.size w0 wr) (fun i _ => xs.length - (intOf i).toNat)
  case atStart => exact ⟨0, Nat.zero_le _, rfl, by simpa using h0, hB⟩
  case round =>
    obtain ⟨k, hk, rfl, hJs, hnx⟩ := hrel
    by_cases hlt : k < xs.length
    · obtain ⟨b, off, x, hA, _, hx, hcx⟩ := (h.next hnx).at_ hlt
      subst hA
      obtain ⟨fn, tmps, assign, body, hy, hR⟩ := hY (xs.take k) x wr hJs (by rw [List.length_take]; omega)
      have hT : Hid (xs.take k ++ [x] = xs.take (k + 1)) := Lib.hid (by rw [List.take_add_one, hx]; rfl)
      have hkN : (k : Int) < xs.length := by omega
      clear hx
      gi_wp2_with fail
      refine hR.mono ?_
      rintro e W3 ⟨go, rfl, h1, h2⟩
      cases go with
      | true =>
        obtain ⟨hJ3, hk3⟩ := h1 rfl
        clear h1 h2
        gi_wp2
        go_roundw
        case rel => exact ⟨k + 1, by omega, by simp, by rw [← hT.out]; exact hJ3, hnx.trans hk3⟩
        case measure => simp [intOf]; omega
      | false =>
        have hJx3 := h2 rfl
        clear h1 h2
        gi_wp2
        refine bodyPost_ret (results_none rfl _ _ _) rfl ?_
        exact ⟨⟨_, rfl⟩, .inr ⟨_, trivial, hJx3⟩⟩
    · obtain rfl : k = xs.length := by omega
      rw [List.take_length] at hJs
      gi_wp2
      go_end0
      exact ⟨⟨_, rfl⟩, .inl ⟨_, rfl, hJs⟩⟩

theorem vals_stops (n : Nat) (hn : 1 ≤ n) (Ba c : Nat) (A : Option Addr) (xs : List Int) (hN : xs.length ≤ 1000) (w0 : World) (h : Sl w0 A c xs) (w : World) (hB : Below w0.heap.size w0 w) (ba : Boxed w Ba 28 (.slice A xs.length c)) :
    SeqStopsK Fence.wide n Try.prog 52 #[.pointer (some ⟨Ba, 0, none⟩)] (fun x : Int => #[Value.int .u64 x]) (Below w0.heap.size)
      (fun ys => ys = xs) (fun _ => True) xs.length w := fun l J Jx W hW _ _ hY h0 => by
  refine vals1_in n hn l Ba c A xs hN w0 h J Jx (fun pre x X hj hl => (hY pre x X hj hl).mono ?_) W (hB.trans (hW.mono hB.size)) ((hW.block Ba ba.lt).trans ba) h0
  rintro e X' (⟨rfl, h1, h2⟩ | ⟨rfl, h1⟩)
  · exact ⟨true, rfl, fun _ => ⟨h1, h2⟩, fun h => absurd h (by decide)⟩
  · exact ⟨false, rfl, fun h => absurd h (by decide), fun _ => h1⟩

set_option maxHeartbeats 2000000 in
theorem apSeq_in (Ba c : Nat) (A : Option Addr) (xs : List Int) (hN : xs.length ≤ 1000) (w0 : World) (h : Sl w0 A c xs) (w : World) (hB0 : Below w0.heap.size w0 w) (ba : Boxed w Ba 28 (.slice A xs.length c)) :
    Calls Try.prog 76 #[.slice none 0 0, .func (.func 52) #[] #[.pointer (some ⟨Ba, 0, none⟩)]] w fun e w' =>
      ∃ v, e = .returned v ∧ w'.ownsRow w.heap.size 22 1 v xs.length (xs.map (Value.int .u64)) ∧ Below w.heap.size w w' := by
  obtain ⟨i0, hi, hz0, hz1, hz2⟩ := info_parts info_u64
  have hs0 := hB0.size
  refine (callsIn_wide (n := 3)).1 ?_
  refine callsIn_of_wp_marks Try.func76 rfl trivial ?_ rfl
  simp only [Try.ntmps76, List.size_toArray, List.length_cons, List.length_nil, Nat.reduceAdd, Nat.reduceSub, Array.replicate_succ, Array.replicate_zero, List.push_toArray, List.append_toArray, List.nil_append, List.cons_append]
  gi_wp2
  have bs := Boxed.new w 28 (.slice none 0 0)
  have hB1 : Below w.heap.size w (w.alloc (.cells #[.slice none 0 0] 28)) := (Below.refl _ w).alloc (Nat.le_refl _) _
  have hBa := ba.lt
  refine wpIn_rangeFunc_ownG rfl (by omega) (gf := 52) (lb := #[.pointer (some ⟨Ba, 0, none⟩)]) rfl trivial (enters_of Try.func52 (by kernel_rfl) rfl)
    (vals_stops (3 - 1) (by omega) Ba c A xs hN w0 h (w.alloc (.cells #[.slice none 0 0] 28)) (hB0.trans (hB1.mono hs0)) (ba.alloc _)) (fun h k => h.trans k) (belowK_b (by simp; omega)) (Below.refl _ _) (fun _ => rfl)
    (fun pre W => (∃ v, Boxed W w.heap.size 28 v ∧ W.ownsRow w.heap.size 22 1 v pre.length (pre.map (Value.int .u64)) ∧ True) ∧ Below w.heap.size w W)
    (fun _ _ _ => False)
    (OwnFrom.and (Own.from (holdsRow_own w.heap.size w.heap.size 28 22 1 (fun pre : List Int => pre.length) (fun pre => pre.map (Value.int .u64)) (fun _ _ => True)) _) (ownFrom_below (Nat.le_refl _) (by simp)))
    (fun _ _ _ _ _ hs _ _ => hs)
    ⟨⟨_, bs, World.ownsRow_nil _ _ _ _, trivial⟩, hB1⟩
    (fun y => { tmps := #[.slice none 0 0, .func (.func 52) #[] #[.pointer (some ⟨Ba, 0, none⟩)], .pointer (some ⟨w.heap.size, 0, none⟩), undef, .slice none 0 0, .int .u64 y, .func (.func 52) #[] #[.pointer (some ⟨Ba, 0, none⟩)], .int .u64 y, undef, undef, undef, undef, undef], defers := [] }) ?assign ?body ?done ?stop
  case assign =>
    intro l x W K hK
    gi_wp2
    exact hK
  case body =>
    rintro l pre x W ⟨⟨v, hv, hrow, -⟩, hB⟩ hlt
    have hc0 := hv.cell
    have hbs := hB.size
    gi_wp2_with (gi_at_builtin; refine wpListIn_append_own _ rfl _ _ 28 rfl w.heap.size 22 i0 (.int .u64 0) 1 8 Try.underlying28 hi hz0 hz1 hz2 rfl (by decide) _ _ _ rfl (hrow.alloc _) ⟨W.heap.size, 0, none⟩ 1 1 [.int .u64 x] rfl rfl (cell_one_new _ _ _) (by simp [Value.oneCell']) (by simp only [maxLen]; omega) (by omega) (by simp; omega) ?_; intro v' w1 hown' hgrow _; obtain ⟨g', cap', rfl⟩ := ownsRow_succ hown'; obtain ⟨hv1, hv2, hr2, hk2, hb2⟩ := hv.appended (by decide) hrow hB.size (Nat.le_refl _) hown' hgrow; have hc1 := hv1.cell; have hf1 := hv1.frozen)
    exact ⟨hk2.from _, hb2.mono hs0, ⟨_, hv2, by simpa using hr2, trivial⟩, hB.trans hb2⟩
  case done =>
    rintro D ys W hD rfl ⟨⟨v, hv, hrow, -⟩, hB⟩ hK
    have hc := hv.cell
    gi_wp2
    refine ⟨by simp, .inl ⟨_, _, rfl, run_takeDeferred hK, ?_⟩⟩
    exact ⟨_, results_tmp rfl _ _ _, v, rfl, ownsRow_putObj hrow _ hK rfl, hB.trans (belowK_b (w := w) (Nat.le_refl _) W D _ _ (by simp at hD; omega) hK rfl rfl)⟩
  case stop =>
    rintro D c pre W _ _ h _
    exact h.elim

theorem collect_any (Ba c : Nat) (A : Option Addr) (xs : List Int) (hN : xs.length ≤ 1000) (w0 : World) (h : Sl w0 A c xs) (w : World) (hB0 : Below w0.heap.size w0 w) (ba : Boxed w Ba 28 (.slice A xs.length c)) :
    Calls Try.prog 50 #[.func (.func 52) #[] #[.pointer (some ⟨Ba, 0, none⟩)]] w fun e w' =>
      ∃ v, e = .returned v ∧ w'.ownsRow w.heap.size 22 1 v xs.length (xs.map (Value.int .u64)) ∧ Below w.heap.size w w' := by
  have hap := apSeq_in Ba c A xs hN w0 h w hB0 ba
  go_enter Try.func50, Try.ntmps50
  go_wp2_with (go_at_call 76; refine hap.mono ?_; rintro e w1 ⟨v, rfl, hown, hB⟩)
  go_ret
  exact ⟨v, rfl, hown, hB⟩
theorem values_any (A : Option Addr) (k c : Nat) (w : World) :
    Calls Try.prog 40 #[.slice A k c] w fun e w' => e = .returned (.func (.func 52) #[] #[.pointer (some ⟨w.heap.size, 0, none⟩)]) ∧ w' = w.alloc (.cells #[.slice A k c] 28) :=
  (callsIn_wide (n := 3)).1 (vals_in 3 A k c w)
end Go.Proofs.Ytelkmbhhaopafaa

/- slices.Sort and slices.Sorted at words, of at most twelve words, or of thirteen that ascend already. Conditions: as said. -/
namespace Go.Proofs.Ytelkmbhhaopafaa
set_option maxRecDepth 100000
open Go.RowKit PolyMath FieldMath

theorem len_small (n : Nat) (h1 : 1 ≤ n) (h2 : n ≤ 13) (w : World) : Calls Try.prog 75 #[.int .u64 (n : Int)] w fun e w' => ∃ L : Int, 0 < L ∧ e = .returned (.int .i64 L) ∧ w' = w := by
  rcases (show n = 1 ∨ n = 2 ∨ n = 3 ∨ n = 4 ∨ n = 5 ∨ n = 6 ∨ n = 7 ∨ n = 8 ∨ n = 9 ∨ n = 10 ∨ n = 11 ∨ n = 12 ∨ n = 13 by omega) with rfl | rfl | rfl | rfl | rfl | rfl | rfl | rfl | rfl | rfl | rfl | rfl | rfl
  all_goals
    go_enter Try.func75, Try.ntmps75
    go_wp2
    go_ret
    exact ⟨_, by decide +kernel, rfl, rfl⟩
theorem bitLen_small (n : Nat) (h1 : 1 ≤ n) (h2 : n ≤ 13) (w : World) : Calls Try.prog 78 #[.int .u64 (n : Int)] w fun e w' => ∃ L : Int, 0 < L ∧ e = .returned (.int .i64 L) ∧ w' = w := by
  have hl := len_small n h1 h2 w
  go_enter Try.func78, Try.ntmps78
  go_wp2_with (go_at_call 75; refine hl.mono ?_; rintro e w' ⟨L, hL, rfl, rfl⟩)
  go_ret
  exact ⟨L, hL, rfl, rfl⟩

/-- What the sort leaves. -/
def SortE (base g n cap : Nat) (xs : List Int) (w : World) (e : Ending) (w' : World) : Prop :=
  (∃ v, e = .returned v) ∧ ∃ zs : List Int, zs.Perm xs ∧ SortTo zs n ∧ OwnAt w' base g n cap zs ∧ w.grownBy w' (some g)

set_option maxHeartbeats 2000000 in
theorem pdq_small (base g n cap : Nat) (xs : List Int) (L : Int) (hn : n ≤ 12) (w : World) (h : OwnAt w base g n cap xs) :
    Calls Try.prog 77 #[.slice (some ⟨g, 0, none⟩) n cap, .int .i64 0, .int .i64 n, .int .i64 L] w fun e w' => SortE base g n cap xs w e w' := by
  have hi := isort_any base g n cap xs (by omega) w h
  have hn2 : (n : Int) ≤ 12 := by omega
  go_enter Try.func77, Try.ntmps77
  go_wp2
  go_loopw [1, 2, 3, 8, 9] (fun a b l wb wp wr => a = .int .i64 0 ∧ b = .int .i64 n ∧ l = .int .i64 L ∧ wb = .bool true ∧ wp = .bool true ∧ wr = w) (fun _ _ _ _ _ _ => 0)
  case atStart => exact ⟨rfl, rfl, rfl, rfl, rfl, rfl⟩
  case round =>
    obtain ⟨rfl, rfl, rfl, rfl, rfl, rfl⟩ := hrel
    go_wp2_with (go_at_call 90; refine hi.mono ?_; rintro e w' ⟨⟨v, rfl⟩, hz⟩)
    refine bodyPost_ret (results_none rfl _ _ _) rfl ?_
    exact ⟨⟨_, rfl⟩, hz⟩

/-! ### Thirteen words that ascend -/
section
variable {base g cap : Nat} {xs : List Int}
theorem up_cell {w : World} {n : Nat} (h : OwnAt w base g n cap xs) {i : Nat} (hi : i < n) (m : Nat) : (w.drewN m).cell? ⟨g, i, none⟩ = some (.int .u64 (co xs i)) := by
  have hl := h.len
  exact (h.next (below_drewN (Below.refl _ _) m)).cell (by rw [co_get (by omega)]; exact List.getElem?_eq_getElem (by omega))

set_option maxHeartbeats 1000000 in
theorem order2_up (n i j : Nat) (hij : i < j) (hj : j < n) (hs : SortTo xs n) (q : Addr) (w : World) (h : OwnAt w base g n cap xs) :
    Calls Try.prog 108 #[.slice (some ⟨g, 0, none⟩) n cap, .int .i64 i, .int .i64 j, .pointer (some q)] w fun e w' => e = .returned (.tuple #[.int .i64 i, .int .i64 j]) ∧ Below w.heap.size w w' := by
  have hle := hs i j hij hj
  have hls := less_q (co xs j) (co xs i) false (decide_eq_false (by omega)) w
  have c1 := fun m => up_cell h (i := i) (by omega) m
  have c2 := fun m => up_cell h (i := j) (by omega) m
  have hi1 : (i : Int) < n := by omega
  have hj1 : (j : Int) < n := by omega
  have hB := fun m => below_drewN (Below.refl w.heap.size w) m
  generalize co xs i = x at *
  generalize co xs j = y at *
  clear hle
  go_enter Try.func108, Try.ntmps108
  go_wp2
  go_quiet (exact hls _)
  go_wp2
  go_ret2
  exact ⟨rfl, hB _⟩

set_option maxHeartbeats 1000000 in
theorem median_up (hs : SortTo xs 13) (q : Addr) (w : World) (h : OwnAt w base g 13 cap xs) :
    Calls Try.prog 106 #[.slice (some ⟨g, 0, none⟩) 13 cap, .int .i64 3, .int .i64 6, .int .i64 9, .pointer (some q)] w fun e w' => e = .returned (.int .i64 6) ∧ Below w.heap.size w w' := by
  have o1 := fun W (hO : OwnAt W base g 13 cap xs) => order2_up 13 3 6 (by omega) (by omega) hs q W hO
  have o2 := fun W (hO : OwnAt W base g 13 cap xs) => order2_up 13 6 9 (by omega) (by omega) hs q W hO
  go_enter Try.func106, Try.ntmps106
  go_wp2_with fail
  refine (o1 _ h).mono ?_; rintro e w1 ⟨rfl, b1⟩
  have h1 := h.next b1
  go_wp2_with fail
  refine (o2 _ h1).mono ?_; rintro e w2 ⟨rfl, b2⟩
  have h2 := h1.next b2
  go_wp2_with fail
  refine (o1 _ h2).mono ?_; rintro e w3 ⟨rfl, b3⟩
  have hB : Below w.heap.size w w3 := b1.trans ((b2.trans (b3.mono b2.size)).mono b1.size)
  go_wp2
  go_ret
  exact ⟨rfl, hB⟩

set_option maxHeartbeats 1000000 in
theorem pivot_up (hs : SortTo xs 13) (w : World) (h : OwnAt w base g 13 cap xs) :
    Calls Try.prog 93 #[.slice (some ⟨g, 0, none⟩) 13 cap, .int .i64 0, .int .i64 13] w fun e w' => e = .returned (.tuple #[.int .i64 6, .int .i64 1]) ∧ Below w.heap.size w w' := by
  have h1 := h.push (.cells #[.int .i64 0] 3)
  have hm := median_up hs ⟨w.heap.size, 0, none⟩ _ h1
  have hB1 : Below w.heap.size w (w.alloc (.cells #[.int .i64 0] 3)) := (Below.refl _ w).alloc (Nat.le_refl _) _
  have hb := Boxed.new w 3 (.int .i64 0)
  go_enter Try.func93, Try.ntmps93
  go_wp2_with fail
  refine hm.mono ?_
  rintro e w2 ⟨rfl, b2⟩
  have hb2 : Boxed w2 w.heap.size 3 (.int .i64 0) := (b2.block _ hb.lt).trans hb
  have hc := hb2.cell
  go_wp2
  go_ret2
  exact ⟨rfl, hB1.trans (b2.mono hB1.size)⟩

set_option maxHeartbeats 2000000 in
theorem pins_up (n : Nat) (hn : n ≤ 1000) (h2 : 2 ≤ n) (hs : SortTo xs n) (w : World) (h : OwnAt w base g n cap xs) :
    Calls Try.prog 95 #[.slice (some ⟨g, 0, none⟩) n cap, .int .i64 0, .int .i64 n] w fun e w' => e = .returned (.bool true) ∧ ∃ m, w' = w.drewN m := by
  go_enter Try.func95, Try.ntmps95
  go_wp2
  go_loopw [7, 8] (fun j i wr => j = .int .i64 1 ∧ i = .int .i64 0 ∧ wr = w) (fun _ _ _ => 0)
  case atStart => exact ⟨rfl, rfl, rfl⟩
  case round =>
    obtain ⟨rfl, rfl, rfl⟩ := hrel
    go_wp2
    go_loopw [7] (fun i W => ∃ (k m : Nat), 1 ≤ k ∧ k ≤ n ∧ i = .int .i64 k ∧ W = wr.drewN m) (fun i _ => n - (intOf i).toNat)
    case atStart => exact ⟨1, 0, Nat.le_refl _, by omega, rfl, rfl⟩
    case round =>
      obtain ⟨k, m, hk1, hk, rfl, rfl⟩ := hrel
      by_cases hlt : k < n
      · have hle := hs (k - 1) k (by omega) hlt
        have hls : ∀ t, Calls Try.prog 96 #[.int .u64 (co xs k), .int .u64 (co xs (k - 1))] (wr.drewN (m + t)) fun e w' => e = .returned (.bool false) ∧ ∃ n, w' = wr.drewN (m + n) := fun t => (less_any (co xs k) (co xs (k - 1)) false (decide_eq_false (by omega)) (wr.drewN (m + t))).mono fun _ _ ⟨h1, h2⟩ => ⟨h1, t, h2⟩
        have c1 := fun t => up_cell h (i := k) hlt (m + t)
        have c2 := fun t => up_cell h (i := k - 1) (by omega) (m + t)
        have hkn : (k : Int) < n := by omega
        have hk1n : (k : Int) - 1 < n := by omega
        have hkp : (0 : Int) < k := by omega
        have hkp2 : 0 < k := by omega
        have hk0 : (0 : Int) ≤ (k : Int) - 1 := by omega
        have hkt : ((k : Int) - 1).toNat = k - 1 := by omega
        have wr1 : IntKind.i64.wrap ((k : Int) - 1) = (k : Int) - 1 := IntWalk.i64_in _ (by omega)
        have hjd : decide (k < n) = true := decide_eq_true hlt
        generalize co xs k = x at *
        generalize co xs (k - 1) = y at *
        clear hle
        go_wp2
        go_quiet (exact hls _)
        go_wp2
        go_roundw
        case rel => exact ⟨k + 1, _, by omega, by omega, by simp, by first | rfl | (simp; rfl)⟩
        case measure => simp [intOf]; omega
      · obtain rfl : k = n := by omega
        go_wp2
        go_quiet (fail)
        go_wp2
        go_ret
        exact ⟨rfl, _, by first | rfl | (simp; rfl)⟩

set_option maxHeartbeats 2000000 in
theorem pdq_up (L : Int) (hL : 0 < L) (hs : SortTo xs 13) (w : World) (h : OwnAt w base g 13 cap xs) :
    Calls Try.prog 77 #[.slice (some ⟨g, 0, none⟩) 13 cap, .int .i64 0, .int .i64 13, .int .i64 L] w fun e w' => SortE base g 13 cap xs w e w' := by
  have hp := pivot_up hs w h
  have hi := fun W (hO : OwnAt W base g 13 cap xs) => pins_up 13 (by omega) (by omega) hs W hO
  have hL0 : (L == 0) = false := beq_eq_false_iff_ne.2 (by omega)
  have hL1 : ¬ L = 0 := by omega
  go_enter Try.func77, Try.ntmps77
  go_wp2
  go_loopw [1, 2, 3, 8, 9] (fun a b l wb wp wr => a = .int .i64 0 ∧ b = .int .i64 13 ∧ l = .int .i64 L ∧ wb = .bool true ∧ wp = .bool true ∧ wr = w) (fun _ _ _ _ _ _ => 0)
  case atStart => exact ⟨rfl, rfl, rfl, rfl, rfl, rfl⟩
  case round =>
    obtain ⟨rfl, rfl, rfl, rfl, rfl, rfl⟩ := hrel
    go_wp2_with fail
    refine hp.mono ?_
    rintro e w1 ⟨rfl, b1⟩
    have h1 := h.next b1
    go_wp2_with fail
    refine (hi _ h1).mono ?_
    rintro e w2 ⟨rfl, m, rfl⟩
    have hB := b1.trans ((below_drewN (Below.refl w1.heap.size w1) m).mono b1.size)
    go_wp2
    refine bodyPost_ret (results_none rfl _ _ _) rfl ?_
    exact ⟨⟨_, rfl⟩, xs, List.Perm.refl _, hs, h.next hB, grown_of hB _⟩

theorem sort_any (n : Nat) (h1 : 1 ≤ n) (hn : n ≤ 12 ∨ n = 13 ∧ SortTo xs 13) (w : World) (h : OwnAt w base g n cap xs) :
    Calls Try.prog 51 #[.slice (some ⟨g, 0, none⟩) n cap] w fun e w' => SortE base g n cap xs w e w' := by
  have hl := bitLen_small n h1 (by omega) w
  have hp : ∀ L : Int, 0 < L → Calls Try.prog 77 #[.slice (some ⟨g, 0, none⟩) n cap, .int .i64 0, .int .i64 n, .int .i64 L] w fun e w' => SortE base g n cap xs w e w' := fun L hL => by
    rcases hn with h2 | ⟨rfl, hs⟩
    · exact pdq_small base g n cap xs L h2 w h
    · exact pdq_up L hL hs w h
  have hn2 : n ≤ 13 := by omega
  clear hn
  have wr1 : IntKind.u64.wrap (n : Int) = (n : Int) := IntWalk.u64_in _ (by omega)
  go_enter Try.func51, Try.ntmps51
  go_wp2_with fail
  refine hl.mono ?_
  rintro e w1 ⟨L, hL, rfl, rfl⟩
  go_wp2_with fail
  refine (hp L hL).mono ?_
  rintro e w2 ⟨⟨v, rfl⟩, hz⟩
  go_wp2
  go_end0
  exact ⟨⟨_, rfl⟩, hz⟩
end

/-- slices.Sorted of slices.Values. -/
theorem sorted_any (Ba c : Nat) (A : Option Addr) (xs : List Int) (h1 : 1 ≤ xs.length) (hn : xs.length ≤ 12 ∨ xs.length = 13 ∧ SortTo xs 13) (w0 : World) (h : Sl w0 A c xs) (w : World) (hB0 : Below w0.heap.size w0 w) (ba : Boxed w Ba 28 (.slice A xs.length c)) :
    Calls Try.prog 39 #[.func (.func 52) #[] #[.pointer (some ⟨Ba, 0, none⟩)]] w fun e w' =>
      ∃ (g cap : Nat) (zs : List Int), e = .returned (.slice (some ⟨g, 0, none⟩) xs.length cap) ∧ zs.Perm xs ∧ SortTo zs xs.length ∧ OwnAt w' w.heap.size g xs.length cap zs ∧ Below w.heap.size w w' := by
  have hc := collect_any Ba c A xs (by omega) w0 h w hB0 ba
  have hso := fun g cap W (hO : OwnAt W w.heap.size g xs.length cap xs) => sort_any (xs := xs) xs.length h1 hn W hO
  clear hn
  go_enter Try.func39, Try.ntmps39
  go_wp2_with fail
  refine hc.mono ?_
  rintro e w1 ⟨v, rfl, hown, hB1⟩
  obtain ⟨g, cap, rfl, hg, hlt⟩ := World.ownsRow.form hown h1
  go_wp2_with fail
  refine (hso g cap _ hown).mono ?_
  rintro e w2 ⟨⟨v, rfl⟩, zs, hP, hS, hO, hG⟩
  have hB2 : Below w.heap.size w w2 := hB1.grown hG hB1.size (fun k e => by cases e; exact hg)
  have HO := Lib.hid hO
  clear hO
  go_wp2
  go_ret
  exact ⟨g, cap, zs, rfl, hP, hS, HO.out, hB2⟩
end Go.Proofs.Ytelkmbhhaopafaa

/- slices.Compact at words, as far as the length goes, and distinct of package reedsolomon: whether no word occurs twice. Conditions: at least one word and at most twelve, or thirteen that ascend. -/
namespace Go.Proofs.Ytelkmbhhaopafaa
set_option maxRecDepth 100000
open Go.RowKit PolyMath FieldMath

theorem setCells_below {B : Nat} {a : World} (b : Nat) (hb : B ≤ b) : ∀ (vs : List Value) (o : Nat) {W : World}, Below B a W → Below B a (W.setCells b o vs)
  | [], _, _, h => h
  | v :: vs, o, _, h => setCells_below b hb vs (o + 1) (h.setCell (p := ⟨b, o, none⟩) hb v)

/-- No two neighbours are equal. -/
def ApartN (zs : List Int) (n : Nat) : Prop := ∀ i, 1 ≤ i → i < n → co zs i ≠ co zs (i - 1)

set_option maxHeartbeats 4000000 in
theorem compact_any (base g n cap : Nat) (zs : List Int) (hn : n ≤ 1000) (w : World) (hbase : base ≤ w.heap.size) (h : OwnAt w base g n cap zs) :
    Calls Try.prog 41 #[.slice (some ⟨g, 0, none⟩) n cap] w fun e w' => (∃ (m : Nat), e = .returned (.slice (some ⟨g, 0, none⟩) m cap) ∧ m ≤ n ∧ (m = n ↔ ApartN zs n)) ∧ Below base w w' := by
  have hcap : n ≤ cap := by have := h.sl.cap; have := h.len; omega
  have hlen := Lib.hid h.len
  have hgl := h.lt
  by_cases h2 : n < 2
  · have hA : Hid (ApartN zs n) := Lib.hid (fun i h1 h2 => by omega)
    have hn2 : (n : Int) < 2 := by omega
    go_enter Try.func41, Try.ntmps41
    go_wp2
    go_ret
    exact ⟨⟨n, rfl, Nat.le_refl _, fun _ => hA.out, fun _ => rfl⟩, Below.refl _ _⟩
  · have hn2 : ¬ (n : Int) < 2 := by omega
    have HN := Lib.hid hn
    go_enter Try.func41, Try.ntmps41
    go_wp2
    go_loopw [3] (fun i wr => ∃ (k m : Nat), 1 ≤ k ∧ k ≤ n ∧ i = .int .i64 k ∧ wr = w.drewN m ∧ Hid (ApartN zs k)) (fun i _ => n - (intOf i).toNat)
    case atStart => exact ⟨1, 0, Nat.le_refl _, by omega, rfl, rfl, Lib.hid (fun i h1 h2 => by omega)⟩
    case round =>
      obtain ⟨k, m, hk1, hk, rfl, rfl, hA⟩ := hrel
      by_cases hlt : k < n
      · have c1 := fun t => up_cell h (i := k) hlt (m + t)
        have c2 := fun t => up_cell h (i := k - 1) (by omega) (m + t)
        have hkn : (k : Int) < n := by omega
        have hk1n : (k : Int) - 1 < n := by omega
        have hk0 : (0 : Int) ≤ (k : Int) - 1 := by omega
        have hkp : (0 : Int) < k := by omega
        have hkt : ((k : Int) - 1).toNat = k - 1 := by omega
        have wr1 : IntKind.i64.wrap ((k : Int) - 1) = (k : Int) - 1 := IntWalk.i64_in _ (by omega)
        by_cases e : co zs k = co zs (k - 1)
        · have hN : Hid (¬ ApartN zs n) := Lib.hid fun hA => hA k hk1 hlt e
          have hO := fun t => Lib.hid (h.next (below_drewN (Below.refl _ w) (m + t)))
          have hB := fun t => Lib.hid ((below_drewN (Below.refl w.heap.size w) (m + t)).mono hbase)
          rw [e] at c1
          generalize co zs (k - 1) = x at *
          have hkc : ¬ cap = k := by omega
          have hkcI : (k : Int) ≤ cap := by omega
          have hkcn : (k : Int) ≤ n := by omega
          have hncI : (n : Int) ≤ cap := by omega
          clear hA
          go_wp2
          go_quiet (fail)
          go_wp2
          obtain ⟨W1, hW1⟩ : ∃ W1, W1 = w.drewN (m + nq) := ⟨_, rfl⟩
          have hO1 : OwnAt W1 base g n cap zs := by rw [hW1]; exact (hO nq).out
          have hB1 : Below base w W1 := by rw [hW1]; exact (hB nq).out
          rw [← hW1]
          clear hW1 hO hB c1 c2
          go_loopw [3, 5] (fun a b wr => ∃ (kk j : Nat) (ys : List Int), k ≤ kk ∧ kk < k + j ∧ 1 ≤ j ∧ j ≤ n - k ∧ a = .int .i64 kk ∧ b = .int .i64 j ∧ OwnAt wr base g n cap ys ∧ Below base w wr) (fun _ b _ => (n - k) - (intOf b).toNat)
          case atStart => exact ⟨k, 1, zs, Nat.le_refl _, by omega, Nat.le_refl _, by omega, rfl, rfl, hO1, hB1⟩
          case round =>
            clear hO1 hB1
            obtain ⟨kk, j, ys, hkk, hkj, hj1, hj, rfl, rfl, hO, hB⟩ := hrel
            by_cases hl : j < n - k
            · have d1 := fun t => up_cell hO (i := k + j) (by omega) t
              have d2 := fun t => up_cell hO (i := k + (j - 1)) (by omega) t
              have hjn : (j : Int) < (n - k : Nat) := by omega
              have hj1n : (j : Int) - 1 < (n - k : Nat) := by omega
              have hj0 : (0 : Int) ≤ (j : Int) - 1 := by omega
              have hjp : (0 : Int) < j := by omega
              have hjt : ((j : Int) - 1).toNat = j - 1 := by omega
              have wr2 : IntKind.i64.wrap ((j : Int) - 1) = (j : Int) - 1 := IntWalk.i64_in _ (by omega)
              have hkkn : (kk : Int) < n := by omega
              have hO2 := fun t => Lib.hid (hO.next (below_drewN (Below.refl _ wr) t))
              have hB2 := fun t => Lib.hid (below_drewN hB t)
              generalize co ys (k + j) = x1 at *
              generalize co ys (k + (j - 1)) = x2 at *
              clear hO hB
              by_cases ex : x1 = x2
              · subst ex
                go_wp2
                go_quiet (fail)
                go_wp2
                go_roundw
                case rel => exact ⟨kk, j + 1, ys, hkk, by omega, by omega, by omega, by simp, by simp, (hO2 _).out, (hB2 _).out⟩
                case measure => simp [intOf]; omega
              · have ex' : (x1 != x2) = true := bne_iff_ne.2 ex
                go_wp2
                go_quiet (fail)
                obtain ⟨W2, hW2⟩ : ∃ W2, W2 = wr.drewN nq := ⟨_, rfl⟩
                have hO3 : OwnAt W2 base g n cap ys := by rw [hW2]; exact (hO2 nq).out
                have hB3 : Below base w W2 := by rw [hW2]; exact (hB2 nq).out
                have d3 := d1 nq
                rw [← hW2] at d3 ⊢
                have hf3 := hO3.frozen kk
                have hkl : kk < ys.length := by rw [hO3.len]; omega
                have d4 : W2.cell? ⟨g, kk, none⟩ = some (.int .u64 (co ys kk)) := up_cell hO3 (i := kk) (by omega) 0
                have hO4 := Lib.hid (hO3.put kk x1)
                have hB4 := Lib.hid (hB3.setCell (p := ⟨g, kk, none⟩) hgl.1 (.int .u64 x1))
                clear hW2 hO2 hB2 d1 d2 hO3 hB3
                go_wp2
                go_roundw
                case rel => exact ⟨kk + 1, j + 1, _, by omega, by omega, by omega, by omega, by simp, by simp, hO4.out, hB4.out⟩
                case measure => simp [intOf]; omega
            · obtain rfl : j = n - k := by omega
              have hcl : ∀ ty, (Builtin.clear_ #[28] ty #[.slice (some ⟨g, kk, none⟩) (n - kk) (cap - kk)]).run Try.prog wr = .ok (.tuple #[]) (wr.setCells g kk (List.replicate (n - kk) (.int .u64 0))) :=
                fun ty => Lib.run_clear_slice wr _ _ ty _ Try.underlying28 Try.zeroValue22 rfl rfl g kk _ _ (by omega) (fun q hq => by
                  have := up_cell hO (i := kk + q) (by omega) 0
                  rw [show wr.drewN 0 = wr from rfl] at this
                  rw [this]; rfl) (fun q _ => hO.frozen _)
              have hBE := Lib.hid (setCells_below g hgl.1 (List.replicate (n - kk) (.int .u64 0)) kk hB)
              have hkkc : ¬ cap = kk := by omega
              have hkkI : (kk : Int) ≤ n := by omega
              have hkkI2 : (kk : Int) ≤ cap := by omega
              clear hB
              go_wp2
              go_ret
              exact ⟨⟨kk, rfl, by omega, fun e => absurd e (by omega), fun e => absurd e hN.out⟩, hBE.out⟩
        · have hA2 : Hid (ApartN zs (k + 1)) := Lib.hid fun i h1 h2 => by
            by_cases ei : i = k
            · subst ei; exact e
            · exact hA.out i h1 (by omega)
          have e' : (co zs k == co zs (k - 1)) = false := beq_eq_false_iff_ne.2 e
          generalize co zs (k - 1) = x at *
          generalize co zs k = y at *
          clear hA
          go_wp2
          go_quiet (fail)
          go_wp2
          go_roundw
          case rel => exact ⟨k + 1, _, by omega, by omega, by simp, by first | rfl | (simp; rfl), hA2⟩
          case measure => simp [intOf]; omega
      · obtain rfl : k = n := by omega
        have hB := Lib.hid (fun t => (below_drewN (Below.refl w.heap.size w) t).mono hbase)
        go_wp2
        go_ret
        exact ⟨⟨_, rfl, Nat.le_refl _, fun _ => hA.out, fun _ => rfl⟩, hB.out _⟩

theorem sort_nodup {zs : List Int} {n : Nat} (hl : zs.length = n) (hs : SortTo zs n) : ApartN zs n ↔ zs.Nodup := by
  constructor
  · intro h
    have up : ∀ b a, a < b → b < n → co zs a < co zs b := by
      intro b
      induction b with
      | zero => intro a h1; omega
      | succ b ih =>
        intro a h1 h2
        have h3 := hs b (b + 1) (by omega) h2
        have h4 := h (b + 1) (by omega) h2
        rw [Nat.add_sub_cancel] at h4
        rcases (show a < b ∨ a = b by omega) with h5 | rfl
        · have := ih a h5 (by omega); omega
        · omega
    refine List.pairwise_iff_getElem.2 fun i j hi hj hij e => ?_
    have := up j i hij (by omega)
    rw [co_get hi, co_get hj, e] at this
    omega
  · intro h i h1 h2 e
    have := co_inj h (i := i) (j := i - 1) (by omega) (by omega) e
    omega

set_option maxHeartbeats 1000000 in
theorem distinct_any (A : Option Addr) (c : Nat) (xs : List Int) (h1 : 1 ≤ xs.length) (hn : xs.length ≤ 12 ∨ xs.length = 13 ∧ SortTo xs 13) (w : World) (h : Sl w A c xs) :
    Calls Try.prog 30 #[.slice A xs.length c] w fun e w' => e = .returned (.bool (decide xs.Nodup)) ∧ Below w.heap.size w w' := by
  have hB0 : Below w.heap.size w (w.alloc (.cells #[.slice A xs.length c] 28)) := (Below.refl _ w).alloc (Nat.le_refl _) _
  have hso := sorted_any w.heap.size c A xs h1 hn w h _ hB0 (Boxed.new w 28 (.slice A xs.length c))
  have hn2 : xs.length ≤ 1000 := by omega
  have hco := fun base g cap zs W hb hO => compact_any base g xs.length cap zs hn2 W hb hO
  clear hn
  have HL := Lib.hid hn2
  obtain ⟨N, hN⟩ : ∃ N, N = xs.length := ⟨_, rfl⟩
  rw [← hN] at hso hco h1 hB0 ⊢
  have HN := Lib.hid hN
  clear hN hn2
  go_enter Try.func30, Try.ntmps30
  go_wp2_with fail
  refine (values_any A N c w).mono ?_
  rintro e w1 ⟨rfl, rfl⟩
  go_wp2_with fail
  refine hso.mono ?_
  rintro e w2 ⟨g, cap, zs, rfl, hP, hS, hO, hB2⟩
  have hb2 := hB2.size
  go_wp2_with fail
  refine (hco _ g cap zs w2 hb2 hO).mono ?_
  rintro e w3 ⟨⟨m, rfl, hm, hiff⟩, hB3⟩
  have e1 : xs.Nodup ↔ m = N := (hP.nodup_iff.symm.trans (sort_nodup (hP.length_eq.trans HN.out.symm) hS).symm).trans hiff.symm
  have hE : Hid (((m : Int) == (N : Int)) = decide xs.Nodup) := Lib.hid (by
    by_cases hm' : m = N
    · rw [decide_eq_true (e1.2 hm'), hm', beq_self_eq_true]
    · rw [decide_eq_false fun h => hm' (e1.1 h)]
      exact beq_eq_false_iff_ne.2 (by omega))
  have hB4 : Below w.heap.size w w3 := hB0.trans ((hB2.trans hB3).mono (by simp))
  clear hiff hO hP hS e1
  go_wp2
  go_ret
  exact ⟨by rw [← hE.out]; rfl, hB4⟩
end Go.Proofs.Ytelkmbhhaopafaa

/- Decode of package reedsolomon: the polynomial within the bounds with the indices of its errors, or the error; nothing that lay is changed. Conditions: a supported prime, points over its field, at most twelve, or thirteen at ascending places. -/
namespace Go.Proofs.Ytelkmbhhaopafaa
set_option maxRecDepth 100000
open Go.RowKit PolyMath FieldMath MatMath

/-- What Decode hands back. -/
def DecE (p : Int) (ps : List (Int × Int)) (deg wr : Int) (w : World) (e : Ending) (w' : World) : Prop :=
  (¬ Valid ps deg wr ∧ e = .returned (.tuple #[.slice none 0 0, .slice none 0 0, .int .i64 1]) ∧ Below w.heap.size w w') ∨
  (Valid ps deg wr ∧ (∀ f, ¬ Dec p ps deg.toNat wr.toNat f) ∧ e = .returned (.tuple #[.slice none 0 0, .slice none 0 0, .int .i64 9]) ∧ Below w.heap.size w w') ∨
  (Valid ps deg wr ∧ ∃ f A c A2 c2, Dec p ps deg.toNat wr.toNat f ∧ e = .returned (.tuple #[.slice A f.length c, .slice A2 (errI p f ps).length c2, .int .i64 0]) ∧ Sl w' A c f ∧ Si w' A2 c2 (errI p f ps) ∧ Below w.heap.size w w')

set_option maxHeartbeats 4000000 in
theorem decode_any (p : Int) (hp : OkP p) (B : Option Addr) (cb : Nat) (ps : List (Int × Int)) (hx : El p (px ps)) (hy : El p (py ps)) (deg wr : Int) (hl : ps.length ≤ 12 ∨ ps.length = 13 ∧ SortTo (px ps) 13) (w : World) (sp : Pt w B cb ps) :
    Calls Try.prog 11 #[.int .u64 p, .slice B ps.length cb, .int .i64 deg, .int .i64 wr] w fun e w' => DecE p ps deg wr w e w' := by
  have hbd := hp.bd
  have hl3 : ps.length ≤ 13 := by omega
  have hen := enough_any ps.length (by omega) deg wr w
  by_cases hE : Enough ps.length deg wr
  · have hE' := hE
    obtain ⟨h1, h2, h3⟩ := hE'
    rw [decide_eq_true hE] at hen
    have hab := absc8_row B cb ps (by omega) w sp
    unfold Row at hab
    simp only [px_len] at hab
    have hdi := fun A c W h => distinct_any A c (px ps) (by rw [px_len]; omega) (by rw [px_len]; exact hl) W h
    simp only [px_len] at hdi
    obtain ⟨dn, rfl⟩ : ∃ dn : Nat, deg = dn := ⟨deg.toNat, by omega⟩
    obtain ⟨wn, rfl⟩ : ∃ wn : Nat, wr = wn := ⟨wr.toNat, by omega⟩
    have hlen : dn + 1 + 2 * wn ≤ ps.length := by omega
    have hca := fun W h => cand_any p hp B cb ps hx hy dn wn (by omega) (by omega) (by omega) W h
    have hHE := Lib.hid hE
    have hHL := Lib.hid hlen
    clear hE hl h1 h2 h3
    go_enter Try.func11, Try.ntmps11
    go_wp2_with fail
    refine hen.mono ?_
    rintro e w1 ⟨rfl, rfl⟩
    go_wp2_with fail
    refine hab.mono ?_
    rintro e w2 ⟨A2, c2, rfl, hs2, hb2⟩
    go_wp2_with fail
    refine (hdi A2 c2 w2 hs2).mono ?_
    rintro e w3 ⟨rfl, hb3⟩
    have hB3 := hb2.trans (hb3.mono hb2.size)
    have sp3 := sp.next hB3
    clear hb2 hb3 hs2 hdi hab hen
    by_cases hn : (px ps).Nodup
    · rw [decide_eq_true hn]
      have hV : Valid ps dn wn := ⟨hHE.out, hn⟩
      have HV := Lib.hid hV
      have HNd := Lib.hid hn
      clear hV hn
      go_wp2_with fail
      refine (hca w3 sp3).mono ?_
      clear hca
      rintro e w4 (⟨hs, rfl, hb4⟩ | ⟨s, f, r, A4, c4, hs, hDM, rfl, hs4, hb4⟩)
      · have hB4 := hB3.trans (hb4.mono hB3.size)
        have hno : Hid (∀ f, ¬ Dec p ps dn wn f) := Lib.hid (no_cand hp.good (by omega) hx hs)
        clear hs
        go_wp2
        go_ret3
        exact .inr (.inl ⟨HV.out, by simpa using hno.out, rfl, hB4⟩)
      · have hB4 := hB3.trans (hb4.mono hB3.size)
        have hC := cand_of hp.good (by omega) hs
        have hq := hC.quot hp.good hDM
        have her := errp_row p hp A4 B c4 cb f hDM.qe (by omega) ps hx (by omega) w4 hs4 (sp3.next hb4)
        have hyes : Hid ((errs p f ps).length ≤ wn → Dec p ps dn wn f) := Lib.hid fun h => hC.yes hp.good hDM h
        have honly : Hid (∀ g, Dec p ps dn wn g → g = f) := Lib.hid fun g hg => hC.only hp.good HNd.out hx hHL.out hDM hg
        clear hs hDM hC hb4 sp3
        go_wp2_with fail
        refine her.mono ?_
        rintro e w5 ⟨A5, c5, rfl, hs5, hb5⟩
        have hB5 := hB4.trans (hb5.mono hB4.size)
        have hs4' := hs4.next hb5
        by_cases hew : (errs p f ps).length ≤ wn
        · have hd := Lib.hid (hyes.out hew)
          have hcmp : ¬ (wn : Int) < (errI p f ps).length := by rw [errI_len]; omega
          have HS4 := Lib.hid hs4'
          have HS5 := Lib.hid hs5
          clear hyes honly hs4' hs5 hew hs4
          generalize hL5 : (errI p f ps).length = L5 at *
          have HL5 := Lib.hid hL5
          clear hL5
          go_wp2
          go_ret3
          exact .inr (.inr ⟨HV.out, f, A4, c4, A5, c5, by simpa using hd.out, by rw [HL5.out]; rfl, HS4.out, HS5.out, hB5⟩)
        · have hno : Hid (∀ g, ¬ Dec p ps dn wn g) := Lib.hid fun g hg => hew (by rw [← honly.out g hg]; exact hg.few)
          have hcmp : (wn : Int) < (errI p f ps).length := by rw [errI_len]; omega
          clear hyes honly hs4' hs5 hew hs4
          generalize (errI p f ps).length = L5 at *
          go_wp2
          go_ret3
          exact .inr (.inl ⟨HV.out, by simpa using hno.out, rfl, hB5⟩)
    · rw [decide_eq_false hn]
      have hV : ¬ Valid ps dn wn := fun h => hn h.2
      have HV := Lib.hid hV
      clear hV hn
      go_wp2
      go_ret3
      exact .inl ⟨HV.out, rfl, hB3⟩
  · rw [decide_eq_false hE] at hen
    have HV : Hid (¬ Valid ps deg wr) := Lib.hid fun h => hE h.1
    clear hE
    go_enter Try.func11, Try.ntmps11
    go_wp2_with fail
    refine hen.mono ?_
    rintro e w1 ⟨rfl, rfl⟩
    go_wp2
    go_ret3
    exact .inl ⟨HV.out, rfl, Below.refl _ _⟩
end Go.Proofs.Ytelkmbhhaopafaa
