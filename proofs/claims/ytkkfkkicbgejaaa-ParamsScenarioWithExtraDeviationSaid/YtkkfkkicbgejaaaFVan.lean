/- VanishingPolynomial of package params and of the reference of layer 12 at valid coalitions. Nothing that lay is changed. Conditions: a valid coalition. -/
import Derived.Test.YtkkfkkicbgejaaaFExt
import Derived.Test.YtkkfkkicbgejaaaIPoly
import Derived.Test.YtkkfkkicbgejaaaPRefMul
namespace Go.Proofs.Ytkkfkkicbgejaaa
set_option maxRecDepth 100000
open Go.RowKit PolyMath FieldMath PartyMath

theorem info_pt : (Try.prog.info? 57).map (fun i => (i.zero, i.size, i.bytes)) = some (some (.agg #[.int .u64 0, .int .u64 0]), 2, 16) := by kernel_rfl
theorem OI.at_ {w : World} {B g c k : Nat} {xs : List Int} (h : OI w B (.slice (some ⟨g, 0, none⟩) xs.length c) xs) {x : Int} (hx : xs[k]? = some x) : w.cell? ⟨g, k, none⟩ = some (.int .i64 x) := by
  have hk := (List.getElem?_eq_some_iff.1 hx).1
  rw [World.ownsRow.cellAt h k (by omega), List.getElem?_map, hx]; rfl
theorem Coal.lt {p : Int} {N T : Nat} {xs : List Int} (h : Coal p N T xs) : (N : Int) < p := by have := h.ok.bd; have := h.n13; omega

theorem quiet_tuple {P : Program} {f : FuncId} {args : Array Value} {w : World} {a n : Nat} {v : Value} (h : Calls P f args (w.drewN (a + n)) fun e w' => e = .returned v ∧ w.drewN (a + n) = w') : Calls P f args (w.drewN (a + n)) fun e w'' => e = .returned v ∧ ∃ m, w'' = w.drewN (a + m) :=
  h.mono fun _ _ ⟨he, hw⟩ => ⟨he, n, hw.symm⟩

set_option maxHeartbeats 2000000 in
theorem van_any (p : Int) (N T : Nat) (A : Option Addr) (c : Nat) (xs : List Int) (hC : Coal p N T xs) (w : World) (h : Si w A c xs) :
    Calls Try.prog 22 #[pv p N T, .slice A xs.length c] w fun e w' => Row w e w' (vp p [1] (ext xs N (T - xs.length))) := by
  obtain ⟨i0, hi0, hz0, hz1, hz2⟩ := info_parts info_pt
  have hv := fun W (hs : Si W A c xs) => coal_any p N T (by have := hC.n13; unfold Wi; omega) (by have := hC.t3; have := hC.n13; unfold Wi; omega) A c xs hC.l1000 hC.nums W hs
  rw [hC.is] at hv
  have hX1 := Lib.hid (Bx.made w p N T)
  have hB1 := Lib.hid ((Below.refl _ w).alloc (Nat.le_refl _) (.cells #[.int .u64 p, .int .i64 N, .int .i64 T] 24))
  have hS := h.push (.cells #[.int .u64 p, .int .i64 N, .int .i64 T] 24)
  have hext := fun W (hs : Si W A c xs) => ext_any p N T A c xs hC W hs
  have hpl := ext_plc hC.lt xs (T - xs.length)
  have hfl := hC.full
  have hmem : ∀ x ∈ ext xs N (T - xs.length), 1 ≤ x ∧ x ≤ 13 := fun x hx => by have := (mem_ext.1 hx).1; have := hC.n13; omega
  have hT4 : T ≤ 4 := by have := hC.t3; have := hC.n13; omega
  have hT1 := hC.t1
  have hp := hC.ok
  have hbd := hp.bd
  unfold pv at hv hext ⊢
  generalize ext xs N (T - xs.length) = E at *
  have hEl := Lib.hid hfl
  have hpol := fun A' c' W (hpt : Pt W A' c' (vpts E)) => pol_any p hp A' c' (vpts E) (hpl.ex (by omega)) (vpts_ey (by omega) E) (by rw [vpts_len]; omega) W hpt
  have hthru := Lib.hid (thru_vp hp.good hpl)
  have hndp := hpl.nodup
  have hvl := Lib.hid (vpts_len E)
  go_enter Try.func22, Try.ntmps22
  go_wp2_with fail
  refine (hv _ hS).mono ?_; rintro e w1 ⟨rfl, hb⟩
  have hX2 := hX1.out.next hb
  have hB2 := Lib.hid (hB1.out.trans (hb.mono (by simp)))
  have hS2 := hS.next hb
  clear hb hS hv
  have hP0 : (w1.alloc (.cells #[.int .u64 0, .int .u64 1] 57)).ownsRow w1.heap.size 57 2 (.slice (some ⟨w1.heap.size, 0, none⟩) 1 1) 1 (pcells (vpts (E.take 0))) := World.ownsRow_lit w1 #[.int .u64 0, .int .u64 1] 1 (Nat.le_refl _) (by decide) rfl
  have hb3 := (Below.refl w1.heap.size w1).alloc (Nat.le_refl _) (.cells #[.int .u64 0, .int .u64 1] 57)
  have hX3 := hX2.next hb3
  have hS3 := hS2.next hb3
  clear hS2
  have hX2' := hX2
  obtain ⟨a0, a1, a2, hal⟩ := hX2'
  have hane : w.heap.size ≠ w1.heap.size := by omega
  go_wp2_with fail
  refine (hext _ hS3).mono ?_; rintro e w2 ⟨v, rfl, hO, hb⟩
  obtain ⟨g5, c5, rfl, hg5, hgl5, hcap5, hcl5⟩ := hO.open_ (fun e => by rw [e] at hfl; simp at hfl; omega)
  have hP1 := own_belowN hP0 hb
  have hb4 := hb3.trans (hb.mono hb3.size)
  have hO2 := hO.weak (B' := w1.heap.size) (by simp)
  clear hb hext hX3 hS3 hb3 hP0 hcl5 hO a0 a1 a2 hal hane
  go_wp2
  go_loopw [5, 20] (fun v i wr => ∃ k : Nat, k ≤ E.length ∧ i = .int .i64 k ∧ Hid (wr.ownsRow w1.heap.size 57 2 v (k + 1) (pcells (vpts (E.take k)))) ∧ Hid (OI wr w1.heap.size (.slice (some ⟨g5, 0, none⟩) E.length c5) E) ∧ Below w1.heap.size w1 wr) (fun _ i _ => E.length - (intOf i).toNat)
  case atStart => exact ⟨0, Nat.zero_le _, rfl, Lib.hid hP1, Lib.hid hO2, hb4⟩
  case round =>
    obtain ⟨k, hk, rfl, hP, hO, hB⟩ := hrel
    obtain ⟨d0, d1, d2, hlt0⟩ := hX2.next hB
    have hsz := hB.size
    by_cases hlt : k < E.length
    · obtain ⟨x, hx⟩ : ∃ x, E[k]? = some x := ⟨_, List.getElem?_eq_getElem hlt⟩
      have hcx := hO.out.at_ hx
      have hxb := hmem x (List.mem_of_getElem? hx)
      have hcv : IntKind.u64.wrap x = x := IntWalk.u64_in _ (by omega)
      have hkN : (k : Int) < E.length := by omega
      have hnx := Lib.hid (show vpts (E.take (k + 1)) = vpts (E.take k) ++ [(x, 0)] by rw [List.take_add_one, hx]; exact vpts_snoc _ _)
      have hgx := (hO.out.lt g5 rfl).2
      have hne2 : g5 ≠ wr.heap.size := by omega
      have hrow3 := hP.out.alloc (.cells #[.int .u64 x, .int .u64 0] 57)
      have hO3 := Lib.hid (hO.out.next ((Below.refl wr.heap.size wr).alloc (Nat.le_refl _) (.cells #[.int .u64 x, .int .u64 0] 57)))
      have hE4 : E.length ≤ 4 := by omega
      clear hx hP hO
      go_wp2_with (at_builtin; refine wpList_append_own _ rfl _ _ 58 rfl w1.heap.size 57 i0 _ 2 16 Try.underlying58 hi0 hz0 hz1 hz2 rfl (by decide) _ _ _ rfl hrow3 ⟨wr.heap.size, 0, none⟩ 1 1 [.int .u64 x, .int .u64 0] rfl rfl (cell_two_new _ _ _ _) (by simp [Value.oneCell']) (by simp only [maxLen]; omega) (by omega) (by simp; omega) ?_; intro v' w3 hown hgrow _)
      have hB3 : Below w1.heap.size w1 w3 := (hB.alloc (Nat.le_trans hsz (Nat.le_refl _)) _).grown hgrow (by simp; omega) (fun q e => (hrow3.lt q e).1)
      have hO4 := World.ownsRow.kept hO3.out hgrow ((own_apart hO3.out hrow3 (by decide)).imp id (fun h e => h e.symm))
      go_roundw
      case rel => exact ⟨k + 1, by omega, by simp, by rw [hnx.out, pcells_snoc]; exact Lib.hid hown, Lib.hid hO4, hB3⟩
      case measure => simp [intOf]; omega
    · obtain rfl : k = E.length := by omega
      have hrow := hP.out
      rw [List.take_length, ← hvl.out] at hrow
      obtain ⟨A6, c6, rfl, hpt⟩ := pown_form hrow
      have hB5 := Lib.hid (hB2.out.trans (hB.mono hB2.out.size))
      have hq := hpol A6 c6 _ hpt
      clear hP hO hrow hpol
      generalize (vpts E).length = L at *
      go_wp2_with fail
      refine hq.mono ?_
      rintro e w4 (⟨_, A7, c7, rfl, hs7, hb7⟩ | ⟨hno, _⟩)
      case inr => exact absurd hndp hno
      case inl =>
        rw [hthru.out] at hs7 ⊢
        go_wp2
        go_ret
        exact ⟨A7, c7, rfl, hs7, hB5.out.trans (hb7.mono hB5.out.size)⟩
set_option maxHeartbeats 2000000 in
theorem rVan_any (p : Int) (N T : Nat) (A : Option Addr) (c : Nat) (xs : List Int) (hC : Coal p N T xs) (w : World) (h : Si w A c xs) :
    Calls Try.prog 24 #[pv p N T, .slice A xs.length c] w fun e w' => Row w e w' (vp p [1] (ext xs N (T - xs.length))) := by
  have hX1 := Lib.hid (Bx.made w p N T)
  have hB1 := Lib.hid ((Below.refl _ w).alloc (Nat.le_refl _) (.cells #[.int .u64 p, .int .i64 N, .int .i64 T] 24))
  have hS := h.push (.cells #[.int .u64 p, .int .i64 N, .int .i64 T] 24)
  have hext := fun W (hs : Si W A c xs) => rExt_any p T N (T - xs.length) hC.n13 A c xs hC.l1000 (by have := hC.t3; have := hC.n13; omega) (by have := hC.len; omega) W hs
  have hpl := ext_plc hC.lt xs (T - xs.length)
  have hfl := hC.full
  have hmem : ∀ x ∈ ext xs N (T - xs.length), 1 ≤ x ∧ x ≤ 13 := fun x hx => by have := (mem_ext.1 hx).1; have := hC.n13; omega
  have hT4 : T ≤ 4 := by have := hC.t3; have := hC.n13; omega
  have hT1 := hC.t1
  have hp := hC.ok
  have hbd := hp.bd
  unfold pv at hext ⊢
  generalize ext xs N (T - xs.length) = E at *
  have hE4 : E.length ≤ 4 := by omega
  have hne : Hid (E ≠ []) := Lib.hid (fun e => by rw [e] at hfl; simp at hfl; omega)
  clear hfl
  go_enter Try.func24, Try.ntmps24
  have hs1 : w.heap.size ≤ (w.alloc (.cells #[.int .u64 p, .int .i64 N, .int .i64 T] 24)).heap.size := by simp
  have hS2 := hS.push (.cells #[.int .u64 1] 22)
  have hB2 := bnew hB1.out (.cells #[.int .u64 1] 22) (Nat.le_refl _)
  have hX2 := hX1.out.next ((Below.refl _ (w.alloc (.cells #[.int .u64 p, .int .i64 N, .int .i64 T] 24))).alloc (Nat.le_refl _) (.cells #[.int .u64 1] 22))
  have hZ0 := Sl.l1 (w.alloc (.cells #[.int .u64 p, .int .i64 N, .int .i64 T] 24)) 1
  rw [World.size_alloc] at hZ0
  go_wp2_with fail
  refine (hext _ hS2).mono ?_; rintro e w2 ⟨v, rfl, hO, hb⟩
  obtain ⟨g5, c5, rfl, hg5, hgl5, hcap5, hcl5⟩ := hO.open_ hne.out
  have hX3 := hX2.next hb
  have hZ1 := hZ0.next hb
  have hB3 := Lib.hid (hB2.trans (hb.mono hB2.size))
  have hZ2 : Sl w2 (some ⟨w.heap.size + 1, 0, none⟩) 1 (vp p [1] (E.take 0)) := hZ1
  clear hb hext hS2 hS hZ0 hZ1 hX2 hB2 hs1 hO
  go_wp2
  go_loopw [5, 7] (fun v i wr => ∃ (k : Nat) (A' : Option Addr) (c' : Nat), k ≤ E.length ∧ i = .int .i64 k ∧ v = .slice A' (vp p [1] (E.take k)).length c' ∧ Sl wr A' c' (vp p [1] (E.take k)) ∧ Below w2.heap.size w2 wr) (fun _ i _ => E.length - (intOf i).toNat)
  case atStart => exact ⟨0, some ⟨w.heap.size + 1, 0, none⟩, 1, Nat.zero_le _, rfl, rfl, hZ2, Below.refl _ _⟩
  case round =>
    obtain ⟨k, A', c', hk, rfl, rfl, hZ, hB⟩ := hrel
    obtain ⟨d0, d1, d2, hlt0⟩ := hX3.next hB
    have hsz := hB.size
    by_cases hlt : k < E.length
    · obtain ⟨x, hx⟩ : ∃ x, E[k]? = some x := ⟨_, List.getElem?_eq_getElem hlt⟩
      have hcx := (hB.cell (p := ⟨g5, k, none⟩) hgl5).trans (hcl5 k x hx)
      have hxb := hmem x (List.mem_of_getElem? hx)
      have hcv : IntKind.u64.wrap x = x := IntWalk.u64_in _ (by omega)
      have hkN : (k : Int) < E.length := by omega
      have hnx := Lib.hid (vp_take p hx)
      have hzl := vp_len p (E.take k) [1]
      have hze := vp_el (p := p) (by omega) (E.take k) [1] (El.one (by omega))
      rw [List.length_singleton, List.length_take] at hzl
      generalize vp p [1] (E.take k) = Z at *
      have hinv := fun W => rInv_any p x hp (by omega) (by omega) W
      have hib := fpow_bd p x (p - 2) (by omega)
      have hfd : finv p x = fpow p x (p - 2) := rfl
      have hfacE : fac p x = [1, fneg p (finv p x)] := rfl
      rw [← hfd] at hinv hib
      generalize finv p x = y at *
      have hneg := fun W => rNeg_any p y hp hib.1 hib.2 W
      have hmul : ∀ W B, Sl W A' c' Z → Sl W B 2 [1, fneg p y] → Calls Try.prog 38 #[.int .u64 p, .slice A' Z.length c', .slice B 2 2] W fun e w' => Row W e w' (pmul p Z [1, fneg p y]) := fun W B h1 h2 => rMulP_row p hp A' B c' 2 Z [1, fneg p y] hze (by rw [← hfacE]; exact fac_el (by omega) x) (by omega) (by show (2 : Nat) ≤ 400; omega) W h1 h2
      rw [← hfacE] at hmul
      have hlit := fun W => Sl.l2 W 1 (fneg p y)
      rw [← hfacE] at hlit
      have hm2 := Lib.hid hnx.out
      clear hx hfd hfacE hmem hcl5
      generalize fneg p y = ny at *
      go_wp2
      go_quiet ((go_at_call 37; exact quiet_left (hinv _)))
      have hd5 := below_drewN (Below.refl wr.heap.size wr) nq
      have e0 := (hd5.cell (p := ⟨w.heap.size, 0, none⟩) hlt0).trans d0
      have hZ5 := hZ.next hd5
      have hB5 := Lib.hid (hB.trans (hd5.mono hB.size))
      have hz5 := hB5.out.size
      have hlt5 : w.heap.size < (wr.drewN nq).heap.size := Nat.lt_of_lt_of_le hlt0 hd5.size
      clear hd5 d0 d1 d2 hcx hinv hZ hlt0 hsz
      generalize wr.drewN nq = W5 at *
      have hne5 : w.heap.size ≠ W5.heap.size := by omega
      have hZ6 := Lib.hid ((hZ5.push (.cells #[.int .u64 1, .int .u64 ny] 22)).drew)
      have hB6 := Lib.hid (bnew hB5.out (.cells #[.int .u64 1, .int .u64 ny] 22) (Nat.le_refl _)).drew
      go_wp2_with fail
      go_region_held3 (fun w' => w'.cell? ⟨w.heap.size, 0, none⟩ = some (.int .u64 p))
        (first | assumption | go_simp)
        (first
          | (go_at_call 39; (with_reducible refine (hneg _).mono ?_); rintro e w' ⟨rfl, rfl⟩)
          | (go_at_call 38; (with_reducible refine (hmul _ _ hZ6.out (hlit W5).drew).mono ?_); rintro e w7 ⟨A7, c7, rfl, hs7, hb7⟩; have e7 : w7.cell? ⟨w.heap.size, 0, none⟩ = some (.int .u64 p) := by (rw [(bcell hb7).1 _ _ (by simp; omega)]; go_simp)))
      all_goals
        go_wp2
        go_roundw
        case rel => exact ⟨k + 1, A7, c7, by omega, by simp, by rw [hm2.out], by rw [hm2.out]; exact hs7, hB6.out.trans (hb7.mono hB6.out.size)⟩
        case measure => simp [intOf]; omega
    · obtain rfl : k = E.length := by omega
      rw [List.take_length] at hZ
      go_wp2
      go_ret
      exact ⟨A', c', by rw [List.take_length]; rfl, hZ, hB3.out.trans (hB.mono hB3.out.size)⟩
end Go.Proofs.Ytkkfkkicbgejaaa
