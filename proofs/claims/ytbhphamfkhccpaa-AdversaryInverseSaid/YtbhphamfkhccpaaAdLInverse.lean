/- A deviation and its inverse cancel; a drop empties what it concerns. No conditions. -/
import Derived.Test.YtbhphamfkhccpaaAdOpn
import Derived.Test.YtbhphamfkhccpaaAdInv
import Derived.Test.YtbhphamfkhccpaaFrame
import Derived.Deep.CutRange
namespace Go.Proofs.Ytbhphamfkhccpaa.adversaryInverse
set_option maxRecDepth 100000
open Go.ChangeShapes Go.WideShapes Go.ChangeAt Go.RowKit PolyMath FieldMath PartyMath

set_option maxHeartbeats 8000000 in
theorem walk (P N T : Int) (Ac Ad At : Option Addr) (cc cd ct : Nat) (co : List Int) (ds : List Dv) (ts : List (List Int)) (r : Int) (Am : Option Addr) (cm : Nat) (M : List (List (List Int))) (Aa : Option Addr) (ca : Nat) (all : List (List Int)) (x : Nat) (y : Nat) (wP : Wd P) (_hwr : Wi r) (hF : FitA N T co ds ts M all) (hk : ∀ d ∈ ds, Wd d.k) (hw : (∀ R ∈ M, ∀ l ∈ R, Words l) ∧ ∀ l ∈ all, Words l) (_wx : x ≤ 255) (wy : y ≤ 255) (w : World) (hL : LieA w Ac Ad At cc cd ct co ds ts Am cm M Aa ca all) :
    Calls Try.prog 8 #[.agg #[.int .u64 P, .int .i64 N, .int .i64 T, .slice Ac co.length cc, .slice Ad ds.length cd, .slice At ts.length ct, .int .i64 r, .slice Am M.length cm, .slice Aa all.length ca], .int .u8 x, .int .u8 y] w fun e w' => e = .returned (.bool true) ∧ Below w.heap.size w w' := by
  have hX1 := Lib.hid (Ax.made w P N T (.slice Ac co.length cc) (.slice Ad ds.length cd) (.slice At ts.length ct) r (.slice Am M.length cm) (.slice Aa all.length ca))
  have hB1 := Lib.hid ((Below.refl _ w).alloc (Nat.le_refl _) (.cells #[.int .u64 P, .int .i64 N, .int .i64 T, .slice Ac co.length cc, .slice Ad ds.length cd, .slice At ts.length ct, .int .i64 r, .slice Am M.length cm, .slice Aa all.length ca] 32))
  have hL1 := hL.next hB1.out
  have hmay := fun W hW => may_any P N T wP Ac Ad At cc cd ct co ds ts r Am cm M Aa ca all hF W hW
  cases hq : mayB P N T co ds ts M all with
  | false =>
    rw [hq] at hmay
    go_enter Try.func8, Try.ntmps8
    go_wp2_with fail
    refine (hmay _ hL1).mono ?_; rintro e w1 ⟨rfl, hb⟩
    go_wp2_with fail
    refine (awake_any _).mono ?_; rintro e w2 ⟨rfl, hb2⟩
    go_wp2_with fail
    go_ret
    exact ⟨rfl, hB1.out.trans ((hb.trans (hb2.mono hb.size)).mono hB1.out.size)⟩
  | true =>
    rw [hq] at hmay
    obtain ⟨N, T, rfl, rfl, hO, hmN, hrN, haN, hf2, hf1, h30⟩ := may_good hq hk hw
    have hN13 := hO.coal.n13
    have hN4 := hO.coal.n4
    have hp := hO.coal.ok
    have hpb := hp.bd
    have hp0 : 0 < P := by omega
    rw [hmN, haN] at hX1 hB1 hL1 hmay ⊢
    have HmN := Lib.hid hmN
    have HrN := Lib.hid hrN
    have HaN := Lib.hid haN
    have HOK := Lib.hid hO
    clear hF hk hw hq hmN hrN haN hL
    by_cases h0 : co.length = 0
    · have hzH := Lib.hid (show ((co.length : Int) == 0) = true by rw [h0]; rfl)
      clear h0
      go_enter Try.func8, Try.ntmps8
      go_wp2_with fail
      refine (hmay _ hL1).mono ?_; rintro e w1 ⟨rfl, hb⟩
      have hX2 := Lib.hid (hX1.out.next hb)
      have hB2 := Lib.hid (hB1.out.trans (hb.mono hB1.out.size))
      have hL2 := hL1.next hb
      have hc2 := hL2.sc.co
      have hd2 := hL2.sc.ds
      have hm2 := hL2.ms.s2 HmN.out HrN.out
      have ha2 := Sf.of_sll hL2.al HaN.out
      clear hb hX1 hB1 hL1 hL2 hmay
      obtain ⟨c0, c1, c2, c3, c4, c5, c6, c7, c8, hlt⟩ := id hX2.out
      have hz := hzH.out
      go_wp2_with fail
      refine (awake_any _).mono ?_; rintro e w2 ⟨rfl, hb2⟩
      go_wp2_with fail
      go_ret
      exact ⟨rfl, hB2.out.trans (hb2.mono hB2.out.size)⟩
    · have hzH := Lib.hid (show ((co.length : Int) == 0) = false by rw [beq_eq_false_iff_ne]; omega)
      have h0H := Lib.hid (show 0 < co.length by omega)
      have hl1 := hO.coal.l1000
      clear h0
      by_cases hr0 : r < 0
      · have hrH := Lib.hid hr0
        clear hr0
        go_enter Try.func8, Try.ntmps8
        go_wp2_with fail
        refine (hmay _ hL1).mono ?_; rintro e w1 ⟨rfl, hb⟩
        have hX2 := Lib.hid (hX1.out.next hb)
        have hB2 := Lib.hid (hB1.out.trans (hb.mono hB1.out.size))
        have hL2 := hL1.next hb
        have hc2 := hL2.sc.co
        have hd2 := hL2.sc.ds
        have hm2 := hL2.ms.s2 HmN.out HrN.out
        have ha2 := Sf.of_sll hL2.al HaN.out
        clear hb hX1 hB1 hL1 hL2 hmay
        obtain ⟨c0, c1, c2, c3, c4, c5, c6, c7, c8, hlt⟩ := id hX2.out
        have hz := hzH.out
        have hr0 := hrH.out
        go_wp2_with fail
        refine (awake_any _).mono ?_; rintro e w2 ⟨rfl, hb2⟩
        go_wp2_with fail
        go_ret
        exact ⟨rfl, hB2.out.trans (hb2.mono hB2.out.size)⟩
      · have hrH := Lib.hid hr0
        clear hr0
        go_enter Try.func8, Try.ntmps8
        go_wp2_with fail
        refine (hmay _ hL1).mono ?_; rintro e w1 ⟨rfl, hb⟩
        have hX2 := Lib.hid (hX1.out.next hb)
        have hB2 := Lib.hid (hB1.out.trans (hb.mono hB1.out.size))
        have hL2 := hL1.next hb
        have hc2 := hL2.sc.co
        have hd2 := hL2.sc.ds
        have hm2 := hL2.ms.s2 HmN.out HrN.out
        have ha2 := Sf.of_sll hL2.al HaN.out
        clear hb hX1 hB1 hL1 hL2 hmay
        obtain ⟨c0, c1, c2, c3, c4, c5, c6, c7, c8, hlt⟩ := id hX2.out
        have hz := hzH.out
        have hr0 := hrH.out
        obtain ⟨bc, oc, kx, hAc, hbc, hkx, hcx⟩ := hc2.at_ h0H.out
        subst hAc
        rw [Nat.add_zero] at hcx
        have hkm := hO.coal.mem kx (List.mem_of_getElem? hkx)
        have hl0 : (0 : Int) < (co.length : Int) := by have := h0H.out; omega
        have h20 : ((x : Nat) : Int).tmod 20 = ((x % 20 : Nat) : Int) := (Int.ofNat_tmod x 20).symm
        have hyP : ((y : Nat) : Int).tmod P = ((y : Nat) : Int) % P := Int.tmod_eq_emod_of_nonneg (by omega)
        have hym : 0 ≤ ((y : Nat) : Int) % P ∧ ((y : Nat) : Int) % P < P := ⟨Int.emod_nonneg _ (by omega), Int.emod_lt_of_pos _ hp0⟩
        have wy : IntKind.u64.wrap ((y : Nat) : Int) = ((y : Nat) : Int) := IntWalk.u64_in _ (by omega)
        have wx : IntKind.u8.wrap (((x % 20 : Nat) : Int)) = ((x % 20 : Nat) : Int) := IntWalk.u8_in _ (by omega)
        have hlN : 0 < co.length := h0H.out
        have hnil : co ≠ [] := fun h => by rw [h] at hlN; simp at hlN
        clear h0H hrH hzH
        have hPz : ¬ P = 0 := by omega
        go_wp2
        clear hz
        have hn1 : w.heap.size ≠ w1.heap.size := by omega
        have hn2 : bc ≠ w1.heap.size := by omega
        go_region_held3 (fun w' => w'.cell? ⟨w.heap.size, 3, none⟩ = some (.slice (some ⟨bc, oc, none⟩) co.length cc) ∧ w'.cell? ⟨w.heap.size, 6, none⟩ = some (.int .i64 r) ∧ w'.cell? ⟨bc, oc, none⟩ = some (.int .i64 kx))
          (refine ⟨?_, ?_, ?_⟩ <;> first | assumption | go_simp)
          (first
            | fail)
        have wP1 : 0 ≤ (P - (y : Int) % P) := by omega
        have wP2 : IntKind.u64.wrap (P - (y : Int) % P) = P - (y : Int) % P := IntWalk.u64_in _ (by omega)
        have wP3 : (P - (y : Int) % P).tmod P = (P - (y : Int) % P) % P := Int.tmod_eq_emod_of_nonneg wP1
        go_wp2
        have hXN := hX2
        have hkP : 0 ≤ -((y : Int) % P) % P ∧ -((y : Int) % P) % P < P := ⟨Int.emod_nonneg _ (by omega), Int.emod_lt_of_pos _ hp0⟩
        have hxm : 0 ≤ (x : Int) % 20 := Int.emod_nonneg _ (by omega)
        obtain ⟨dx, hdx⟩ : ∃ d : Dv, d = ⟨r, kx, 0, (x : Int) % 20, 2, (y : Int) % P, 1, 0⟩ := ⟨_, rfl⟩
        obtain ⟨dy, hdy⟩ : ∃ d : Dv, d = ⟨r, kx, 0, (x : Int) % 20, 2, -((y : Int) % P) % P, 1, 0⟩ := ⟨_, rfl⟩
        obtain ⟨dz, hdz⟩ : ∃ d : Dv, d = ⟨r, kx, 0, 0, 4, 0, 1, 0⟩ := ⟨_, rfl⟩
        have vx : dvB N dx = true := by rw [hdx]; unfold dvB; exact decide_eq_true (by refine ⟨hr0, hxm, ?_, hkm.1, hkm.2, ?_, ?_, ?_, ?_, ?_, ?_, ?_⟩ <;> (simp only; omega))
        have vy : dvB N dy = true := by rw [hdy]; unfold dvB; exact decide_eq_true (by refine ⟨hr0, hxm, ?_, hkm.1, hkm.2, ?_, ?_, ?_, ?_, ?_, ?_, ?_⟩ <;> (simp only; omega))
        have vz : dvB N dz = true := by rw [hdz]; unfold dvB; exact decide_eq_true (by refine ⟨hr0, ?_, ?_, hkm.1, hkm.2, ?_, ?_, ?_, ?_, ?_, ?_, ?_⟩ <;> (simp only; omega))
        have HOF := Lib.hid (Ok13.more HOK.out h30 [dx, dy] (by simp) (by intro d hd; simp only [List.mem_cons, List.not_mem_nil, or_false] at hd; rcases hd with rfl | rfl; exact vx; exact vy) (by intro d hd; simp only [List.mem_cons, List.not_mem_nil, or_false] at hd; rcases hd with rfl | rfl; (rw [hdx]; exact ⟨hym.1, by simp only; omega⟩); (rw [hdy]; exact ⟨hkP.1, by simp only; omega⟩)))
        have HOZ := Lib.hid (Ok13.more HOK.out h30 [dz] (by simp) (by intro d hd; simp only [List.mem_cons, List.not_mem_nil, or_false] at hd; rw [hd]; exact vz) (by intro d hd; simp only [List.mem_cons, List.not_mem_nil, or_false] at hd; rw [hd, hdz]; exact ⟨by simp, by simp⟩))
        have hmb := Lib.hid (msF_back hp0 (cor := co) N (r := r) ds (x := dx) (y := dy) (out := rAt2 M) hf2 (by rw [hdx]) (by rw [hdy]) (by rw [hdx, hdy]) (by rw [hdx]; exact hxm) (by rw [hdx]; exact hym) (by rw [hdx, hdy]; exact (neg_mod_is (y : Int) P)) (by rw [hdx, hdy]) (by rw [hdx, hdy]) (by rw [hdx, hdy]))
        have hbb := Lib.hid (bcF_back hp0 (cor := co) (r := r) ds (x := dx) (y := dy) (out := rAt all) hf1 (by rw [hdx]) (by rw [hdy]) (by rw [hdx, hdy]) (by rw [hdx]; exact hxm) (by rw [hdx]; exact hym) (by rw [hdx, hdy]; exact (neg_mod_is (y : Int) P)) (by rw [hdx, hdy]) (by rw [hdx, hdy]))
        have hDx0 : Dx (w1.alloc (.cells #[.int .i64 r, .int .i64 kx, .int .i64 0, .int .i64 ((x : Int) % 20), .int .i64 2, .int .u64 ((y : Int) % P), .int .i64 1, .int .i64 0] 41)) w1.heap.size dx := by rw [hdx]; exact Dx.made w1 ⟨r, kx, 0, (x : Int) % 20, 2, (y : Int) % P, 1, 0⟩
        have hDy0 : Dx ((w1.alloc (.cells #[.int .i64 r, .int .i64 kx, .int .i64 0, .int .i64 ((x : Int) % 20), .int .i64 2, .int .u64 ((y : Int) % P), .int .i64 1, .int .i64 0] 41)).alloc (.cells #[.int .i64 r, .int .i64 kx, .int .i64 0, .int .i64 ((x : Int) % 20), .int .i64 2, .int .u64 (-((y : Int) % P) % P), .int .i64 1, .int .i64 0] 41)) (w1.alloc (.cells #[.int .i64 r, .int .i64 kx, .int .i64 0, .int .i64 ((x : Int) % 20), .int .i64 2, .int .u64 ((y : Int) % P), .int .i64 1, .int .i64 0] 41)).heap.size dy := by rw [hdy]; exact Dx.made (w1.alloc (.cells #[.int .i64 r, .int .i64 kx, .int .i64 0, .int .i64 ((x : Int) % 20), .int .i64 2, .int .u64 ((y : Int) % P), .int .i64 1, .int .i64 0] 41)) ⟨r, kx, 0, (x : Int) % 20, 2, -((y : Int) % P) % P, 1, 0⟩
        have hRw0 := Rw.made ((w1.alloc (.cells #[.int .i64 r, .int .i64 kx, .int .i64 0, .int .i64 ((x : Int) % 20), .int .i64 2, .int .u64 ((y : Int) % P), .int .i64 1, .int .i64 0] 41)).alloc (.cells #[.int .i64 r, .int .i64 kx, .int .i64 0, .int .i64 ((x : Int) % 20), .int .i64 2, .int .u64 (-((y : Int) % P) % P), .int .i64 1, .int .i64 0] 41)) P N T (.slice (some ⟨bc, oc, none⟩) co.length cc) (.slice Ad ds.length cd) (.slice At ts.length ct)
        have hDx1 := ((hDx0.next ((Below.refl _ (w1.alloc (.cells #[.int .i64 r, .int .i64 kx, .int .i64 0, .int .i64 ((x : Int) % 20), .int .i64 2, .int .u64 ((y : Int) % P), .int .i64 1, .int .i64 0] 41))).alloc (Nat.le_refl _) (.cells #[.int .i64 r, .int .i64 kx, .int .i64 0, .int .i64 ((x : Int) % 20), .int .i64 2, .int .u64 (-((y : Int) % P) % P), .int .i64 1, .int .i64 0] 41))).next ((Below.refl _ ((w1.alloc (.cells #[.int .i64 r, .int .i64 kx, .int .i64 0, .int .i64 ((x : Int) % 20), .int .i64 2, .int .u64 ((y : Int) % P), .int .i64 1, .int .i64 0] 41)).alloc (.cells #[.int .i64 r, .int .i64 kx, .int .i64 0, .int .i64 ((x : Int) % 20), .int .i64 2, .int .u64 (-((y : Int) % P) % P), .int .i64 1, .int .i64 0] 41))).alloc (Nat.le_refl _) (.cells #[.int .u64 P, .int .i64 N, .int .i64 T, .slice (some ⟨bc, oc, none⟩) co.length cc, .slice Ad ds.length cd, .slice At ts.length ct] 29))).next (Below.refl _ _).drew
        have hDy1 := (hDy0.next ((Below.refl _ ((w1.alloc (.cells #[.int .i64 r, .int .i64 kx, .int .i64 0, .int .i64 ((x : Int) % 20), .int .i64 2, .int .u64 ((y : Int) % P), .int .i64 1, .int .i64 0] 41)).alloc (.cells #[.int .i64 r, .int .i64 kx, .int .i64 0, .int .i64 ((x : Int) % 20), .int .i64 2, .int .u64 (-((y : Int) % P) % P), .int .i64 1, .int .i64 0] 41))).alloc (Nat.le_refl _) (.cells #[.int .u64 P, .int .i64 N, .int .i64 T, .slice (some ⟨bc, oc, none⟩) co.length cc, .slice Ad ds.length cd, .slice At ts.length ct] 29))).next (Below.refl _ _).drew
        have hRW := hRw0.next (Below.refl _ _).drew hRw0.lt
        have hBW := Lib.hid (bnew (bnew (bnew (Below.refl w1.heap.size w1) (.cells #[.int .i64 r, .int .i64 kx, .int .i64 0, .int .i64 ((x : Int) % 20), .int .i64 2, .int .u64 ((y : Int) % P), .int .i64 1, .int .i64 0] 41) (Nat.le_refl _)) (.cells #[.int .i64 r, .int .i64 kx, .int .i64 0, .int .i64 ((x : Int) % 20), .int .i64 2, .int .u64 (-((y : Int) % P) % P), .int .i64 1, .int .i64 0] 41) (Nat.le_refl _)) (.cells #[.int .u64 P, .int .i64 N, .int .i64 T, .slice (some ⟨bc, oc, none⟩) co.length cc, .slice Ad ds.length cd, .slice At ts.length ct] 29) (Nat.le_refl _)).drew
        rw [World.size_alloc] at hDy1
        rw [World.size_alloc, World.size_alloc] at hRW
        have hRW := Lib.hid hRW
        have hBB := hBW
        have hcxH := Lib.hid hcx
        have hDx := Lib.hid hDx1
        have hDy := Lib.hid hDy1
        have hlit : ∀ (W : World) (B : Nat) (hB : B ≤ W.heap.size), OD (W.alloc (.cells #[.int .i64 dx.rnd, .int .i64 dx.frm, .int .i64 dx.to, .int .i64 dx.at_, .int .i64 dx.kind, .int .u64 dx.k, .int .i64 dx.of_, .int .i64 dx.src, .int .i64 dy.rnd, .int .i64 dy.frm, .int .i64 dy.to, .int .i64 dy.at_, .int .i64 dy.kind, .int .u64 dy.k, .int .i64 dy.of_, .int .i64 dy.src] 41)) B (.slice (some ⟨W.heap.size, 0, none⟩) 2 2) 2 [dx, dy] := fun W B hB => OD.two W dx dy hB
        clear hRw0 hDx0 hDy0 hDx1 hDy1 c0 c1 c2 c3 c4 c5 c6 c7 c8 hcx vx vy vz hX2 hdx hdy wP1 wP2 wP3 hkP wx wy hyP h20 hxm hym
        generalize (((w1.alloc (.cells #[.int .i64 r, .int .i64 kx, .int .i64 0, .int .i64 ((x : Int) % 20), .int .i64 2, .int .u64 ((y : Int) % P), .int .i64 1, .int .i64 0] 41)).alloc (.cells #[.int .i64 r, .int .i64 kx, .int .i64 0, .int .i64 ((x : Int) % 20), .int .i64 2, .int .u64 (-((y : Int) % P) % P), .int .i64 1, .int .i64 0] 41)).alloc (.cells #[.int .u64 P, .int .i64 N, .int .i64 T, .slice (some ⟨bc, oc, none⟩) co.length cc, .slice Ad ds.length cd, .slice At ts.length ct] 29)).drew = Wa at *
        go_cut [] from 60 to 69 (fun wx => ∃ (A : Option Addr) (m k : Nat), Hid (Rw wx (w1.heap.size + 1 + 1) P N T (.slice (some ⟨bc, oc, none⟩) co.length cc) (.slice A m k) (.slice At ts.length ct)) ∧ Hid (OD wx Wa.heap.size (.slice A m k) (0 + ds.length + 2) ([] ++ ds ++ [dx, dy])) ∧ Hid (Below w1.heap.size w1 wx))
        case first =>
          obtain ⟨_, _, _, _, c4, _, _, _, _, hlt⟩ := hXN.out.next hBW.out
          obtain ⟨d0, d1, d2, d3, d4, d5, d6, d7, hltx⟩ := id hDx.out
          obtain ⟨e0, e1, e2, e3, e4, e5, e6, e7, hlty⟩ := id hDy.out
          have hds := (hd2.next hBW.out)
          have eA := Lib.hid ((OD.nothing (w := Wa.alloc (.cells #[.int .i64 dx.rnd, .int .i64 dx.frm, .int .i64 dx.to, .int .i64 dx.at_, .int .i64 dx.kind, .int .u64 dx.k, .int .i64 dx.of_, .int .i64 dx.src, .int .i64 dy.rnd, .int .i64 dy.frm, .int .i64 dy.to, .int .i64 dy.at_, .int .i64 dy.kind, .int .u64 dy.k, .int .i64 dy.of_, .int .i64 dy.src] 41)) (B := Wa.heap.size) (by simp)).drew)
          have eB := Lib.hid (((OD.nothing (w := Wa) (B := Wa.heap.size) (Nat.le_refl _)).push (.cells #[.int .i64 dx.rnd, .int .i64 dx.frm, .int .i64 dx.to, .int .i64 dx.at_, .int .i64 dx.kind, .int .u64 dx.k, .int .i64 dx.of_, .int .i64 dx.src, .int .i64 dy.rnd, .int .i64 dy.frm, .int .i64 dy.to, .int .i64 dy.at_, .int .i64 dy.kind, .int .u64 dy.k, .int .i64 dy.of_, .int .i64 dy.src] 41)).drew)
          have eC := Lib.hid ((OD.nothing (w := Wa) (B := Wa.heap.size) (Nat.le_refl _)).drew)
          have lA := Lib.hid (((hlit Wa Wa.heap.size (Nat.le_refl _)).push (.cells #[] 41)).drew)
          have lB := Lib.hid ((hlit (Wa.alloc (.cells #[] 41)) Wa.heap.size (by simp)).drew)
          rw [World.size_alloc] at eA lB
          have sA := Lib.hid (((hds.push (.cells #[.int .i64 dx.rnd, .int .i64 dx.frm, .int .i64 dx.to, .int .i64 dx.at_, .int .i64 dx.kind, .int .u64 dx.k, .int .i64 dx.of_, .int .i64 dx.src, .int .i64 dy.rnd, .int .i64 dy.frm, .int .i64 dy.to, .int .i64 dy.at_, .int .i64 dy.kind, .int .u64 dy.k, .int .i64 dy.of_, .int .i64 dy.src] 41)).push (.cells #[] 41)).next (Below.refl _ _).drew)
          have sB := Lib.hid (((hds.push (.cells #[] 41)).push (.cells #[.int .i64 dx.rnd, .int .i64 dx.frm, .int .i64 dx.to, .int .i64 dx.at_, .int .i64 dx.kind, .int .u64 dx.k, .int .i64 dx.of_, .int .i64 dx.src, .int .i64 dy.rnd, .int .i64 dy.frm, .int .i64 dy.to, .int .i64 dy.at_, .int .i64 dy.kind, .int .u64 dy.k, .int .i64 dy.of_, .int .i64 dy.src] 41)).next (Below.refl _ _).drew)
          have sC := Lib.hid ((hds.push (.cells #[] 41)).next (Below.refl _ _).drew)
          have bA := Lib.hid (bnew (bnew (Below.refl Wa.heap.size Wa) (.cells #[.int .i64 dx.rnd, .int .i64 dx.frm, .int .i64 dx.to, .int .i64 dx.at_, .int .i64 dx.kind, .int .u64 dx.k, .int .i64 dx.of_, .int .i64 dx.src, .int .i64 dy.rnd, .int .i64 dy.frm, .int .i64 dy.to, .int .i64 dy.at_, .int .i64 dy.kind, .int .u64 dy.k, .int .i64 dy.of_, .int .i64 dy.src] 41) (Nat.le_refl _)) (.cells #[] 41) (Nat.le_refl _)).drew
          have bB := Lib.hid (bnew (bnew (Below.refl Wa.heap.size Wa) (.cells #[] 41) (Nat.le_refl _)) (.cells #[.int .i64 dx.rnd, .int .i64 dx.frm, .int .i64 dx.to, .int .i64 dx.at_, .int .i64 dx.kind, .int .u64 dx.k, .int .i64 dx.of_, .int .i64 dx.src, .int .i64 dy.rnd, .int .i64 dy.frm, .int .i64 dy.to, .int .i64 dy.at_, .int .i64 dy.kind, .int .u64 dy.k, .int .i64 dy.of_, .int .i64 dy.src] 41) (Nat.le_refl _)).drew
          have bC := Lib.hid (bnew (Below.refl Wa.heap.size Wa) (.cells #[] 41) (Nat.le_refl _)).drew
          have hne0 : w.heap.size ≠ Wa.heap.size := by omega
          have hne1 : w.heap.size ≠ Wa.heap.size + 1 := by omega
          have hne2 : w1.heap.size ≠ Wa.heap.size := by omega
          have hne3 : w1.heap.size ≠ Wa.heap.size + 1 := by omega
          have hne4 : w1.heap.size + 1 ≠ Wa.heap.size := by omega
          have hne5 : w1.heap.size + 1 ≠ Wa.heap.size + 1 := by omega
          have hneb0 : w.heap.size ≠ w1.heap.size + 1 + 1 := by omega
          have hneb1 : w1.heap.size ≠ w1.heap.size + 1 + 1 := by omega
          have hneb2 : w1.heap.size + 1 ≠ w1.heap.size + 1 + 1 := by omega
          go_region_held3 (fun w' => w'.cell? ⟨w.heap.size, 4, none⟩ = some (.slice Ad ds.length cd) ∧ w'.cell? ⟨w1.heap.size, 0, none⟩ = some (.int .i64 dx.rnd) ∧ w'.cell? ⟨w1.heap.size, 1, none⟩ = some (.int .i64 dx.frm) ∧ w'.cell? ⟨w1.heap.size, 2, none⟩ = some (.int .i64 dx.to) ∧ w'.cell? ⟨w1.heap.size, 3, none⟩ = some (.int .i64 dx.at_) ∧ w'.cell? ⟨w1.heap.size, 4, none⟩ = some (.int .i64 dx.kind) ∧ w'.cell? ⟨w1.heap.size, 5, none⟩ = some (.int .u64 dx.k) ∧ w'.cell? ⟨w1.heap.size, 6, none⟩ = some (.int .i64 dx.of_) ∧ w'.cell? ⟨w1.heap.size, 7, none⟩ = some (.int .i64 dx.src) ∧ w'.cell? ⟨w1.heap.size + 1, 0, none⟩ = some (.int .i64 dy.rnd) ∧ w'.cell? ⟨w1.heap.size + 1, 1, none⟩ = some (.int .i64 dy.frm) ∧ w'.cell? ⟨w1.heap.size + 1, 2, none⟩ = some (.int .i64 dy.to) ∧ w'.cell? ⟨w1.heap.size + 1, 3, none⟩ = some (.int .i64 dy.at_) ∧ w'.cell? ⟨w1.heap.size + 1, 4, none⟩ = some (.int .i64 dy.kind) ∧ w'.cell? ⟨w1.heap.size + 1, 5, none⟩ = some (.int .u64 dy.k) ∧ w'.cell? ⟨w1.heap.size + 1, 6, none⟩ = some (.int .i64 dy.of_) ∧ w'.cell? ⟨w1.heap.size + 1, 7, none⟩ = some (.int .i64 dy.src))
            (refine ⟨?_, ?_, ?_, ?_, ?_, ?_, ?_, ?_, ?_, ?_, ?_, ?_, ?_, ?_, ?_, ?_, ?_⟩ <;> first | assumption | (go_simp; done))
            (first
              | ((first | (refine step_append_dv (by rfl) _ _ (by rfl) Wa.heap.size _ 0 ds.length [] ds (by rfl) eA.out Ad cd (by rfl) rfl sA.out (by omega) (by first | omega | (simp; done) | (simp; omega)) ?_) | fail); intro v5 w5 hO5 hg5; (first | (have hb5 : Below Wa.heap.size Wa w5 := bA.out.grown hg5 (by first | omega | (simp; done) | (simp; omega)) (fun q e => (eA.out.lt q e).1)) | fail); (first | (have l5 := Lib.hid (lA.out.kept hg5 (by simp [Value.ownBlock]))) | fail); (first | (have f0_5 := (hb5.cell (p := ⟨w.heap.size, 4, none⟩) hlt).trans c4) | fail); (first | (have f1_5 := (hb5.cell (p := ⟨w1.heap.size, 0, none⟩) hltx).trans d0) | fail); (first | (have f2_5 := (hb5.cell (p := ⟨w1.heap.size, 1, none⟩) hltx).trans d1) | fail); (first | (have f3_5 := (hb5.cell (p := ⟨w1.heap.size, 2, none⟩) hltx).trans d2) | fail); (first | (have f4_5 := (hb5.cell (p := ⟨w1.heap.size, 3, none⟩) hltx).trans d3) | fail); (first | (have f5_5 := (hb5.cell (p := ⟨w1.heap.size, 4, none⟩) hltx).trans d4) | fail); (first | (have f6_5 := (hb5.cell (p := ⟨w1.heap.size, 5, none⟩) hltx).trans d5) | fail); (first | (have f7_5 := (hb5.cell (p := ⟨w1.heap.size, 6, none⟩) hltx).trans d6) | fail); (first | (have f8_5 := (hb5.cell (p := ⟨w1.heap.size, 7, none⟩) hltx).trans d7) | fail); (first | (have f9_5 := (hb5.cell (p := ⟨w1.heap.size + 1, 0, none⟩) hlty).trans e0) | fail); (first | (have f10_5 := (hb5.cell (p := ⟨w1.heap.size + 1, 1, none⟩) hlty).trans e1) | fail); (first | (have f11_5 := (hb5.cell (p := ⟨w1.heap.size + 1, 2, none⟩) hlty).trans e2) | fail); (first | (have f12_5 := (hb5.cell (p := ⟨w1.heap.size + 1, 3, none⟩) hlty).trans e3) | fail); (first | (have f13_5 := (hb5.cell (p := ⟨w1.heap.size + 1, 4, none⟩) hlty).trans e4) | fail); (first | (have f14_5 := (hb5.cell (p := ⟨w1.heap.size + 1, 5, none⟩) hlty).trans e5) | fail); (first | (have f15_5 := (hb5.cell (p := ⟨w1.heap.size + 1, 6, none⟩) hlty).trans e6) | fail); (first | (have f16_5 := (hb5.cell (p := ⟨w1.heap.size + 1, 7, none⟩) hlty).trans e7) | fail); (first | (clear hg5) | fail))
              | ((first | (refine step_append_dv (by rfl) _ _ (by rfl) Wa.heap.size _ 0 ds.length [] ds (by rfl) eB.out Ad cd (by rfl) rfl sB.out (by omega) (by first | omega | (simp; done) | (simp; omega)) ?_) | fail); intro v5 w5 hO5 hg5; (first | (have hb5 : Below Wa.heap.size Wa w5 := bB.out.grown hg5 (by first | omega | (simp; done) | (simp; omega)) (fun q e => (eB.out.lt q e).1)) | fail); (first | (have l5 := Lib.hid (lB.out.kept hg5 (by simp [Value.ownBlock]))) | fail); (first | (have f0_5 := (hb5.cell (p := ⟨w.heap.size, 4, none⟩) hlt).trans c4) | fail); (first | (have f1_5 := (hb5.cell (p := ⟨w1.heap.size, 0, none⟩) hltx).trans d0) | fail); (first | (have f2_5 := (hb5.cell (p := ⟨w1.heap.size, 1, none⟩) hltx).trans d1) | fail); (first | (have f3_5 := (hb5.cell (p := ⟨w1.heap.size, 2, none⟩) hltx).trans d2) | fail); (first | (have f4_5 := (hb5.cell (p := ⟨w1.heap.size, 3, none⟩) hltx).trans d3) | fail); (first | (have f5_5 := (hb5.cell (p := ⟨w1.heap.size, 4, none⟩) hltx).trans d4) | fail); (first | (have f6_5 := (hb5.cell (p := ⟨w1.heap.size, 5, none⟩) hltx).trans d5) | fail); (first | (have f7_5 := (hb5.cell (p := ⟨w1.heap.size, 6, none⟩) hltx).trans d6) | fail); (first | (have f8_5 := (hb5.cell (p := ⟨w1.heap.size, 7, none⟩) hltx).trans d7) | fail); (first | (have f9_5 := (hb5.cell (p := ⟨w1.heap.size + 1, 0, none⟩) hlty).trans e0) | fail); (first | (have f10_5 := (hb5.cell (p := ⟨w1.heap.size + 1, 1, none⟩) hlty).trans e1) | fail); (first | (have f11_5 := (hb5.cell (p := ⟨w1.heap.size + 1, 2, none⟩) hlty).trans e2) | fail); (first | (have f12_5 := (hb5.cell (p := ⟨w1.heap.size + 1, 3, none⟩) hlty).trans e3) | fail); (first | (have f13_5 := (hb5.cell (p := ⟨w1.heap.size + 1, 4, none⟩) hlty).trans e4) | fail); (first | (have f14_5 := (hb5.cell (p := ⟨w1.heap.size + 1, 5, none⟩) hlty).trans e5) | fail); (first | (have f15_5 := (hb5.cell (p := ⟨w1.heap.size + 1, 6, none⟩) hlty).trans e6) | fail); (first | (have f16_5 := (hb5.cell (p := ⟨w1.heap.size + 1, 7, none⟩) hlty).trans e7) | fail); (first | (clear hg5) | fail))
              | ((first | (refine step_append_dv (by rfl) _ _ (by rfl) Wa.heap.size _ 0 ds.length [] ds (by rfl) eC.out Ad cd (by rfl) rfl sC.out (by omega) (by first | omega | (simp; done) | (simp; omega)) ?_) | fail); intro v5 w5 hO5 hg5; (first | (have hb5 : Below Wa.heap.size Wa w5 := bC.out.grown hg5 (by first | omega | (simp; done) | (simp; omega)) (fun q e => (eC.out.lt q e).1)) | fail); (first | (have z5 := hb5.size) | fail); (first | (have u5 := Lib.hid (hO5.push (.cells #[.int .i64 dx.rnd, .int .i64 dx.frm, .int .i64 dx.to, .int .i64 dx.at_, .int .i64 dx.kind, .int .u64 dx.k, .int .i64 dx.of_, .int .i64 dx.src, .int .i64 dy.rnd, .int .i64 dy.frm, .int .i64 dy.to, .int .i64 dy.at_, .int .i64 dy.kind, .int .u64 dy.k, .int .i64 dy.of_, .int .i64 dy.src] 41))) | fail); (first | (have l5c := Lib.hid (hlit w5 Wa.heap.size hb5.size)) | fail); (first | (have hn50 : w.heap.size ≠ w5.heap.size := by omega) | fail); (first | (have hn51 : w1.heap.size ≠ w5.heap.size := by omega) | fail); (first | (have hn52 : w1.heap.size + 1 ≠ w5.heap.size := by omega) | fail); (first | (have f0_5 := (hb5.cell (p := ⟨w.heap.size, 4, none⟩) hlt).trans c4) | fail); (first | (have f1_5 := (hb5.cell (p := ⟨w1.heap.size, 0, none⟩) hltx).trans d0) | fail); (first | (have f2_5 := (hb5.cell (p := ⟨w1.heap.size, 1, none⟩) hltx).trans d1) | fail); (first | (have f3_5 := (hb5.cell (p := ⟨w1.heap.size, 2, none⟩) hltx).trans d2) | fail); (first | (have f4_5 := (hb5.cell (p := ⟨w1.heap.size, 3, none⟩) hltx).trans d3) | fail); (first | (have f5_5 := (hb5.cell (p := ⟨w1.heap.size, 4, none⟩) hltx).trans d4) | fail); (first | (have f6_5 := (hb5.cell (p := ⟨w1.heap.size, 5, none⟩) hltx).trans d5) | fail); (first | (have f7_5 := (hb5.cell (p := ⟨w1.heap.size, 6, none⟩) hltx).trans d6) | fail); (first | (have f8_5 := (hb5.cell (p := ⟨w1.heap.size, 7, none⟩) hltx).trans d7) | fail); (first | (have f9_5 := (hb5.cell (p := ⟨w1.heap.size + 1, 0, none⟩) hlty).trans e0) | fail); (first | (have f10_5 := (hb5.cell (p := ⟨w1.heap.size + 1, 1, none⟩) hlty).trans e1) | fail); (first | (have f11_5 := (hb5.cell (p := ⟨w1.heap.size + 1, 2, none⟩) hlty).trans e2) | fail); (first | (have f12_5 := (hb5.cell (p := ⟨w1.heap.size + 1, 3, none⟩) hlty).trans e3) | fail); (first | (have f13_5 := (hb5.cell (p := ⟨w1.heap.size + 1, 4, none⟩) hlty).trans e4) | fail); (first | (have f14_5 := (hb5.cell (p := ⟨w1.heap.size + 1, 5, none⟩) hlty).trans e5) | fail); (first | (have f15_5 := (hb5.cell (p := ⟨w1.heap.size + 1, 6, none⟩) hlty).trans e6) | fail); (first | (have f16_5 := (hb5.cell (p := ⟨w1.heap.size + 1, 7, none⟩) hlty).trans e7) | fail); (first | (have g0 := ((bnew (Below.refl w5.heap.size w5) (.cells #[.int .i64 dx.rnd, .int .i64 dx.frm, .int .i64 dx.to, .int .i64 dx.at_, .int .i64 dx.kind, .int .u64 dx.k, .int .i64 dx.of_, .int .i64 dx.src, .int .i64 dy.rnd, .int .i64 dy.frm, .int .i64 dy.to, .int .i64 dy.at_, .int .i64 dy.kind, .int .u64 dy.k, .int .i64 dy.of_, .int .i64 dy.src] 41) (Nat.le_refl _)).cell (p := ⟨w.heap.size, 4, none⟩) (Nat.lt_of_lt_of_le hlt z5)).trans f0_5) | fail); (first | (have g1 := ((bnew (Below.refl w5.heap.size w5) (.cells #[.int .i64 dx.rnd, .int .i64 dx.frm, .int .i64 dx.to, .int .i64 dx.at_, .int .i64 dx.kind, .int .u64 dx.k, .int .i64 dx.of_, .int .i64 dx.src, .int .i64 dy.rnd, .int .i64 dy.frm, .int .i64 dy.to, .int .i64 dy.at_, .int .i64 dy.kind, .int .u64 dy.k, .int .i64 dy.of_, .int .i64 dy.src] 41) (Nat.le_refl _)).cell (p := ⟨w1.heap.size, 0, none⟩) (Nat.lt_of_lt_of_le hltx z5)).trans f1_5) | fail); (first | (have g2 := ((bnew (Below.refl w5.heap.size w5) (.cells #[.int .i64 dx.rnd, .int .i64 dx.frm, .int .i64 dx.to, .int .i64 dx.at_, .int .i64 dx.kind, .int .u64 dx.k, .int .i64 dx.of_, .int .i64 dx.src, .int .i64 dy.rnd, .int .i64 dy.frm, .int .i64 dy.to, .int .i64 dy.at_, .int .i64 dy.kind, .int .u64 dy.k, .int .i64 dy.of_, .int .i64 dy.src] 41) (Nat.le_refl _)).cell (p := ⟨w1.heap.size, 1, none⟩) (Nat.lt_of_lt_of_le hltx z5)).trans f2_5) | fail); (first | (have g3 := ((bnew (Below.refl w5.heap.size w5) (.cells #[.int .i64 dx.rnd, .int .i64 dx.frm, .int .i64 dx.to, .int .i64 dx.at_, .int .i64 dx.kind, .int .u64 dx.k, .int .i64 dx.of_, .int .i64 dx.src, .int .i64 dy.rnd, .int .i64 dy.frm, .int .i64 dy.to, .int .i64 dy.at_, .int .i64 dy.kind, .int .u64 dy.k, .int .i64 dy.of_, .int .i64 dy.src] 41) (Nat.le_refl _)).cell (p := ⟨w1.heap.size, 2, none⟩) (Nat.lt_of_lt_of_le hltx z5)).trans f3_5) | fail); (first | (have g4 := ((bnew (Below.refl w5.heap.size w5) (.cells #[.int .i64 dx.rnd, .int .i64 dx.frm, .int .i64 dx.to, .int .i64 dx.at_, .int .i64 dx.kind, .int .u64 dx.k, .int .i64 dx.of_, .int .i64 dx.src, .int .i64 dy.rnd, .int .i64 dy.frm, .int .i64 dy.to, .int .i64 dy.at_, .int .i64 dy.kind, .int .u64 dy.k, .int .i64 dy.of_, .int .i64 dy.src] 41) (Nat.le_refl _)).cell (p := ⟨w1.heap.size, 3, none⟩) (Nat.lt_of_lt_of_le hltx z5)).trans f4_5) | fail); (first | (have g5 := ((bnew (Below.refl w5.heap.size w5) (.cells #[.int .i64 dx.rnd, .int .i64 dx.frm, .int .i64 dx.to, .int .i64 dx.at_, .int .i64 dx.kind, .int .u64 dx.k, .int .i64 dx.of_, .int .i64 dx.src, .int .i64 dy.rnd, .int .i64 dy.frm, .int .i64 dy.to, .int .i64 dy.at_, .int .i64 dy.kind, .int .u64 dy.k, .int .i64 dy.of_, .int .i64 dy.src] 41) (Nat.le_refl _)).cell (p := ⟨w1.heap.size, 4, none⟩) (Nat.lt_of_lt_of_le hltx z5)).trans f5_5) | fail); (first | (have g6 := ((bnew (Below.refl w5.heap.size w5) (.cells #[.int .i64 dx.rnd, .int .i64 dx.frm, .int .i64 dx.to, .int .i64 dx.at_, .int .i64 dx.kind, .int .u64 dx.k, .int .i64 dx.of_, .int .i64 dx.src, .int .i64 dy.rnd, .int .i64 dy.frm, .int .i64 dy.to, .int .i64 dy.at_, .int .i64 dy.kind, .int .u64 dy.k, .int .i64 dy.of_, .int .i64 dy.src] 41) (Nat.le_refl _)).cell (p := ⟨w1.heap.size, 5, none⟩) (Nat.lt_of_lt_of_le hltx z5)).trans f6_5) | fail); (first | (have g7 := ((bnew (Below.refl w5.heap.size w5) (.cells #[.int .i64 dx.rnd, .int .i64 dx.frm, .int .i64 dx.to, .int .i64 dx.at_, .int .i64 dx.kind, .int .u64 dx.k, .int .i64 dx.of_, .int .i64 dx.src, .int .i64 dy.rnd, .int .i64 dy.frm, .int .i64 dy.to, .int .i64 dy.at_, .int .i64 dy.kind, .int .u64 dy.k, .int .i64 dy.of_, .int .i64 dy.src] 41) (Nat.le_refl _)).cell (p := ⟨w1.heap.size, 6, none⟩) (Nat.lt_of_lt_of_le hltx z5)).trans f7_5) | fail); (first | (have g8 := ((bnew (Below.refl w5.heap.size w5) (.cells #[.int .i64 dx.rnd, .int .i64 dx.frm, .int .i64 dx.to, .int .i64 dx.at_, .int .i64 dx.kind, .int .u64 dx.k, .int .i64 dx.of_, .int .i64 dx.src, .int .i64 dy.rnd, .int .i64 dy.frm, .int .i64 dy.to, .int .i64 dy.at_, .int .i64 dy.kind, .int .u64 dy.k, .int .i64 dy.of_, .int .i64 dy.src] 41) (Nat.le_refl _)).cell (p := ⟨w1.heap.size, 7, none⟩) (Nat.lt_of_lt_of_le hltx z5)).trans f8_5) | fail); (first | (have g9 := ((bnew (Below.refl w5.heap.size w5) (.cells #[.int .i64 dx.rnd, .int .i64 dx.frm, .int .i64 dx.to, .int .i64 dx.at_, .int .i64 dx.kind, .int .u64 dx.k, .int .i64 dx.of_, .int .i64 dx.src, .int .i64 dy.rnd, .int .i64 dy.frm, .int .i64 dy.to, .int .i64 dy.at_, .int .i64 dy.kind, .int .u64 dy.k, .int .i64 dy.of_, .int .i64 dy.src] 41) (Nat.le_refl _)).cell (p := ⟨w1.heap.size + 1, 0, none⟩) (Nat.lt_of_lt_of_le hlty z5)).trans f9_5) | fail); (first | (have g10 := ((bnew (Below.refl w5.heap.size w5) (.cells #[.int .i64 dx.rnd, .int .i64 dx.frm, .int .i64 dx.to, .int .i64 dx.at_, .int .i64 dx.kind, .int .u64 dx.k, .int .i64 dx.of_, .int .i64 dx.src, .int .i64 dy.rnd, .int .i64 dy.frm, .int .i64 dy.to, .int .i64 dy.at_, .int .i64 dy.kind, .int .u64 dy.k, .int .i64 dy.of_, .int .i64 dy.src] 41) (Nat.le_refl _)).cell (p := ⟨w1.heap.size + 1, 1, none⟩) (Nat.lt_of_lt_of_le hlty z5)).trans f10_5) | fail); (first | (have g11 := ((bnew (Below.refl w5.heap.size w5) (.cells #[.int .i64 dx.rnd, .int .i64 dx.frm, .int .i64 dx.to, .int .i64 dx.at_, .int .i64 dx.kind, .int .u64 dx.k, .int .i64 dx.of_, .int .i64 dx.src, .int .i64 dy.rnd, .int .i64 dy.frm, .int .i64 dy.to, .int .i64 dy.at_, .int .i64 dy.kind, .int .u64 dy.k, .int .i64 dy.of_, .int .i64 dy.src] 41) (Nat.le_refl _)).cell (p := ⟨w1.heap.size + 1, 2, none⟩) (Nat.lt_of_lt_of_le hlty z5)).trans f11_5) | fail); (first | (have g12 := ((bnew (Below.refl w5.heap.size w5) (.cells #[.int .i64 dx.rnd, .int .i64 dx.frm, .int .i64 dx.to, .int .i64 dx.at_, .int .i64 dx.kind, .int .u64 dx.k, .int .i64 dx.of_, .int .i64 dx.src, .int .i64 dy.rnd, .int .i64 dy.frm, .int .i64 dy.to, .int .i64 dy.at_, .int .i64 dy.kind, .int .u64 dy.k, .int .i64 dy.of_, .int .i64 dy.src] 41) (Nat.le_refl _)).cell (p := ⟨w1.heap.size + 1, 3, none⟩) (Nat.lt_of_lt_of_le hlty z5)).trans f12_5) | fail); (first | (have g13 := ((bnew (Below.refl w5.heap.size w5) (.cells #[.int .i64 dx.rnd, .int .i64 dx.frm, .int .i64 dx.to, .int .i64 dx.at_, .int .i64 dx.kind, .int .u64 dx.k, .int .i64 dx.of_, .int .i64 dx.src, .int .i64 dy.rnd, .int .i64 dy.frm, .int .i64 dy.to, .int .i64 dy.at_, .int .i64 dy.kind, .int .u64 dy.k, .int .i64 dy.of_, .int .i64 dy.src] 41) (Nat.le_refl _)).cell (p := ⟨w1.heap.size + 1, 4, none⟩) (Nat.lt_of_lt_of_le hlty z5)).trans f13_5) | fail); (first | (have g14 := ((bnew (Below.refl w5.heap.size w5) (.cells #[.int .i64 dx.rnd, .int .i64 dx.frm, .int .i64 dx.to, .int .i64 dx.at_, .int .i64 dx.kind, .int .u64 dx.k, .int .i64 dx.of_, .int .i64 dx.src, .int .i64 dy.rnd, .int .i64 dy.frm, .int .i64 dy.to, .int .i64 dy.at_, .int .i64 dy.kind, .int .u64 dy.k, .int .i64 dy.of_, .int .i64 dy.src] 41) (Nat.le_refl _)).cell (p := ⟨w1.heap.size + 1, 5, none⟩) (Nat.lt_of_lt_of_le hlty z5)).trans f14_5) | fail); (first | (have g15 := ((bnew (Below.refl w5.heap.size w5) (.cells #[.int .i64 dx.rnd, .int .i64 dx.frm, .int .i64 dx.to, .int .i64 dx.at_, .int .i64 dx.kind, .int .u64 dx.k, .int .i64 dx.of_, .int .i64 dx.src, .int .i64 dy.rnd, .int .i64 dy.frm, .int .i64 dy.to, .int .i64 dy.at_, .int .i64 dy.kind, .int .u64 dy.k, .int .i64 dy.of_, .int .i64 dy.src] 41) (Nat.le_refl _)).cell (p := ⟨w1.heap.size + 1, 6, none⟩) (Nat.lt_of_lt_of_le hlty z5)).trans f15_5) | fail); (first | (have g16 := ((bnew (Below.refl w5.heap.size w5) (.cells #[.int .i64 dx.rnd, .int .i64 dx.frm, .int .i64 dx.to, .int .i64 dx.at_, .int .i64 dx.kind, .int .u64 dx.k, .int .i64 dx.of_, .int .i64 dx.src, .int .i64 dy.rnd, .int .i64 dy.frm, .int .i64 dy.to, .int .i64 dy.at_, .int .i64 dy.kind, .int .u64 dy.k, .int .i64 dy.of_, .int .i64 dy.src] 41) (Nat.le_refl _)).cell (p := ⟨w1.heap.size + 1, 7, none⟩) (Nat.lt_of_lt_of_le hlty z5)).trans f16_5) | fail); (first | (clear hg5) | fail))
              | ((first | (refine step_append_dv (by rfl) _ _ (by rfl) Wa.heap.size _ (0 + ds.length) 2 ([] ++ ds) [dx, dy] (by rfl) hO5 _ 2 (by rfl) rfl l5.out.sd (by omega) hb5.size ?_) | fail); intro v6 w6 hO6 hg6; (first | (have hb6 : Below Wa.heap.size Wa w6 := hb5.grown hg6 hb5.size (fun q e => (hO5.lt q e).1)) | fail); (first | (have f0_6 := (hb6.cell (p := ⟨w.heap.size, 4, none⟩) hlt).trans c4) | fail); (first | (have f1_6 := (hb6.cell (p := ⟨w1.heap.size, 0, none⟩) hltx).trans d0) | fail); (first | (have f2_6 := (hb6.cell (p := ⟨w1.heap.size, 1, none⟩) hltx).trans d1) | fail); (first | (have f3_6 := (hb6.cell (p := ⟨w1.heap.size, 2, none⟩) hltx).trans d2) | fail); (first | (have f4_6 := (hb6.cell (p := ⟨w1.heap.size, 3, none⟩) hltx).trans d3) | fail); (first | (have f5_6 := (hb6.cell (p := ⟨w1.heap.size, 4, none⟩) hltx).trans d4) | fail); (first | (have f6_6 := (hb6.cell (p := ⟨w1.heap.size, 5, none⟩) hltx).trans d5) | fail); (first | (have f7_6 := (hb6.cell (p := ⟨w1.heap.size, 6, none⟩) hltx).trans d6) | fail); (first | (have f8_6 := (hb6.cell (p := ⟨w1.heap.size, 7, none⟩) hltx).trans d7) | fail); (first | (have f9_6 := (hb6.cell (p := ⟨w1.heap.size + 1, 0, none⟩) hlty).trans e0) | fail); (first | (have f10_6 := (hb6.cell (p := ⟨w1.heap.size + 1, 1, none⟩) hlty).trans e1) | fail); (first | (have f11_6 := (hb6.cell (p := ⟨w1.heap.size + 1, 2, none⟩) hlty).trans e2) | fail); (first | (have f12_6 := (hb6.cell (p := ⟨w1.heap.size + 1, 3, none⟩) hlty).trans e3) | fail); (first | (have f13_6 := (hb6.cell (p := ⟨w1.heap.size + 1, 4, none⟩) hlty).trans e4) | fail); (first | (have f14_6 := (hb6.cell (p := ⟨w1.heap.size + 1, 5, none⟩) hlty).trans e5) | fail); (first | (have f15_6 := (hb6.cell (p := ⟨w1.heap.size + 1, 6, none⟩) hlty).trans e6) | fail); (first | (have f16_6 := (hb6.cell (p := ⟨w1.heap.size + 1, 7, none⟩) hlty).trans e7) | fail); (first | (obtain ⟨A6, m6, k6, rfl⟩ : ∃ A m c, v6 = .slice A m c := (by obtain ⟨A, c, h, _⟩ := hO6.form; exact ⟨A, _, c, h⟩)) | fail); (first | (have rv6 := Lib.hid (hRW.out.next hb6 hRW.out.lt)) | fail); (first | (have fv6 := rv6.out.frozen 4) | fail); (first | (have hv6 := rv6.out.sx.c4) | fail); (first | (have s0 := (((Bex.refl (w1.heap.size + 1 + 1) w6).setCell 4 (.slice A6 m6 k6)).cell (p := ⟨w.heap.size, 4, none⟩) (Nat.lt_of_lt_of_le hlt hb6.size) hneb0).trans f0_6) | fail); (first | (have s1 := (((Bex.refl (w1.heap.size + 1 + 1) w6).setCell 4 (.slice A6 m6 k6)).cell (p := ⟨w1.heap.size, 0, none⟩) (Nat.lt_of_lt_of_le hltx hb6.size) hneb1).trans f1_6) | fail); (first | (have s2 := (((Bex.refl (w1.heap.size + 1 + 1) w6).setCell 4 (.slice A6 m6 k6)).cell (p := ⟨w1.heap.size, 1, none⟩) (Nat.lt_of_lt_of_le hltx hb6.size) hneb1).trans f2_6) | fail); (first | (have s3 := (((Bex.refl (w1.heap.size + 1 + 1) w6).setCell 4 (.slice A6 m6 k6)).cell (p := ⟨w1.heap.size, 2, none⟩) (Nat.lt_of_lt_of_le hltx hb6.size) hneb1).trans f3_6) | fail); (first | (have s4 := (((Bex.refl (w1.heap.size + 1 + 1) w6).setCell 4 (.slice A6 m6 k6)).cell (p := ⟨w1.heap.size, 3, none⟩) (Nat.lt_of_lt_of_le hltx hb6.size) hneb1).trans f4_6) | fail); (first | (have s5 := (((Bex.refl (w1.heap.size + 1 + 1) w6).setCell 4 (.slice A6 m6 k6)).cell (p := ⟨w1.heap.size, 4, none⟩) (Nat.lt_of_lt_of_le hltx hb6.size) hneb1).trans f5_6) | fail); (first | (have s6 := (((Bex.refl (w1.heap.size + 1 + 1) w6).setCell 4 (.slice A6 m6 k6)).cell (p := ⟨w1.heap.size, 5, none⟩) (Nat.lt_of_lt_of_le hltx hb6.size) hneb1).trans f6_6) | fail); (first | (have s7 := (((Bex.refl (w1.heap.size + 1 + 1) w6).setCell 4 (.slice A6 m6 k6)).cell (p := ⟨w1.heap.size, 6, none⟩) (Nat.lt_of_lt_of_le hltx hb6.size) hneb1).trans f7_6) | fail); (first | (have s8 := (((Bex.refl (w1.heap.size + 1 + 1) w6).setCell 4 (.slice A6 m6 k6)).cell (p := ⟨w1.heap.size, 7, none⟩) (Nat.lt_of_lt_of_le hltx hb6.size) hneb1).trans f8_6) | fail); (first | (have s9 := (((Bex.refl (w1.heap.size + 1 + 1) w6).setCell 4 (.slice A6 m6 k6)).cell (p := ⟨w1.heap.size + 1, 0, none⟩) (Nat.lt_of_lt_of_le hlty hb6.size) hneb2).trans f9_6) | fail); (first | (have s10 := (((Bex.refl (w1.heap.size + 1 + 1) w6).setCell 4 (.slice A6 m6 k6)).cell (p := ⟨w1.heap.size + 1, 1, none⟩) (Nat.lt_of_lt_of_le hlty hb6.size) hneb2).trans f10_6) | fail); (first | (have s11 := (((Bex.refl (w1.heap.size + 1 + 1) w6).setCell 4 (.slice A6 m6 k6)).cell (p := ⟨w1.heap.size + 1, 2, none⟩) (Nat.lt_of_lt_of_le hlty hb6.size) hneb2).trans f11_6) | fail); (first | (have s12 := (((Bex.refl (w1.heap.size + 1 + 1) w6).setCell 4 (.slice A6 m6 k6)).cell (p := ⟨w1.heap.size + 1, 3, none⟩) (Nat.lt_of_lt_of_le hlty hb6.size) hneb2).trans f12_6) | fail); (first | (have s13 := (((Bex.refl (w1.heap.size + 1 + 1) w6).setCell 4 (.slice A6 m6 k6)).cell (p := ⟨w1.heap.size + 1, 4, none⟩) (Nat.lt_of_lt_of_le hlty hb6.size) hneb2).trans f13_6) | fail); (first | (have s14 := (((Bex.refl (w1.heap.size + 1 + 1) w6).setCell 4 (.slice A6 m6 k6)).cell (p := ⟨w1.heap.size + 1, 5, none⟩) (Nat.lt_of_lt_of_le hlty hb6.size) hneb2).trans f14_6) | fail); (first | (have s15 := (((Bex.refl (w1.heap.size + 1 + 1) w6).setCell 4 (.slice A6 m6 k6)).cell (p := ⟨w1.heap.size + 1, 6, none⟩) (Nat.lt_of_lt_of_le hlty hb6.size) hneb2).trans f15_6) | fail); (first | (have s16 := (((Bex.refl (w1.heap.size + 1 + 1) w6).setCell 4 (.slice A6 m6 k6)).cell (p := ⟨w1.heap.size + 1, 7, none⟩) (Nat.lt_of_lt_of_le hlty hb6.size) hneb2).trans f16_6) | fail))
              | ((first | (refine step_append_dv (by rfl) _ _ (by rfl) Wa.heap.size _ (0 + ds.length) 2 ([] ++ ds) [dx, dy] (by rfl) u5.out _ 2 (by rfl) rfl l5c.out.sd (by omega) (by first | omega | (simp; done) | (simp; omega)) ?_) | fail); intro v6 w6 hO6 hg6; (first | (have hb6 : Below Wa.heap.size Wa w6 := (bnew hb5 (.cells #[.int .i64 dx.rnd, .int .i64 dx.frm, .int .i64 dx.to, .int .i64 dx.at_, .int .i64 dx.kind, .int .u64 dx.k, .int .i64 dx.of_, .int .i64 dx.src, .int .i64 dy.rnd, .int .i64 dy.frm, .int .i64 dy.to, .int .i64 dy.at_, .int .i64 dy.kind, .int .u64 dy.k, .int .i64 dy.of_, .int .i64 dy.src] 41) (Nat.le_refl _)).grown hg6 (by first | omega | (simp; done) | (simp; omega)) (fun q e => (u5.out.lt q e).1)) | fail); (first | (have f0_6 := (hb6.cell (p := ⟨w.heap.size, 4, none⟩) hlt).trans c4) | fail); (first | (have f1_6 := (hb6.cell (p := ⟨w1.heap.size, 0, none⟩) hltx).trans d0) | fail); (first | (have f2_6 := (hb6.cell (p := ⟨w1.heap.size, 1, none⟩) hltx).trans d1) | fail); (first | (have f3_6 := (hb6.cell (p := ⟨w1.heap.size, 2, none⟩) hltx).trans d2) | fail); (first | (have f4_6 := (hb6.cell (p := ⟨w1.heap.size, 3, none⟩) hltx).trans d3) | fail); (first | (have f5_6 := (hb6.cell (p := ⟨w1.heap.size, 4, none⟩) hltx).trans d4) | fail); (first | (have f6_6 := (hb6.cell (p := ⟨w1.heap.size, 5, none⟩) hltx).trans d5) | fail); (first | (have f7_6 := (hb6.cell (p := ⟨w1.heap.size, 6, none⟩) hltx).trans d6) | fail); (first | (have f8_6 := (hb6.cell (p := ⟨w1.heap.size, 7, none⟩) hltx).trans d7) | fail); (first | (have f9_6 := (hb6.cell (p := ⟨w1.heap.size + 1, 0, none⟩) hlty).trans e0) | fail); (first | (have f10_6 := (hb6.cell (p := ⟨w1.heap.size + 1, 1, none⟩) hlty).trans e1) | fail); (first | (have f11_6 := (hb6.cell (p := ⟨w1.heap.size + 1, 2, none⟩) hlty).trans e2) | fail); (first | (have f12_6 := (hb6.cell (p := ⟨w1.heap.size + 1, 3, none⟩) hlty).trans e3) | fail); (first | (have f13_6 := (hb6.cell (p := ⟨w1.heap.size + 1, 4, none⟩) hlty).trans e4) | fail); (first | (have f14_6 := (hb6.cell (p := ⟨w1.heap.size + 1, 5, none⟩) hlty).trans e5) | fail); (first | (have f15_6 := (hb6.cell (p := ⟨w1.heap.size + 1, 6, none⟩) hlty).trans e6) | fail); (first | (have f16_6 := (hb6.cell (p := ⟨w1.heap.size + 1, 7, none⟩) hlty).trans e7) | fail); (first | (obtain ⟨A6, m6, k6, rfl⟩ : ∃ A m c, v6 = .slice A m c := (by obtain ⟨A, c, h, _⟩ := hO6.form; exact ⟨A, _, c, h⟩)) | fail); (first | (have rv6 := Lib.hid (hRW.out.next hb6 hRW.out.lt)) | fail); (first | (have fv6 := rv6.out.frozen 4) | fail); (first | (have hv6 := rv6.out.sx.c4) | fail); (first | (have s0 := (((Bex.refl (w1.heap.size + 1 + 1) w6).setCell 4 (.slice A6 m6 k6)).cell (p := ⟨w.heap.size, 4, none⟩) (Nat.lt_of_lt_of_le hlt hb6.size) hneb0).trans f0_6) | fail); (first | (have s1 := (((Bex.refl (w1.heap.size + 1 + 1) w6).setCell 4 (.slice A6 m6 k6)).cell (p := ⟨w1.heap.size, 0, none⟩) (Nat.lt_of_lt_of_le hltx hb6.size) hneb1).trans f1_6) | fail); (first | (have s2 := (((Bex.refl (w1.heap.size + 1 + 1) w6).setCell 4 (.slice A6 m6 k6)).cell (p := ⟨w1.heap.size, 1, none⟩) (Nat.lt_of_lt_of_le hltx hb6.size) hneb1).trans f2_6) | fail); (first | (have s3 := (((Bex.refl (w1.heap.size + 1 + 1) w6).setCell 4 (.slice A6 m6 k6)).cell (p := ⟨w1.heap.size, 2, none⟩) (Nat.lt_of_lt_of_le hltx hb6.size) hneb1).trans f3_6) | fail); (first | (have s4 := (((Bex.refl (w1.heap.size + 1 + 1) w6).setCell 4 (.slice A6 m6 k6)).cell (p := ⟨w1.heap.size, 3, none⟩) (Nat.lt_of_lt_of_le hltx hb6.size) hneb1).trans f4_6) | fail); (first | (have s5 := (((Bex.refl (w1.heap.size + 1 + 1) w6).setCell 4 (.slice A6 m6 k6)).cell (p := ⟨w1.heap.size, 4, none⟩) (Nat.lt_of_lt_of_le hltx hb6.size) hneb1).trans f5_6) | fail); (first | (have s6 := (((Bex.refl (w1.heap.size + 1 + 1) w6).setCell 4 (.slice A6 m6 k6)).cell (p := ⟨w1.heap.size, 5, none⟩) (Nat.lt_of_lt_of_le hltx hb6.size) hneb1).trans f6_6) | fail); (first | (have s7 := (((Bex.refl (w1.heap.size + 1 + 1) w6).setCell 4 (.slice A6 m6 k6)).cell (p := ⟨w1.heap.size, 6, none⟩) (Nat.lt_of_lt_of_le hltx hb6.size) hneb1).trans f7_6) | fail); (first | (have s8 := (((Bex.refl (w1.heap.size + 1 + 1) w6).setCell 4 (.slice A6 m6 k6)).cell (p := ⟨w1.heap.size, 7, none⟩) (Nat.lt_of_lt_of_le hltx hb6.size) hneb1).trans f8_6) | fail); (first | (have s9 := (((Bex.refl (w1.heap.size + 1 + 1) w6).setCell 4 (.slice A6 m6 k6)).cell (p := ⟨w1.heap.size + 1, 0, none⟩) (Nat.lt_of_lt_of_le hlty hb6.size) hneb2).trans f9_6) | fail); (first | (have s10 := (((Bex.refl (w1.heap.size + 1 + 1) w6).setCell 4 (.slice A6 m6 k6)).cell (p := ⟨w1.heap.size + 1, 1, none⟩) (Nat.lt_of_lt_of_le hlty hb6.size) hneb2).trans f10_6) | fail); (first | (have s11 := (((Bex.refl (w1.heap.size + 1 + 1) w6).setCell 4 (.slice A6 m6 k6)).cell (p := ⟨w1.heap.size + 1, 2, none⟩) (Nat.lt_of_lt_of_le hlty hb6.size) hneb2).trans f11_6) | fail); (first | (have s12 := (((Bex.refl (w1.heap.size + 1 + 1) w6).setCell 4 (.slice A6 m6 k6)).cell (p := ⟨w1.heap.size + 1, 3, none⟩) (Nat.lt_of_lt_of_le hlty hb6.size) hneb2).trans f12_6) | fail); (first | (have s13 := (((Bex.refl (w1.heap.size + 1 + 1) w6).setCell 4 (.slice A6 m6 k6)).cell (p := ⟨w1.heap.size + 1, 4, none⟩) (Nat.lt_of_lt_of_le hlty hb6.size) hneb2).trans f13_6) | fail); (first | (have s14 := (((Bex.refl (w1.heap.size + 1 + 1) w6).setCell 4 (.slice A6 m6 k6)).cell (p := ⟨w1.heap.size + 1, 5, none⟩) (Nat.lt_of_lt_of_le hlty hb6.size) hneb2).trans f14_6) | fail); (first | (have s15 := (((Bex.refl (w1.heap.size + 1 + 1) w6).setCell 4 (.slice A6 m6 k6)).cell (p := ⟨w1.heap.size + 1, 6, none⟩) (Nat.lt_of_lt_of_le hlty hb6.size) hneb2).trans f15_6) | fail); (first | (have s16 := (((Bex.refl (w1.heap.size + 1 + 1) w6).setCell 4 (.slice A6 m6 k6)).cell (p := ⟨w1.heap.size + 1, 7, none⟩) (Nat.lt_of_lt_of_le hlty hb6.size) hneb2).trans f16_6) | fail)))
          all_goals
            go_wp2_with fail
            go_meet
            case rel => exact ⟨A6, m6, k6, Lib.hid (rv6.out.put _), Lib.hid (hO6.aside hRW.out.lt 4 _), Lib.hid (put_below (hBB.out.trans (hb6.mono hBB.out.size)) (by omega) (by have := hb6.size; have := hBB.out.size; omega) 4 _)⟩
        case rest =>
          clear hRW hDx hDy hBW hBB hlit
          clear hRW
          obtain ⟨Av, mv, kv, hRv, hOv, hBv⟩ := hcut
          obtain ⟨wn, hwn⟩ : ∃ z, z = wc := ⟨_, rfl⟩
          subst hwn
          obtain ⟨A', c', e', hSv⟩ := hOv.out.form
          injection e' with e1 e2 e3
          subst e1 e2 e3
          rw [List.nil_append] at hRv hSv
          clear hOv
          obtain ⟨F, hF⟩ : ∃ F, F = ds ++ [dx, dy] := ⟨_, rfl⟩
          rw [← hF] at hRv hSv HOF hmb hbb
          clear hF
          have hSv := Lib.hid hSv
          obtain ⟨c0, c1, c2, c3, c4, c5, c6, c7, c8, hlt⟩ := hXN.out.next hBv.out
          go_wp2
          have hR0 := Rw.made wn P N T (.slice (some ⟨bc, oc, none⟩) co.length cc) (.slice Ad ds.length cd) (.slice At ts.length ct)
          have hBB := Lib.hid ((Below.refl wn.heap.size wn).alloc (Nat.le_refl _) (.cells #[.int .u64 P, .int .i64 N, .int .i64 T, .slice (some ⟨bc, oc, none⟩) co.length cc, .slice Ad ds.length cd, .slice At ts.length ct] 29))
          have hBW := Lib.hid (bnew hBv.out (.cells #[.int .u64 P, .int .i64 N, .int .i64 T, .slice (some ⟨bc, oc, none⟩) co.length cc, .slice Ad ds.length cd, .slice At ts.length ct] 29) (Nat.le_refl _))
          have hRW := Lib.hid hR0
          have hz0 := Lib.hid hBv.out.size
          clear hR0 c0 c1 c2 c3 c4 c5 c6 c7 c8 hlt
          generalize wn.alloc (.cells #[.int .u64 P, .int .i64 N, .int .i64 T, .slice (some ⟨bc, oc, none⟩) co.length cc, .slice Ad ds.length cd, .slice At ts.length ct] 29) = Wb at *
          have hlit : ∀ (W : World) (B : Nat) (hB : B ≤ W.heap.size), OD (W.alloc (.cells #[.int .i64 r, .int .i64 kx, .int .i64 0, .int .i64 0, .int .i64 4, .int .u64 0, .int .i64 1, .int .i64 0] 41)) B (.slice (some ⟨W.heap.size, 0, none⟩) 1 1) 1 [dz] := fun W B hB => by rw [hdz]; exact OD.one W ⟨r, kx, 0, 0, 4, 0, 1, 0⟩ hB
          go_cut [] from 72 to 87 (fun wx => ∃ (A : Option Addr) (m k : Nat), Hid (Rw wx (wn.heap.size) P N T (.slice (some ⟨bc, oc, none⟩) co.length cc) (.slice A m k) (.slice At ts.length ct)) ∧ Hid (OD wx Wb.heap.size (.slice A m k) (0 + ds.length + 1) ([] ++ ds ++ [dz])) ∧ Hid (Below wn.heap.size wn wx))
          case first =>
            obtain ⟨_, _, _, c3, c4, _, c6, _, _, hlt⟩ := hXN.out.next hBW.out
            have hz1 := hz0.out
            have hcb := (hBW.out.cell (p := ⟨bc, oc, none⟩) hbc).trans hcxH.out
            have hbcb : bc < Wb.heap.size := Nat.lt_of_lt_of_le hbc hBW.out.size
            have hds := (hd2.next hBW.out)
            have eA := Lib.hid ((OD.nothing (w := Wb.alloc (.cells #[.int .i64 r, .int .i64 kx, .int .i64 0, .int .i64 0, .int .i64 4, .int .u64 0, .int .i64 1, .int .i64 0] 41)) (B := Wb.heap.size) (by simp)).drew)
            have eB := Lib.hid (((OD.nothing (w := Wb) (B := Wb.heap.size) (Nat.le_refl _)).push (.cells #[.int .i64 r, .int .i64 kx, .int .i64 0, .int .i64 0, .int .i64 4, .int .u64 0, .int .i64 1, .int .i64 0] 41)).drew)
            have eC := Lib.hid ((OD.nothing (w := Wb) (B := Wb.heap.size) (Nat.le_refl _)).drew)
            have lA := Lib.hid (((hlit Wb Wb.heap.size (Nat.le_refl _)).push (.cells #[] 41)).drew)
            have lB := Lib.hid ((hlit (Wb.alloc (.cells #[] 41)) Wb.heap.size (by simp)).drew)
            rw [World.size_alloc] at eA lB
            have sA := Lib.hid (((hds.push (.cells #[.int .i64 r, .int .i64 kx, .int .i64 0, .int .i64 0, .int .i64 4, .int .u64 0, .int .i64 1, .int .i64 0] 41)).push (.cells #[] 41)).next (Below.refl _ _).drew)
            have sB := Lib.hid (((hds.push (.cells #[] 41)).push (.cells #[.int .i64 r, .int .i64 kx, .int .i64 0, .int .i64 0, .int .i64 4, .int .u64 0, .int .i64 1, .int .i64 0] 41)).next (Below.refl _ _).drew)
            have sC := Lib.hid ((hds.push (.cells #[] 41)).next (Below.refl _ _).drew)
            have bA := Lib.hid (bnew (bnew (Below.refl Wb.heap.size Wb) (.cells #[.int .i64 r, .int .i64 kx, .int .i64 0, .int .i64 0, .int .i64 4, .int .u64 0, .int .i64 1, .int .i64 0] 41) (Nat.le_refl _)) (.cells #[] 41) (Nat.le_refl _)).drew
            have bB := Lib.hid (bnew (bnew (Below.refl Wb.heap.size Wb) (.cells #[] 41) (Nat.le_refl _)) (.cells #[.int .i64 r, .int .i64 kx, .int .i64 0, .int .i64 0, .int .i64 4, .int .u64 0, .int .i64 1, .int .i64 0] 41) (Nat.le_refl _)).drew
            have bC := Lib.hid (bnew (Below.refl Wb.heap.size Wb) (.cells #[] 41) (Nat.le_refl _)).drew
            have hne0 : w.heap.size ≠ Wb.heap.size := by omega
            have hne1 : w.heap.size ≠ Wb.heap.size + 1 := by omega
            have hne2 : bc ≠ Wb.heap.size := by omega
            have hne3 : bc ≠ Wb.heap.size + 1 := by omega
            have hneb0 : w.heap.size ≠ wn.heap.size := by omega
            have hneb1 : bc ≠ wn.heap.size := by omega
            go_region_held3 (fun w' => w'.cell? ⟨w.heap.size, 3, none⟩ = some (.slice (some ⟨bc, oc, none⟩) co.length cc) ∧ w'.cell? ⟨w.heap.size, 4, none⟩ = some (.slice Ad ds.length cd) ∧ w'.cell? ⟨w.heap.size, 6, none⟩ = some (.int .i64 r) ∧ w'.cell? ⟨bc, oc, none⟩ = some (.int .i64 kx))
              (refine ⟨?_, ?_, ?_, ?_⟩ <;> first | assumption | (go_simp; done))
              (first
                | ((first | (refine step_append_dv (by rfl) _ _ (by rfl) Wb.heap.size _ 0 ds.length [] ds (by rfl) eA.out Ad cd (by rfl) rfl sA.out (by omega) (by first | omega | (simp; done) | (simp; omega)) ?_) | fail); intro v5 w5 hO5 hg5; (first | (have hb5 : Below Wb.heap.size Wb w5 := bA.out.grown hg5 (by first | omega | (simp; done) | (simp; omega)) (fun q e => (eA.out.lt q e).1)) | fail); (first | (have l5 := Lib.hid (lA.out.kept hg5 (by simp [Value.ownBlock]))) | fail); (first | (have f0_5 := (hb5.cell (p := ⟨w.heap.size, 3, none⟩) hlt).trans c3) | fail); (first | (have f1_5 := (hb5.cell (p := ⟨w.heap.size, 4, none⟩) hlt).trans c4) | fail); (first | (have f2_5 := (hb5.cell (p := ⟨w.heap.size, 6, none⟩) hlt).trans c6) | fail); (first | (have f3_5 := (hb5.cell (p := ⟨bc, oc, none⟩) hbcb).trans hcb) | fail); (first | (clear hg5) | fail))
                | ((first | (refine step_append_dv (by rfl) _ _ (by rfl) Wb.heap.size _ 0 ds.length [] ds (by rfl) eB.out Ad cd (by rfl) rfl sB.out (by omega) (by first | omega | (simp; done) | (simp; omega)) ?_) | fail); intro v5 w5 hO5 hg5; (first | (have hb5 : Below Wb.heap.size Wb w5 := bB.out.grown hg5 (by first | omega | (simp; done) | (simp; omega)) (fun q e => (eB.out.lt q e).1)) | fail); (first | (have l5 := Lib.hid (lB.out.kept hg5 (by simp [Value.ownBlock]))) | fail); (first | (have f0_5 := (hb5.cell (p := ⟨w.heap.size, 3, none⟩) hlt).trans c3) | fail); (first | (have f1_5 := (hb5.cell (p := ⟨w.heap.size, 4, none⟩) hlt).trans c4) | fail); (first | (have f2_5 := (hb5.cell (p := ⟨w.heap.size, 6, none⟩) hlt).trans c6) | fail); (first | (have f3_5 := (hb5.cell (p := ⟨bc, oc, none⟩) hbcb).trans hcb) | fail); (first | (clear hg5) | fail))
                | ((first | (refine step_append_dv (by rfl) _ _ (by rfl) Wb.heap.size _ 0 ds.length [] ds (by rfl) eC.out Ad cd (by rfl) rfl sC.out (by omega) (by first | omega | (simp; done) | (simp; omega)) ?_) | fail); intro v5 w5 hO5 hg5; (first | (have hb5 : Below Wb.heap.size Wb w5 := bC.out.grown hg5 (by first | omega | (simp; done) | (simp; omega)) (fun q e => (eC.out.lt q e).1)) | fail); (first | (have z5 := hb5.size) | fail); (first | (have u5 := Lib.hid (hO5.push (.cells #[.int .i64 r, .int .i64 kx, .int .i64 0, .int .i64 0, .int .i64 4, .int .u64 0, .int .i64 1, .int .i64 0] 41))) | fail); (first | (have l5c := Lib.hid (hlit w5 Wb.heap.size hb5.size)) | fail); (first | (have hn50 : w.heap.size ≠ w5.heap.size := by omega) | fail); (first | (have hn51 : bc ≠ w5.heap.size := by omega) | fail); (first | (have f0_5 := (hb5.cell (p := ⟨w.heap.size, 3, none⟩) hlt).trans c3) | fail); (first | (have f1_5 := (hb5.cell (p := ⟨w.heap.size, 4, none⟩) hlt).trans c4) | fail); (first | (have f2_5 := (hb5.cell (p := ⟨w.heap.size, 6, none⟩) hlt).trans c6) | fail); (first | (have f3_5 := (hb5.cell (p := ⟨bc, oc, none⟩) hbcb).trans hcb) | fail); (first | (have g0 := ((bnew (Below.refl w5.heap.size w5) (.cells #[.int .i64 r, .int .i64 kx, .int .i64 0, .int .i64 0, .int .i64 4, .int .u64 0, .int .i64 1, .int .i64 0] 41) (Nat.le_refl _)).cell (p := ⟨w.heap.size, 3, none⟩) (Nat.lt_of_lt_of_le hlt z5)).trans f0_5) | fail); (first | (have g1 := ((bnew (Below.refl w5.heap.size w5) (.cells #[.int .i64 r, .int .i64 kx, .int .i64 0, .int .i64 0, .int .i64 4, .int .u64 0, .int .i64 1, .int .i64 0] 41) (Nat.le_refl _)).cell (p := ⟨w.heap.size, 4, none⟩) (Nat.lt_of_lt_of_le hlt z5)).trans f1_5) | fail); (first | (have g2 := ((bnew (Below.refl w5.heap.size w5) (.cells #[.int .i64 r, .int .i64 kx, .int .i64 0, .int .i64 0, .int .i64 4, .int .u64 0, .int .i64 1, .int .i64 0] 41) (Nat.le_refl _)).cell (p := ⟨w.heap.size, 6, none⟩) (Nat.lt_of_lt_of_le hlt z5)).trans f2_5) | fail); (first | (have g3 := ((bnew (Below.refl w5.heap.size w5) (.cells #[.int .i64 r, .int .i64 kx, .int .i64 0, .int .i64 0, .int .i64 4, .int .u64 0, .int .i64 1, .int .i64 0] 41) (Nat.le_refl _)).cell (p := ⟨bc, oc, none⟩) (Nat.lt_of_lt_of_le hbcb z5)).trans f3_5) | fail); (first | (clear hg5) | fail))
                | ((first | (refine step_append_dv (by rfl) _ _ (by rfl) Wb.heap.size _ (0 + ds.length) 1 ([] ++ ds) [dz] (by rfl) hO5 _ 1 (by rfl) rfl l5.out.sd (by omega) hb5.size ?_) | fail); intro v6 w6 hO6 hg6; (first | (have hb6 : Below Wb.heap.size Wb w6 := hb5.grown hg6 hb5.size (fun q e => (hO5.lt q e).1)) | fail); (first | (have f0_6 := (hb6.cell (p := ⟨w.heap.size, 3, none⟩) hlt).trans c3) | fail); (first | (have f1_6 := (hb6.cell (p := ⟨w.heap.size, 4, none⟩) hlt).trans c4) | fail); (first | (have f2_6 := (hb6.cell (p := ⟨w.heap.size, 6, none⟩) hlt).trans c6) | fail); (first | (have f3_6 := (hb6.cell (p := ⟨bc, oc, none⟩) hbcb).trans hcb) | fail); (first | (obtain ⟨A6, m6, k6, rfl⟩ : ∃ A m c, v6 = .slice A m c := (by obtain ⟨A, c, h, _⟩ := hO6.form; exact ⟨A, _, c, h⟩)) | fail); (first | (have rv6 := Lib.hid (hRW.out.next hb6 hRW.out.lt)) | fail); (first | (have fv6 := rv6.out.frozen 4) | fail); (first | (have hv6 := rv6.out.sx.c4) | fail); (first | (have s0 := (((Bex.refl (wn.heap.size) w6).setCell 4 (.slice A6 m6 k6)).cell (p := ⟨w.heap.size, 3, none⟩) (Nat.lt_of_lt_of_le hlt hb6.size) hneb0).trans f0_6) | fail); (first | (have s1 := (((Bex.refl (wn.heap.size) w6).setCell 4 (.slice A6 m6 k6)).cell (p := ⟨w.heap.size, 4, none⟩) (Nat.lt_of_lt_of_le hlt hb6.size) hneb0).trans f1_6) | fail); (first | (have s2 := (((Bex.refl (wn.heap.size) w6).setCell 4 (.slice A6 m6 k6)).cell (p := ⟨w.heap.size, 6, none⟩) (Nat.lt_of_lt_of_le hlt hb6.size) hneb0).trans f2_6) | fail); (first | (have s3 := (((Bex.refl (wn.heap.size) w6).setCell 4 (.slice A6 m6 k6)).cell (p := ⟨bc, oc, none⟩) (Nat.lt_of_lt_of_le hbcb hb6.size) hneb1).trans f3_6) | fail))
                | ((first | (refine step_append_dv (by rfl) _ _ (by rfl) Wb.heap.size _ (0 + ds.length) 1 ([] ++ ds) [dz] (by rfl) u5.out _ 1 (by rfl) rfl l5c.out.sd (by omega) (by first | omega | (simp; done) | (simp; omega)) ?_) | fail); intro v6 w6 hO6 hg6; (first | (have hb6 : Below Wb.heap.size Wb w6 := (bnew hb5 (.cells #[.int .i64 r, .int .i64 kx, .int .i64 0, .int .i64 0, .int .i64 4, .int .u64 0, .int .i64 1, .int .i64 0] 41) (Nat.le_refl _)).grown hg6 (by first | omega | (simp; done) | (simp; omega)) (fun q e => (u5.out.lt q e).1)) | fail); (first | (have f0_6 := (hb6.cell (p := ⟨w.heap.size, 3, none⟩) hlt).trans c3) | fail); (first | (have f1_6 := (hb6.cell (p := ⟨w.heap.size, 4, none⟩) hlt).trans c4) | fail); (first | (have f2_6 := (hb6.cell (p := ⟨w.heap.size, 6, none⟩) hlt).trans c6) | fail); (first | (have f3_6 := (hb6.cell (p := ⟨bc, oc, none⟩) hbcb).trans hcb) | fail); (first | (obtain ⟨A6, m6, k6, rfl⟩ : ∃ A m c, v6 = .slice A m c := (by obtain ⟨A, c, h, _⟩ := hO6.form; exact ⟨A, _, c, h⟩)) | fail); (first | (have rv6 := Lib.hid (hRW.out.next hb6 hRW.out.lt)) | fail); (first | (have fv6 := rv6.out.frozen 4) | fail); (first | (have hv6 := rv6.out.sx.c4) | fail); (first | (have s0 := (((Bex.refl (wn.heap.size) w6).setCell 4 (.slice A6 m6 k6)).cell (p := ⟨w.heap.size, 3, none⟩) (Nat.lt_of_lt_of_le hlt hb6.size) hneb0).trans f0_6) | fail); (first | (have s1 := (((Bex.refl (wn.heap.size) w6).setCell 4 (.slice A6 m6 k6)).cell (p := ⟨w.heap.size, 4, none⟩) (Nat.lt_of_lt_of_le hlt hb6.size) hneb0).trans f1_6) | fail); (first | (have s2 := (((Bex.refl (wn.heap.size) w6).setCell 4 (.slice A6 m6 k6)).cell (p := ⟨w.heap.size, 6, none⟩) (Nat.lt_of_lt_of_le hlt hb6.size) hneb0).trans f2_6) | fail); (first | (have s3 := (((Bex.refl (wn.heap.size) w6).setCell 4 (.slice A6 m6 k6)).cell (p := ⟨bc, oc, none⟩) (Nat.lt_of_lt_of_le hbcb hb6.size) hneb1).trans f3_6) | fail)))
            all_goals
              go_wp2_with fail
              go_meet
              case rel => exact ⟨A6, m6, k6, Lib.hid (rv6.out.put _), Lib.hid (hO6.aside hRW.out.lt 4 _), Lib.hid (put_below (hBB.out.trans (hb6.mono hBB.out.size)) (by omega) (by have := hb6.size; have := hBB.out.size; omega) 4 _)⟩
          case rest =>
            clear hRW hBB hBW hlit
            obtain ⟨Az, mz, kz, hRz, hOz, hBz⟩ := hcut
            obtain ⟨wm, hwm⟩ : ∃ z, z = wc := ⟨_, rfl⟩
            subst hwm
            obtain ⟨A', c', e', hSz⟩ := hOz.out.form
            injection e' with e1 e2 e3
            subst e1 e2 e3
            rw [List.nil_append] at hRz hSz
            clear hOz
            have hBx := Lib.hid (hBv.out.trans (hBz.out.mono hBv.out.size))
            have hRw := Lib.hid (hRv.out.next hBz.out hRv.out.lt)
            have hSw := Lib.hid (hSv.out.next hBz.out)
            have hXr := Lib.hid (hXN.out.next hBx.out)
            have hc5 := hc2.next hBx.out
            have hm5 := hm2.next hBx.out
            have ha5 := ha2.next hBx.out
            obtain ⟨i, hik⟩ : ∃ i : Nat, kx = (i : Int) + 1 := ⟨(kx - 1).toNat, by omega⟩
            have hiN : i < N := by omega
            have hez : eff co r dz = true := by rw [hdz]; unfold eff; rw [Bool.and_eq_true]; exact ⟨decide_eq_true rfl, decide_eq_true (List.mem_of_getElem? hkx)⟩
            have hbz : bcF P co r (ds ++ [dz]) (rAt all) i = [] := bcF_drop ds (rAt all) (by rw [hdz]) hez (by rw [hdz]; exact hik.symm)
            have hmz : ∀ j, j < N → j ≠ i → msF P co N r (ds ++ [dz]) (rAt2 M) i j = [] := fun j hj hji => msF_drop ds (rAt2 M) (by rw [hdz]) (by rw [hdz]) hez (by rw [hdz]; exact hik.symm) hj hji
            obtain ⟨Z, hZ⟩ : ∃ Z, Z = ds ++ [dz] := ⟨_, rfl⟩
            rw [← hZ] at hRz hSz HOZ hbz hmz
            clear hZ hez hdz
            subst hik
            have hbz := Lib.hid hbz
            have hmz := Lib.hid hmz
            have b0 := fun W h1 h2 h3 => bc_any P N T (some ⟨bc, oc, none⟩) Az cc kz co Z (.slice At ts.length ct) r HOZ.out Aa ca (rAt all) hf1 W h1 h2 h3
            have g0 := fun W h1 h2 h3 => ms_any P N T (some ⟨bc, oc, none⟩) Az cc kz co Z (.slice At ts.length ct) r HOZ.out Am cm (rAt2 M) hf2 W h1 h2 h3
            have g1 := fun W h1 h2 h3 => ms_any P N T (some ⟨bc, oc, none⟩) Ad cc cd co ds (.slice At ts.length ct) r HOK.out Am cm (rAt2 M) hf2 W h1 h2 h3
            have g2 := fun W h1 h2 h3 => ms_any P N T (some ⟨bc, oc, none⟩) Av cc kv co F (.slice At ts.length ct) r HOF.out Am cm (rAt2 M) hf2 W h1 h2 h3
            have b1 := fun W h1 h2 h3 => bc_any P N T (some ⟨bc, oc, none⟩) Ad cc cd co ds (.slice At ts.length ct) r HOK.out Aa ca (rAt all) hf1 W h1 h2 h3
            have b2 := fun W h1 h2 h3 => bc_any P N T (some ⟨bc, oc, none⟩) Av cc kv co F (.slice At ts.length ct) r HOF.out Aa ca (rAt all) hf1 W h1 h2 h3
            rw [hmb.out] at g2
            rw [hbb.out] at b2
            have t1 := fun A A' c c' W h1 h2 => sameAll_yes A A' c c' N (msF P co N r ds (rAt2 M)) (msF P co N r ds (rAt2 M)) hN13 (fun _ _ _ _ => rfl) (fun i j _ _ => ms_short hp0 hf2 i j) W h1 h2
            have t2 := fun A A' c c' W h1 h2 => same_yes A A' c c' N (bcF P co r ds (rAt all)) (bcF P co r ds (rAt all)) hN13 (fun _ _ => rfl) (fun i _ => bc_short hp0 hf1 i) W h1 h2
            unfold sv at b0 g0 g1 g2 b1 b2
            clear hmb hbb HOF HOZ
            generalize msF P co N r ds (rAt2 M) = RM at *
            generalize msF P co N r Z (rAt2 M) = RZ at *
            generalize bcF P co r ds (rAt all) = RB at *
            generalize bcF P co r Z (rAt all) = RY at *
            generalize rAt2 M = FM at *
            generalize rAt all = FB at *
            generalize hnF : F.length = nF at *
            generalize hnZ : Z.length = nZ at *
            have HnF := Lib.hid hnF
            have HnZ := Lib.hid hnZ
            have hSd := Lib.hid hRz.out.sx
            clear hnF hnZ hRz hRv hSv hBz
            have q3 := Lib.hid (Below.refl wm.heap.size wm).drew
            obtain ⟨p0, p1, p2, p3, p4, p5, p6, p7, p8, _⟩ := id hXr.out
            obtain ⟨z0, z1, z2, z3, z4, z5, _⟩ := id hSd.out
            go_wp2
            go_region_held3 (fun w' => w'.cell? ⟨w.heap.size, 0, none⟩ = some (.int .u64 P) ∧ w'.cell? ⟨w.heap.size, 1, none⟩ = some (.int .i64 N) ∧ w'.cell? ⟨w.heap.size, 2, none⟩ = some (.int .i64 T) ∧ w'.cell? ⟨w.heap.size, 3, none⟩ = some (.slice (some ⟨bc, oc, none⟩) co.length cc) ∧ w'.cell? ⟨w.heap.size, 4, none⟩ = some (.slice Ad ds.length cd) ∧ w'.cell? ⟨w.heap.size, 5, none⟩ = some (.slice At ts.length ct) ∧ w'.cell? ⟨w.heap.size, 6, none⟩ = some (.int .i64 r) ∧ w'.cell? ⟨w.heap.size, 7, none⟩ = some (.slice Am N cm) ∧ w'.cell? ⟨w.heap.size, 8, none⟩ = some (.slice Aa N ca) ∧ w'.cell? ⟨wn.heap.size, 0, none⟩ = some (.int .u64 P) ∧ w'.cell? ⟨wn.heap.size, 1, none⟩ = some (.int .i64 N) ∧ w'.cell? ⟨wn.heap.size, 2, none⟩ = some (.int .i64 T) ∧ w'.cell? ⟨wn.heap.size, 3, none⟩ = some (.slice (some ⟨bc, oc, none⟩) co.length cc) ∧ w'.cell? ⟨wn.heap.size, 4, none⟩ = some (.slice Az nZ kz) ∧ w'.cell? ⟨wn.heap.size, 5, none⟩ = some (.slice At ts.length ct))
              (refine ⟨?_, ?_, ?_, ?_, ?_, ?_, ?_, ?_, ?_, ?_, ?_, ?_, ?_, ?_, ?_⟩ <;> first | assumption | go_simp)
              (first
                | (go_at_call 13; with_reducible refine (g0 _ (hc5.next q4.out) (hSz.next q4.out) (hm5.next q4.out)).mono ?_; rintro e w5 ⟨A5, k5, rfl, s5, hb5⟩; have q5 := Lib.hid (q4.out.trans (hb5.mono q4.out.size)); have s45 := s4.next hb5; clear p0 p1 p2 p3 p4 p5 p6 p7 p8 z0 z1 z2 z3 z4 z5; obtain ⟨p0, p1, p2, p3, p4, p5, p6, p7, p8, _⟩ := hXr.out.next q5.out; obtain ⟨z0, z1, z2, z3, z4, z5, _⟩ := hSd.out.next q5.out; clear hb5)
                | (go_at_call 16; refine (b0 _ (hc5.next q3.out) (hSz.next q3.out) (ha5.next q3.out)).mono ?_; rintro e w4 ⟨A4, k4, rfl, s4, hb4⟩; have q4 := Lib.hid (q3.out.trans hb4); clear p0 p1 p2 p3 p4 p5 p6 p7 p8 z0 z1 z2 z3 z4 z5; obtain ⟨p0, p1, p2, p3, p4, p5, p6, p7, p8, _⟩ := hXr.out.next q4.out; obtain ⟨z0, z1, z2, z3, z4, z5, _⟩ := hSd.out.next q4.out; clear hb4))
            have hB5 := Lib.hid (hBx.out.trans (q5.out.mono hBx.out.size))
            have hRx := Lib.hid (hRw.out.next q5.out hRw.out.lt)
            have hSx := Lib.hid (hSw.out.next q5.out)
            have S4 := Lib.hid s45
            have S5 := Lib.hid s5
            clear b0 g0 s4 s45 s5 q3 q4 q5 hc5 hm5 ha5 hXr hSd hSz hRw hSw hBx p0 p1 p2 p3 p4 p5 p6 p7 p8 z0 z1 z2 z3 z4 z5
            obtain ⟨b4, o4, rfl, hl4, hcm4⟩ := S4.out.rd (by omega)
            obtain ⟨A6, k6, hcell6, _⟩ := hcm4 i hiN
            rw [hbz.out, List.length_nil] at hcell6
            obtain ⟨b5, o5, A7, k7, rfl, hl5, hcell7, hsf7⟩ := S5.out.at_ hiN
            obtain ⟨b8, o8, rfl, hl8, hcm8⟩ := hsf7.rd (by omega)
            have hcm8 := Lib.hid hcm8
            have hc7H := Lib.hid hcell7
            have hcb := (hB5.out.cell (p := ⟨bc, oc, none⟩) hbc).trans hcxH.out
            obtain ⟨p0, p1, p2, p3, p4, p5, p6, p7, p8, hlt5⟩ := hXN.out.next hB5.out
            have hNe : ((N : Int) != (N : Int)) = false := by rw [bne_eq_false_iff_eq]
            have hiI : (i : Int) < N := by omega
            have hi0 : (0 : Int) ≤ (i : Int) := by omega
            have ei : IntKind.i64.wrap (i : Int) = (i : Int) := IntWalk.i64_in _ (by omega)
            have ei2 : IntKind.i64.wrap ((i : Int) + 1 - 1) = (i : Int) := by rw [Int.add_sub_cancel]; exact ei
            clear hbz S4 S5 hcm4 hsf7 hlt5
            go_wp2
            go_quiet (fail)
            have hQb := below_drewN (Below.refl w5.heap.size w5) nq
            have hQH := Lib.hid hQb
            clear hcell6 hcell7 hcb hNe p0 p1 p2 p3 p4 p5 p6 p7 p8 hQb ei2
            generalize w5.drewN nq = w6 at *
            go_wp2
            go_loopw [14] (fun q wr => ∃ k : Nat, k ≤ N ∧ q = .int .i64 k ∧ Hid (Below w5.heap.size w5 wr)) (fun q _ => N - (intOf q).toNat)
            case atStart => exact ⟨0, Nat.zero_le _, rfl, hQH⟩
            case round =>
              clear hQH
              obtain ⟨j, hj, rfl, hb⟩ := hrel
              have hBr := Lib.hid (hB5.out.trans (hb.out.mono hB5.out.size))
              by_cases hlt : j < N
              · have hjI : (j : Int) < N := by omega
                have hj0 : (0 : Int) ≤ (j : Int) := by omega
                have ej : IntKind.i64.wrap ((j : Int) + 1) = (j : Int) + 1 := IntWalk.i64_in _ (by omega)
                have ei2 : IntKind.i64.wrap ((i : Int) + 1 - 1) = (i : Int) := by rw [Int.add_sub_cancel]; exact ei
                have hcb := (hBr.out.cell (p := ⟨bc, oc, none⟩) hbc).trans hcxH.out
                obtain ⟨p0, p1, p2, p3, p4, p5, p6, p7, p8, hltx⟩ := hXN.out.next hBr.out
                by_cases h1 : j = i
                · subst h1
                  go_wp2
                  go_roundw
                  case rel => exact ⟨j + 1, by omega, by simp, hb⟩
                  case measure => simp [intOf]; omega
                · have h1' : ((j : Int) != (i : Int)) = true := bne_iff_ne.2 (by omega)
                  obtain ⟨A9, k9, hc9, _⟩ := hcm8.out j hlt
                  rw [hmz.out j hlt h1, List.length_nil] at hc9
                  have hcell9 := (hb.out.cell (p := ⟨b8, o8 + j, none⟩) hl8).trans hc9
                  have hcell7 := (hb.out.cell (p := ⟨b5, o5 + i, none⟩) hl5).trans hc7H.out
                  clear hc9
                  go_wp2
                  go_roundw
                  case rel => exact ⟨j + 1, by omega, by simp, hb⟩
                  case measure => simp [intOf]; omega
              · obtain rfl : N = j := by omega
                have hXr := Lib.hid (hXN.out.next hBr.out)
                have hSv := Lib.hid ((hRx.out.next hb.out hRx.out.lt).sx)
                have hv5 := hSx.out.next hb.out
                have hc5 := hc2.next hBr.out
                have hd5 := hd2.next hBr.out
                have hm5 := hm2.next hBr.out
                have ha5 := ha2.next hBr.out
                have hBe := Lib.hid (hB2.out.trans (hBr.out.mono hB2.out.size))
                obtain ⟨p0, p1, p2, p3, p4, p5, p6, p7, p8, _⟩ := id hXr.out
                obtain ⟨x0, x1, x2, x3, x4, x5, _⟩ := id hSv.out
                clear hXN hRx hSx hB2 hc2 hd2 hm2 ha2 hB5 hBr hb hcm8 hc7H hcxH hmz
                go_wp2
                go_region_held3 (fun w' => w'.cell? ⟨w.heap.size, 0, none⟩ = some (.int .u64 P) ∧ w'.cell? ⟨w.heap.size, 1, none⟩ = some (.int .i64 N) ∧ w'.cell? ⟨w.heap.size, 2, none⟩ = some (.int .i64 T) ∧ w'.cell? ⟨w.heap.size, 3, none⟩ = some (.slice (some ⟨bc, oc, none⟩) co.length cc) ∧ w'.cell? ⟨w.heap.size, 4, none⟩ = some (.slice Ad ds.length cd) ∧ w'.cell? ⟨w.heap.size, 5, none⟩ = some (.slice At ts.length ct) ∧ w'.cell? ⟨w.heap.size, 6, none⟩ = some (.int .i64 r) ∧ w'.cell? ⟨w.heap.size, 7, none⟩ = some (.slice Am N cm) ∧ w'.cell? ⟨w.heap.size, 8, none⟩ = some (.slice Aa N ca) ∧ w'.cell? ⟨w1.heap.size + 1 + 1, 0, none⟩ = some (.int .u64 P) ∧ w'.cell? ⟨w1.heap.size + 1 + 1, 1, none⟩ = some (.int .i64 N) ∧ w'.cell? ⟨w1.heap.size + 1 + 1, 2, none⟩ = some (.int .i64 T) ∧ w'.cell? ⟨w1.heap.size + 1 + 1, 3, none⟩ = some (.slice (some ⟨bc, oc, none⟩) co.length cc) ∧ w'.cell? ⟨w1.heap.size + 1 + 1, 4, none⟩ = some (.slice Av nF kv) ∧ w'.cell? ⟨w1.heap.size + 1 + 1, 5, none⟩ = some (.slice At ts.length ct))
                  (refine ⟨?_, ?_, ?_, ?_, ?_, ?_, ?_, ?_, ?_, ?_, ?_, ?_, ?_, ?_, ?_⟩ <;> first | assumption | go_simp)
                  (first
                    | (go_at_call 11; refine (awake_any _).mono ?_; rintro e w3 ⟨rfl, hb3⟩; have q3 := Lib.hid ((Below.refl wr.heap.size wr).drew.trans hb3); clear p0 p1 p2 p3 p4 p5 p6 p7 p8 x0 x1 x2 x3 x4 x5; obtain ⟨p0, p1, p2, p3, p4, p5, p6, p7, p8, _⟩ := hXr.out.next q3.out; obtain ⟨x0, x1, x2, x3, x4, x5, _⟩ := hSv.out.next q3.out; clear hb3)
                    | (go_at_call 13; with_reducible refine (g2 _ (hc5.next q3.out) (hv5.next q3.out) (hm5.next q3.out)).mono ?_; rintro e w4 ⟨A4, k4, rfl, s4, hb4⟩; have q4 := Lib.hid (q3.out.trans (hb4.mono q3.out.size)); clear p0 p1 p2 p3 p4 p5 p6 p7 p8 x0 x1 x2 x3 x4 x5; obtain ⟨p0, p1, p2, p3, p4, p5, p6, p7, p8, _⟩ := hXr.out.next q4.out; obtain ⟨x0, x1, x2, x3, x4, x5, _⟩ := hSv.out.next q4.out;  clear hb4)
                    | (go_at_call 13; with_reducible refine (g1 _ (hc5.next q4.out) (hd5.next q4.out) (hm5.next q4.out)).mono ?_; rintro e w5 ⟨A5, k5, rfl, s5, hb5⟩; have q5 := Lib.hid (q4.out.trans (hb5.mono q4.out.size)); clear p0 p1 p2 p3 p4 p5 p6 p7 p8 x0 x1 x2 x3 x4 x5; obtain ⟨p0, p1, p2, p3, p4, p5, p6, p7, p8, _⟩ := hXr.out.next q5.out; obtain ⟨x0, x1, x2, x3, x4, x5, _⟩ := hSv.out.next q5.out; have s45 := s4.next hb5; clear hb5)
                    | (go_at_call 12; with_reducible refine (t1 _ _ _ _ _ s45 s5).mono ?_; rintro e w6 ⟨rfl, hb6⟩; have q6 := Lib.hid (q5.out.trans (hb6.mono q5.out.size)); clear p0 p1 p2 p3 p4 p5 p6 p7 p8 x0 x1 x2 x3 x4 x5; obtain ⟨p0, p1, p2, p3, p4, p5, p6, p7, p8, _⟩ := hXr.out.next q6.out; obtain ⟨x0, x1, x2, x3, x4, x5, _⟩ := hSv.out.next q6.out; clear hb6)
                    | (go_at_call 16; with_reducible refine (b2 _ (hc5.next q6.out) (hv5.next q6.out) (ha5.next q6.out)).mono ?_; rintro e w7 ⟨A7, k7, rfl, s7, hb7⟩; have q7 := Lib.hid (q6.out.trans (hb7.mono q6.out.size)); clear p0 p1 p2 p3 p4 p5 p6 p7 p8 x0 x1 x2 x3 x4 x5; obtain ⟨p0, p1, p2, p3, p4, p5, p6, p7, p8, _⟩ := hXr.out.next q7.out; obtain ⟨x0, x1, x2, x3, x4, x5, _⟩ := hSv.out.next q7.out;  clear hb7)
                    | (go_at_call 16; with_reducible refine (b1 _ (hc5.next q7.out) (hd5.next q7.out) (ha5.next q7.out)).mono ?_; rintro e w8 ⟨A8, k8, rfl, s8, hb8⟩; have q8 := Lib.hid (q7.out.trans (hb8.mono q7.out.size)); clear p0 p1 p2 p3 p4 p5 p6 p7 p8 x0 x1 x2 x3 x4 x5; obtain ⟨p0, p1, p2, p3, p4, p5, p6, p7, p8, _⟩ := hXr.out.next q8.out; obtain ⟨x0, x1, x2, x3, x4, x5, _⟩ := hSv.out.next q8.out; have s78 := s7.next hb8; clear hb8)
                    | (go_at_call 15; with_reducible refine (t2 _ _ _ _ _ s78 s8).mono ?_; rintro e w9 ⟨rfl, hb9⟩; have q9 := Lib.hid (q8.out.trans (hb9.mono q8.out.size)); clear p0 p1 p2 p3 p4 p5 p6 p7 p8 x0 x1 x2 x3 x4 x5; obtain ⟨p0, p1, p2, p3, p4, p5, p6, p7, p8, _⟩ := hXr.out.next q9.out; obtain ⟨x0, x1, x2, x3, x4, x5, _⟩ := hSv.out.next q9.out; clear hb9))
                go_wp2
                go_ret
                exact ⟨rfl, hBe.out.trans (q9.out.mono hBe.out.size)⟩

theorem lifted (os : Os) (started : os.Started) (H : Type) (enc : TypeId × Value → H) :
    ReturnsInHanded {} Try.checked os 8 .any (Rows.adversaryInverseSpec.pre6 enc Try.prog Try.f8 Rows.adversaryInverseRow.domain false) (Rows.adversaryInverseSpec.post enc Try.prog Try.f8 false true false false) := by
  refine returnsInHanded_of_change (C := Try.checked) own started (by kernel_rfl) Try.func8
    (ChangeSpec.witness6 (enc := enc) (C := Try.checked) false ⟨#[], #[.agg #[.int .u64 0, .int .i64 0, .int .i64 0, .slice none 0 0, .slice none 0 0, .slice none 0 0, .int .i64 0, .slice none 0 0, .slice none 0 0], .int .u8 0, .int .u8 0], []⟩ 8 (by kernel_rfl) (by kernel_rfl) (by kernel_rfl) (by kernel_rfl)) ?_
  intro W base args ds gs before hval0 hW hcnd _
  have hval : ∀ (j : Nat) t v, Try.f8.params[j]? = some t → args[j]? = some v → Value.okWide Try.prog W .any base t v := hval0
  have hW' := hW
  obtain ⟨p, q, hA0, hV, rfl, hfz, hnd⟩ := hW
  have hA : DataW.TrodAll enc Try.prog W 0 (fun _ => true) true Try.f8.params.toList args.toList ds p := hA0
  rw [Try.params8] at hA hval
  obtain ⟨v0, v1, v2, d0, d1, d2, p0, p1, p2, rfl, rfl, rfl, t0, t1, t2⟩ := trodAll_three hA
  obtain ⟨rfl, rfl⟩ := trodVars_none hV
  clear hA0 hval0
  simp only [List.append_nil] at hW'
  have l0 : ∀ x ∈ p0, x.block < W.heap.size := fun x hx => hW'.lt x (by simp [hx])
  obtain ⟨P0, N0, T0, Ac0, Ad0, At0, cc0, cd0, ct0, co0, ds0, ts0, rd0, Am0, cm0, M0, Aa0, ca0, all0, rfl, b0, e0, f0, g0, h0, r0⟩ := arg_ask13 (hval 0 32 v0 rfl rfl) t0 l0
  have l1 : ∀ x ∈ p1, x.block < W.heap.size := fun x hx => hW'.lt x (by simp [hx])
  obtain ⟨x1, rfl, b1⟩ := arg_u8 (hval 1 5 v1 rfl rfl) t1
  have l2 : ∀ x ∈ p2, x.block < W.heap.size := fun x hx => hW'.lt x (by simp [hx])
  obtain ⟨x2, rfl, b2⟩ := arg_u8 (hval 2 5 v2 rfl rfl) t2
  refine (walk P0 N0 T0 Ac0 Ad0 At0 cc0 cd0 ct0 co0 ds0 ts0 rd0 Am0 cm0 M0 Aa0 ca0 all0 x1 x2 b0 e0 f0 g0 h0 b1 b2 W r0).mono fun e W' ⟨he, hb⟩ => ?_
  subst he
  exact ⟨_, rfl, post_of_below (pa := p0 ++ (p1 ++ p2)) (pv := []) hW' (fun _ _ _ => (trodAll_cons_mk (shut_bool Try.underlying4 _) trodAll_mk0)) (fun sp hsp => trodAll_mk3 (stay_ask13 t0 hb l0 sp (fun x hx => hsp x (by simp [hx]))) (stay_u8 t1 hb l1 sp (fun x hx => hsp x (by simp [hx]))) (stay_u8 t2 hb l2 sp (fun x hx => hsp x (by simp [hx])))) (fun _ _ => rfl) (by simp)
    hb (ok_one (by kernel_rfl) rfl (okWide_bool_mk Try.underlying4 _))⟩

theorem over : Rows.adversaryInverseRow.holds Try.pinned (OpenSpec.ofChange Rows.adversaryInverseSpec) :=
  OpenClaim.holds_of_wide 8 Try.f8 rfl rfl rfl rfl rfl rfl rfl ⟨rfl, rfl, rfl, rfl, rfl⟩ rfl rfl rfl rfl rfl (by kernel_rfl) Try.func8 (by kernel_rfl)
    (of_decide_eq_true (by kernel_rfl)) (by unfold Func.isWrapper; first | (rw [if_pos (by decide +kernel)]; kernel_rfl) | (rw [if_neg (by decide +kernel)]; exact ⟨rfl, rfl⟩))
    (fun os started H enc _ => lifted os started H enc)

theorem proved : Rows.AdversaryInverseSaid := over
end Go.Proofs.Ytbhphamfkhccpaa.adversaryInverse
