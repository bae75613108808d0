/- Fair of the reference of layer 10, validRows and validTranslation of its laws; only new memory is made. No conditions. -/
import Derived.Test.YtkhiiiggmhncbaaESym
import Derived.Test.YtkhiiiggmhncbaaERef
import Derived.Test.YtkhiiiggmhncbaaME
namespace Go.Proofs.Ytkhiiiggmhncbaa
set_option maxRecDepth 100000
open Go.RowKit PolyMath FieldMath MatMath

def fair10B (p : Int) (S : List (List Int)) (most : Nat) : Bool := fairB p S most && sqB S
theorem fair10_any (p : Int) (A : Option Addr) (c most n : Nat) (S : List (List Int)) (hn : S.length = n) (hm : most ≤ 100) (w : World) (h : Sll w A c S) :
    Calls Try.prog 18 #[.int .u64 p, .slice A n c, .int .i64 most] w fun e w' => e = .returned (.bool (fair10B p S most)) ∧ Below w.heap.size w w' := by
  have hf := fair_any p A c most S hm w h
  have hq := fun (hl : S.length ≤ 1000) W (hW : Below w.heap.size w W) => rSquare10_any A c S hl W (h.next hW)
  rw [hn] at hf hq
  cases he : fairB p S most with
  | false =>
    have hR : Hid (fair10B p S most = false) := Lib.hid (by unfold fair10B; rw [he]; rfl)
    rw [he] at hf
    clear he hq hn
    go_enter Try.func18, Try.ntmps18
    go_wp2_with fail
    refine hf.mono ?_; rintro e w1 ⟨rfl, hb⟩
    go_wp2
    go_ret
    rw [hR.out]
    exact ⟨rfl, hb⟩
  | true =>
    have hR : Hid (fair10B p S most = sqB S) := Lib.hid (by unfold fair10B; rw [he]; rfl)
    have hl : n ≤ 1000 := by
      have := he
      unfold fairB at this
      rw [Bool.and_eq_true, decide_eq_true_eq] at this
      omega
    rw [he] at hf
    have hq2 := hq hl
    clear he hq hn
    generalize sqB S = q at hR hq2
    go_enter Try.func18, Try.ntmps18
    go_wp2_with fail
    refine hf.mono ?_; rintro e w1 ⟨rfl, hb⟩
    go_wp2_with fail
    refine (hq2 w1 hb).mono ?_; rintro e w2 ⟨rfl, hb2⟩
    go_wp2
    go_ret
    rw [hR.out]
    exact ⟨rfl, hb.trans (hb2.mono hb.size)⟩

def vrB (p : Int) (xs : List Int) (rows : List (List Int)) : Bool := fairB p rows 8 && belB p xs 8
theorem vr_any (p T : Int) (A B : Option Addr) (ca cb n m : Nat) (xs : List Int) (rows : List (List Int)) (hx : xs.length = n) (hr : rows.length = m) (w : World) (sx : Sl w A ca xs) (sr : Sll w B cb rows) :
    Calls Try.prog 25 #[.agg #[.int .u64 p, .int .i64 T, .slice A n ca, .slice B m cb]] w fun e w' => e = .returned (.bool (vrB p xs rows)) ∧ Below w.heap.size w w' := by
  have hB0 := bnew (Below.refl w.heap.size w) (.cells #[.int .u64 p, .int .i64 T, .slice A n ca, .slice B m cb] 39) (Nat.le_refl _)
  have hf := fair_any p B cb 8 rows (by decide) _ (sr.push (.cells #[.int .u64 p, .int .i64 T, .slice A n ca, .slice B m cb] 39))
  have hq := fun W (hW : Below w.heap.size w W) => below_any6 p A ca 8 xs (by decide) W (sx.next hW)
  rw [hr] at hf
  rw [hx] at hq
  have hc0 : ∀ (o : Nat) (v : Value), #[Value.int .u64 p, .int .i64 T, .slice A n ca, .slice B m cb][o]? = some v → (w.alloc (.cells #[.int .u64 p, .int .i64 T, .slice A n ca, .slice B m cb] 39)).cell? ⟨w.heap.size, o, none⟩ = some v := fun o v hv => by
    rw [cell_of_row _ w.heap.size o _ 39 (0, 0) (World.alloc_heap_new w _)]; exact hv
  have hs0 : (w.alloc (.cells #[.int .u64 p, .int .i64 T, .slice A n ca, .slice B m cb] 39)).heap.size = w.heap.size + 1 := World.size_alloc _ _
  have c0 := hc0 0 _ rfl
  have c2 := hc0 2 _ rfl
  clear hx hr hc0
  cases he : fairB p rows 8 with
  | false =>
    have hR : Hid (vrB p xs rows = false) := Lib.hid (by unfold vrB; rw [he]; rfl)
    rw [he] at hf
    clear he hq c0 c2 hs0
    go_enter Try.func25, Try.ntmps25
    go_wp2_with fail
    refine hf.mono ?_; rintro e w1 ⟨rfl, hb⟩
    go_wp2
    go_ret
    rw [hR.out]
    exact ⟨rfl, hB0.trans (hb.mono hB0.size)⟩
  | true =>
    have hR : Hid (vrB p xs rows = belB p xs 8) := Lib.hid (by unfold vrB; rw [he]; rfl)
    rw [he] at hf
    have HC0 := Lib.hid c0
    have HC2 := Lib.hid c2
    have HS0 := Lib.hid hs0
    clear he c0 c2 hs0
    generalize belB p xs 8 = q at hR hq
    go_enter Try.func25, Try.ntmps25
    go_wp2_with fail
    refine hf.mono ?_; rintro e w1 ⟨rfl, hb⟩
    have d0 := (hb.cell (p := ⟨w.heap.size, 0, none⟩) (by rw [HS0.out]; exact Nat.lt_succ_self _)).trans HC0.out
    have d2 := (hb.cell (p := ⟨w.heap.size, 2, none⟩) (by rw [HS0.out]; exact Nat.lt_succ_self _)).trans HC2.out
    have hB1 := hB0.trans (hb.mono hB0.size)
    clear hb hB0
    go_wp2_with fail
    refine (hq w1 hB1).mono ?_; rintro e w' ⟨rfl, rfl⟩
    go_wp2
    go_ret
    rw [hR.out]
    exact ⟨rfl, hB1⟩

def vtB (p : Int) (S : List (List Int)) (xs : List Int) (D X : Int) : Bool := fair10B p S 6 && symB S && belB p xs 6 && decide (xs.length + 1 = S.length) && decide xs.Nodup && decide (D < p) && decide (X < p) && decide (∀ x ∈ xs, x ≠ 0)
theorem vt_false {p : Int} {S : List (List Int)} {xs : List Int} {D X : Int} (h : ¬ (fair10B p S 6 = true ∧ symB S = true ∧ belB p xs 6 = true ∧ xs.length + 1 = S.length ∧ xs.Nodup ∧ D < p ∧ X < p ∧ ∀ x ∈ xs, x ≠ 0)) : vtB p S xs D X = false := by
  cases hv : vtB p S xs D X with
  | false => rfl
  | true =>
    unfold vtB at hv
    simp only [Bool.and_eq_true, decide_eq_true_eq] at hv
    exact absurd ⟨hv.1.1.1.1.1.1.1, hv.1.1.1.1.1.1.2, hv.1.1.1.1.1.2, hv.1.1.1.1.2, hv.1.1.1.2, hv.1.1.2, hv.1.2, hv.2⟩ h
theorem vt_true {p : Int} {S : List (List Int)} {xs : List Int} {D X : Int} : vtB p S xs D X = true ↔ (fair10B p S 6 = true ∧ symB S = true ∧ belB p xs 6 = true ∧ xs.length + 1 = S.length ∧ xs.Nodup ∧ D < p ∧ X < p ∧ ∀ x ∈ xs, x ≠ 0) := by
  unfold vtB
  simp only [Bool.and_eq_true, decide_eq_true_eq, and_assoc]
set_option maxHeartbeats 4000000 in
theorem vt_any (p D X : Int) (A B : Option Addr) (ca cb n m : Nat) (xs : List Int) (S : List (List Int)) (hx : xs.length = m) (hs : S.length = n) (w : World) (sx : Sl w A ca xs) (ss : Sll w B cb S) :
    Calls Try.prog 28 #[.agg #[.int .u64 p, .slice B n cb, .slice A m ca, .int .u64 D, .int .u64 X]] w fun e w' => e = .returned (.bool (vtB p S xs D X)) ∧ Below w.heap.size w w' := by
  obtain ⟨o, ho⟩ : ∃ o : Obj, o = .cells #[.int .u64 p, .slice B n cb, .slice A m ca, .int .u64 D, .int .u64 X] 43 := ⟨_, rfl⟩
  have hB0 := bnew (Below.refl w.heap.size w) o (Nat.le_refl _)
  have hf := fair10_any p B cb 6 n S hs (by decide) _ (ss.push o)
  have hc0 : ∀ (W : World) (_ : Below (w.alloc o).heap.size (w.alloc o) W) (k : Nat) (v : Value), #[Value.int .u64 p, .slice B n cb, .slice A m ca, .int .u64 D, .int .u64 X][k]? = some v → W.cell? ⟨w.heap.size, k, none⟩ = some v := fun W hW k v hv => by
    refine (hW.cell (p := ⟨w.heap.size, k, none⟩) (by show w.heap.size < _; rw [World.size_alloc]; exact Nat.lt_succ_self _)).trans ?_
    rw [cell_of_row _ w.heap.size k _ 43 (0, 0) (by rw [ho]; exact World.alloc_heap_new w _)]; exact hv
  have HC := Lib.hid hc0
  have hsy := fun (hl : n ≤ 1000) W (hW : Below w.heap.size w W) => rSym_any B cb S (by omega) W (ss.next hW)
  have hbl := fun W (hW : Below w.heap.size w W) => below_any6 p A ca 6 xs (by decide) W (sx.next hW)
  have hun := fun (hl : m ≤ 1000) W (hW : Below w.heap.size w W) => unlike10_any A ca xs W (sx.next hW) (by omega)
  rw [hs] at hsy
  rw [hx] at hbl hun
  have HX := Lib.hid hx
  have HS := Lib.hid hs
  clear hc0 hx hs
  cases he1 : fair10B p S 6 with
  | false =>
    have hR : Hid (vtB p S xs D X = false) := Lib.hid (vt_false fun h => by rw [h.1] at he1; cases he1)
    rw [he1] at hf
    clear he1 hsy hbl hun
    subst ho
    go_enter Try.func28, Try.ntmps28
    go_wp2_with fail
    refine hf.mono ?_; rintro e w1 ⟨rfl, hb⟩
    go_wp2
    go_ret
    rw [hR.out]
    exact ⟨rfl, hB0.trans (hb.mono hB0.size)⟩
  | true =>
  rw [he1] at hf
  have hn6 : n ≤ 6 := by
    have := he1
    unfold fair10B fairB at this
    rw [Bool.and_eq_true, Bool.and_eq_true, decide_eq_true_eq, HS.out] at this
    exact this.1.2.1
  have hn0 : 0 < n := by
    have := he1
    unfold fair10B at this
    rw [Bool.and_eq_true] at this
    have := (sqB_iff.1 this.2).1
    rw [HS.out] at this
    exact this
  have E1 := Lib.hid he1
  clear he1
  subst ho
  go_enter Try.func28, Try.ntmps28
  go_wp2_with fail
  refine hf.mono ?_; rintro e w1 ⟨rfl, hb⟩
  have hB1 := hB0.trans (hb.mono hB0.size)
  have g1 := HC.out w1 hb 1 _ rfl
  have hsy1 := hsy (by omega) w1 hB1
  clear hf hsy
  cases he2 : symB S with
  | false =>
    have hR : Hid (vtB p S xs D X = false) := Lib.hid (vt_false fun h => by rw [h.2.1] at he2; cases he2)
    rw [he2] at hsy1
    clear he2
    go_wp2_with fail
    refine hsy1.mono ?_; rintro e w2 ⟨rfl, hb2⟩
    go_wp2
    go_ret
    rw [hR.out]
    exact ⟨rfl, hB1.trans (hb2.mono hB1.size)⟩
  | true =>
  rw [he2] at hsy1
  have E2 := Lib.hid he2
  clear he2
  go_wp2_with fail
  refine hsy1.mono ?_; rintro e w2 ⟨rfl, hb2⟩
  have hb3 := hb.trans (hb2.mono hb.size)
  have hB2 := hB1.trans (hb2.mono hB1.size)
  have f0 := HC.out w2 hb3 0 _ rfl
  have f1 := HC.out w2 hb3 1 _ rfl
  have f2 := HC.out w2 hb3 2 _ rfl
  have f3 := HC.out w2 hb3 3 _ rfl
  have f4 := HC.out w2 hb3 4 _ rfl
  have hbl2 := hbl w2 hB2
  clear hb hb2 hB1 hsy1 g1 hB0
  cases he3 : belB p xs 6 with
  | false =>
    have hR : Hid (vtB p S xs D X = false) := Lib.hid (vt_false fun h => by rw [h.2.2.1] at he3; cases he3)
    rw [he3] at hbl2
    clear he3
    go_wp2_with fail
    refine hbl2.mono ?_; rintro e w' ⟨rfl, rfl⟩
    go_wp2
    go_ret
    rw [hR.out]
    exact ⟨rfl, hB2⟩
  | true =>
  rw [he3] at hbl2
  have hm6 : m ≤ 6 := by have := of_decide_eq_true he3; rw [HX.out] at this; exact this.1
  have E3 := Lib.hid he3
  clear he3
  have wn : IntKind.i64.wrap ((n : Int) - 1) = (n : Int) - 1 := IntWalk.i64_in _ (by omega)
  by_cases h4 : m + 1 = n
  rotate_left
  · have hR : Hid (vtB p S xs D X = false) := Lib.hid (vt_false fun h => h4 (by have := h.2.2.2.1; rw [HX.out, HS.out] at this; exact this))
    have hne : ((m : Int) != (n : Int) - 1) = true := bne_iff_ne.2 (by omega)
    go_wp2_with fail
    refine hbl2.mono ?_; rintro e w' ⟨rfl, rfl⟩
    go_wp2
    go_ret
    rw [hR.out]
    exact ⟨rfl, hB2⟩
  have hne : ((m : Int) != (n : Int) - 1) = false := bne_eq_false_iff_eq.2 (by omega)
  have E4 := Lib.hid h4
  clear h4
  have hun2 := hun (by omega) w2 hB2
  go_wp2_with fail
  refine hbl2.mono ?_; rintro e w' ⟨rfl, rfl⟩
  clear hbl2 hbl hun
  by_cases h5 : xs.Nodup
  rotate_left
  · have hR : Hid (vtB p S xs D X = false) := Lib.hid (vt_false fun h => h5 h.2.2.2.2.1)
    rw [decide_eq_false h5] at hun2
    clear h5
    go_wp2_with fail
    refine hun2.mono ?_; rintro e w3 ⟨rfl, q, hq⟩
    have hB3 : Below w.heap.size w w3 := by rw [hq]; exact below_drewN hB2 q
    clear hq
    go_wp2
    go_ret
    rw [hR.out]
    exact ⟨rfl, hB3⟩
  rw [decide_eq_true h5] at hun2
  have E5 := Lib.hid h5
  clear h5
  go_wp2_with fail
  refine hun2.mono ?_; rintro e w3 ⟨rfl, q, hq⟩
  have hB3 : Below w.heap.size w w3 := by rw [hq]; exact below_drewN hB2 q
  have hb4 : Below (w.alloc (.cells #[.int .u64 p, .slice B n cb, .slice A m ca, .int .u64 D, .int .u64 X] 43)).heap.size (w.alloc (.cells #[.int .u64 p, .slice B n cb, .slice A m ca, .int .u64 D, .int .u64 X] 43)) w3 := by rw [hq]; exact below_drewN hb3 q
  have k0 := HC.out w3 hb4 0 _ rfl
  have k2 := HC.out w3 hb4 2 _ rfl
  have k3 := HC.out w3 hb4 3 _ rfl
  have k4 := HC.out w3 hb4 4 _ rfl
  have sx3 := sx.next hB3
  clear hq f0 f1 f2 f3 f4 hun2 hb3 hb4 hB2 hne wn
  by_cases h6 : D < p
  rotate_left
  · have hR : Hid (vtB p S xs D X = false) := Lib.hid (vt_false fun h => h6 h.2.2.2.2.2.1)
    have h6' : p ≤ D := by omega
    go_wp2
    go_ret
    rw [hR.out]
    exact ⟨rfl, hB3⟩
  have h6' : ¬ p ≤ D := by omega
  by_cases h7 : X < p
  rotate_left
  · have hR : Hid (vtB p S xs D X = false) := Lib.hid (vt_false fun h => h7 h.2.2.2.2.2.2.1)
    have h7' : p ≤ X := by omega
    go_wp2
    go_ret
    rw [hR.out]
    exact ⟨rfl, hB3⟩
  have h7' : ¬ p ≤ X := by omega
  go_wp2
  go_loop [3] (fun i => ∃ k : Nat, k ≤ m ∧ i = .int .i64 k ∧ Hid (∀ i, i < k → co xs i ≠ 0)) (fun i => m - (intOf i).toNat)
  case atStart => exact ⟨0, Nat.zero_le _, rfl, Lib.hid (fun i hi => absurd hi (Nat.not_lt_zero _))⟩
  case round =>
    obtain ⟨k, hk, rfl, hI⟩ := hrel
    by_cases hlt : k < m
    · obtain ⟨b, off, x, hA, _, hxk, hcx⟩ := sx3.at_ (k := k) (by rw [HX.out]; exact hlt)
      subst hA
      have hX := Lib.hid (co_at hxk)
      have hXm := Lib.hid (List.mem_of_getElem? hxk)
      have hkm : (k : Int) < m := by omega
      clear hxk
      by_cases hx0 : x = 0
      · have hR : Hid (vtB p S xs D X = false) := Lib.hid (vt_false fun h => h.2.2.2.2.2.2.2 x hXm.out hx0)
        have h0' : (x == 0) = true := beq_iff_eq.2 hx0
        clear hI hx0
        go_wp2
        go_ret
        rw [hR.out]
        exact ⟨rfl, hB3⟩
      · have hN := Lib.hid (show ∀ i, i < k + 1 → co xs i ≠ 0 from fun i hi => by
          by_cases e : i = k
          · subst e; rw [hX.out]; exact hx0
          · exact hI.out i (by omega))
        have h0' : (x == 0) = false := beq_eq_false_iff_ne.2 hx0
        clear hI hx0
        go_wp2
        go_round
        case rel => exact ⟨k + 1, by omega, by simp, hN⟩
        case measure => simp [intOf]; omega
    · obtain rfl : m = k := by omega
      have hR : Hid (vtB p S xs D X = true) := Lib.hid (vt_true.2 ⟨E1.out, E2.out, E3.out, by rw [HX.out, HS.out]; exact E4.out, E5.out, h6, h7, fun x hx => by
        obtain ⟨i, hi, rfl⟩ := mem_co hx
        exact hI.out i (by rw [HX.out] at hi; exact hi)⟩)
      go_wp2
      go_ret
      rw [hR.out]
      exact ⟨rfl, hB3⟩
end Go.Proofs.Ytkhiiiggmhncbaa
