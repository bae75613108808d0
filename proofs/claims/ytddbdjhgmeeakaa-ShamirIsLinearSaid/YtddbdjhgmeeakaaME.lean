/- Texts joined: WSort, WPdq, WPdqB, WDist, WRec, WComp, WFit. Each says its own conditions. -/
import Derived.Test.YtddbdjhgmeeakaaMD
import Derived.Test.YtddbdjhgmeeakaaMC
import Derived.Test.YtddbdjhgmeeakaaMB
import Derived.BigRegion
import Derived.Deep.DeepCutAuto
import Derived.RangeFuncBox
import Derived.Lib.SliceRun
import Derived.Test.YtddbdjhgmeeakaaMA
import Derived.Maps.OwnSet
import Derived.Laws.CopyOwn
/- slices.insertionSortOrdered at words, over a part of a slice of the call's own: that part in ascending order, the rest as it was. Conditions: at most 1000 words. -/
namespace Go.Proofs.Ytddbdjhgmeeakaa
set_option maxRecDepth 100000
open Go.RowKit PolyMath FieldMath

theorem nan_any (a : Int) (w : World) : Calls Try.prog 116 #[.int .u64 a] w fun e w' => e = .returned (.bool false) ∧ w' = w := by
  go_enter Try.func116, Try.ntmps116
  go_wp2
  go_ret
  simp
theorem less_any (a b : Int) (r : Bool) (hr : decide (a < b) = r) (w : World) : Calls Try.prog 103 #[.int .u64 a, .int .u64 b] w fun e w' => e = .returned (.bool r) ∧ w' = w := by
  subst hr
  have hn := fun x => nan_any x w
  go_enter Try.func103, Try.ntmps103
  go_wp2_with (go_at_call 116; refine (hn _).mono ?_; rintro e w' ⟨rfl, rfl⟩)
  go_ret
  simp
theorem less_q (a b : Int) (r : Bool) (hr : decide (a < b) = r) (w : World) (n : Nat) : Calls Try.prog 103 #[.int .u64 a, .int .u64 b] (w.drewN n) fun e w' => e = .returned (.bool r) ∧ ∃ m, w' = w.drewN m :=
  (less_any a b r hr (w.drewN n)).mono fun _ _ ⟨h1, h2⟩ => ⟨h1, n, h2⟩
theorem less_m (a b : Int) (r : Bool) (hr : decide (a < b) = r) (w : World) (m : Nat) (t : Nat) : Calls Try.prog 103 #[.int .u64 a, .int .u64 b] (w.drewN (m + t)) fun e w' => e = .returned (.bool r) ∧ ∃ n, w' = w.drewN (m + n) :=
  (less_any a b r hr (w.drewN (m + t))).mono fun _ _ ⟨h1, h2⟩ => ⟨h1, t, h2⟩

/-- Ascending from a up to place i; the same but for what stands at j. -/
def SortIn (ys : List Int) (a i : Nat) : Prop := ∀ x y, a ≤ x → x < y → y < i → co ys x ≤ co ys y
def HoleIn (ys : List Int) (a i j : Nat) : Prop := ∀ x y, a ≤ x → x < y → y ≤ i → y ≠ j → co ys x ≤ co ys y
/-- What stands at i and at j exchanged. -/
def swp2 (ys : List Int) (i j : Nat) : List Int := (ys.set i (co ys j)).set j (co ys i)
theorem swp2_len (ys : List Int) (i j : Nat) : (swp2 ys i j).length = ys.length := by unfold swp2; simp
theorem swp2_perm {ys : List Int} {i j : Nat} (hi : i < ys.length) (hj : j < ys.length) : (swp2 ys i j).Perm ys := by
  unfold swp2
  rw [co_get hi, co_get hj]
  exact List.set_set_perm hi hj
theorem swp2_co {ys : List Int} {i j : Nat} (hi : i < ys.length) (hj : j < ys.length) (n : Nat) : co (swp2 ys i j) n = if n = j then co ys i else if n = i then co ys j else co ys n := by
  unfold swp2
  rw [co_set _ _ _ (by rw [List.length_set]; exact hj), co_set _ _ _ hi]
/-- The words from a to b in another order, the others as they were. -/
structure Rng (xs ys : List Int) (a b : Nat) : Prop where
  perm : ys.Perm xs
  out : ∀ k, k < a ∨ b ≤ k → co ys k = co xs k
  inn : ∀ k, a ≤ k → k < b → ∃ q, a ≤ q ∧ q < b ∧ co ys k = co xs q
theorem Rng.refl (xs : List Int) (a b : Nat) : Rng xs xs a b := ⟨List.Perm.refl _, fun _ _ => rfl, fun k h1 h2 => ⟨k, h1, h2, rfl⟩⟩
theorem Rng.swp {xs ys : List Int} {a b i j : Nat} (h : Rng xs ys a b) (hi : i < ys.length) (hj : j < ys.length) (ia : a ≤ i ∧ i < b) (ja : a ≤ j ∧ j < b) : Rng xs (swp2 ys i j) a b where
  perm := (swp2_perm hi hj).trans h.perm
  out := fun k hk => by rw [swp2_co hi hj, if_neg (by omega), if_neg (by omega)]; exact h.out k hk
  inn := fun k h1 h2 => by
    rw [swp2_co hi hj]
    split
    · exact h.inn i ia.1 ia.2
    · split
      · exact h.inn j ja.1 ja.2
      · exact h.inn k h1 h2
theorem HoleIn.start {ys : List Int} {a i : Nat} (h : SortIn ys a i) : HoleIn ys a i i := fun x y h0 h1 h2 h3 => h x y h0 h1 (by omega)
theorem HoleIn.step {ys : List Int} {a i j : Nat} (h : HoleIn ys a i j) (hj : j < ys.length) (h0 : a < j) (hji : j ≤ i) (hlt : co ys j < co ys (j - 1)) : HoleIn (swp2 ys j (j - 1)) a i (j - 1) := fun x y hx h1 h2 h3 => by
  have hc := fun n => swp2_co (ys := ys) (i := j) (j := j - 1) hj (by omega) n
  rw [hc, hc]
  have g1 := fun x y h0 h1 h2 h3 => h x y h0 h1 h2 h3
  by_cases eb : y = j
  · subst eb
    rw [if_neg (show ¬ y = y - 1 by omega), if_pos rfl]
    by_cases ea : x = y - 1
    · rw [if_pos ea]; omega
    · rw [if_neg ea, if_neg (by omega)]; exact g1 x (y - 1) hx (by omega) (by omega) (by omega)
  · rw [if_neg h3, if_neg eb]
    by_cases ea' : x = j - 1
    · rw [if_pos ea']; exact g1 j y (by omega) (by omega) h2 eb
    · rw [if_neg ea']
      by_cases ea : x = j
      · rw [if_pos ea]; exact g1 (j - 1) y (by omega) (by omega) h2 eb
      · rw [if_neg ea]; exact g1 x y hx h1 h2 eb
theorem HoleIn.stop {ys : List Int} {a i j : Nat} (h : HoleIn ys a i j) (hji : j ≤ i) (hs : j = a ∨ co ys (j - 1) ≤ co ys j) : SortIn ys a (i + 1) := fun x y h0 h1 h2 => by
  by_cases eb : y = j
  · subst eb
    rcases hs with hs | hs
    · omega
    · by_cases ea : x = y - 1
      · subst ea; exact hs
      · exact Int.le_trans (h x (y - 1) h0 (by omega) (by omega) (by omega)) hs
  · exact h x y h0 h1 (by omega) eb

/-- What insertion sort leaves. -/
def PartE (base g n cap a b : Nat) (xs : List Int) (w : World) (e : Ending) (w' : World) : Prop :=
  (∃ v, e = .returned v) ∧ ∃ zs : List Int, Rng xs zs a b ∧ SortIn zs a b ∧ OwnAt w' base g n cap zs ∧ w.grownBy w' (some g)

set_option maxHeartbeats 4000000 in
theorem isort_rng (base g n cap a b : Nat) (xs : List Int) (hn : n ≤ 1000) (hb : b ≤ n) (ha : a ≤ n) (w : World) (h : OwnAt w base g n cap xs) :
    Calls Try.prog 97 #[.slice (some ⟨g, 0, none⟩) n cap, .int .i64 a, .int .i64 b] w fun e w' => PartE base g n cap a b xs w e w' := by
  have wa : IntKind.i64.wrap ((a : Int) + 1) = (a : Int) + 1 := IntWalk.i64_in _ (by omega)
  go_enter Try.func97, Try.ntmps97
  go_wp2
  go_loopw [6] (fun i wr => ∃ (k : Nat) (ys : List Int), a + 1 ≤ k ∧ k ≤ max (a + 1) b ∧ i = .int .i64 k ∧ Rng xs ys a b ∧ Hid (SortIn ys a k) ∧ OwnAt wr base g n cap ys ∧ w.grownBy wr (some g)) (fun i _ => max (a + 1) b - (intOf i).toNat)
  case atStart => exact ⟨a + 1, xs, Nat.le_refl _, by omega, rfl, Rng.refl _ _ _, Lib.hid (fun x y h0 h1 h2 => by omega), h, World.grownBy.refl _ _⟩
  case round =>
    obtain ⟨k, ys, hk1, hk, rfl, hP, hS, hO, hG⟩ := hrel
    by_cases hlt : k < b
    · have hkn : (k : Int) < b := by omega
      rename World => W0
      go_wp2
      go_loopw [7] (fun i wr => ∃ (j : Nat) (ys : List Int), a ≤ j ∧ j ≤ k ∧ i = .int .i64 j ∧ Rng xs ys a b ∧ Hid (HoleIn ys a k j) ∧ OwnAt wr base g n cap ys ∧ w.grownBy wr (some g)) (fun i _ => (intOf i).toNat)
      case atStart => exact ⟨k, ys, by omega, Nat.le_refl _, rfl, hP, Lib.hid (HoleIn.start hS.out), hO, hG⟩
      case round =>
        clear hP hS hO hG
        obtain ⟨j, ys, haj, hj, rfl, hP, hH, hO, hG⟩ := hrel
        have hlen := hO.len
        have hL := Lib.hid hlen
        clear hlen
        by_cases h0 : j = a
        · have hS2 : Hid (SortIn ys a (k + 1)) := Lib.hid (hH.out.stop (by omega) (.inl h0))
          have hO2 := fun m => hO.next (below_drewN (Below.refl _ _) m)
          have hG2 := fun m => grown_trans hG (grown_of (below_drewN (Below.refl _ wr) m) (some g))
          have hja : ¬ (a : Int) < j := by omega
          have hja2 : ¬ a < j := by omega
          have hjd : decide (a < j) = false := decide_eq_false hja2
          clear h0
          go_wp2
          go_quiet (fail)
          go_wp2
          go_roundw
          case rel => exact ⟨k + 1, ys, by omega, by omega, by simp, hP, hS2, hO2 _, hG2 _⟩
          case measure => simp [intOf]; omega
        · have hjn : j < ys.length := by rw [hL.out]; omega
          have hx : ys[j]? = some (co ys j) := by rw [co_get hjn]; exact List.getElem?_eq_getElem hjn
          have hy : ys[j - 1]? = some (co ys (j - 1)) := by rw [co_get (by omega)]; exact List.getElem?_eq_getElem (by omega)
          have hcx := fun m => (hO.next (below_drewN (Below.refl _ _) m)).cell hx
          have hcy := fun m => (hO.next (below_drewN (Below.refl _ _) m)).cell hy
          have hjp : (a : Int) < j := by omega
          have hjd : decide (a < j) = true := decide_eq_true (by omega)
          have hjI : (j : Int) < n := by omega
          have hj1 : (j : Int) - 1 < n := by omega
          have hj0 : (0 : Int) ≤ (j : Int) - 1 := by omega
          have hjt : ((j : Int) - 1).toNat = j - 1 := by omega
          have wr1 : IntKind.i64.wrap ((j : Int) - 1) = (j : Int) - 1 := IntWalk.i64_in _ (by omega)
          by_cases e : co ys j < co ys (j - 1)
          · have hH2 := Lib.hid (hH.out.step hjn (by omega) hj e)
            have hP2 : Rng xs (swp2 ys j (j - 1)) a b := hP.swp hjn (by omega) (by omega) (by omega)
            have hls := less_q (co ys j) (co ys (j - 1)) true (decide_eq_true e) wr
            have hOH := Lib.hid hO
            have hSW : Hid (swp2 ys j (j - 1) = (ys.set j (co ys (j - 1))).set (j - 1) (co ys j)) := Lib.hid rfl
            have hgl := hO.lt
            generalize hQ : swp2 ys j (j - 1) = qs at *
            clear hQ hO hx hy e hP
            generalize co ys j = x at *
            generalize co ys (j - 1) = y at *
            go_wp2
            go_quiet (exact hls _)
            go_wp2
            obtain ⟨W1, hW1⟩ : ∃ W1, W1 = wr.drewN nq := ⟨_, rfl⟩
            have hc1 := hcx nq
            have hc2 := hcy nq
            rw [← hW1] at hc1 hc2 ⊢
            have hO1 : OwnAt W1 base g n cap ys := by rw [hW1]; exact hOH.out.next (below_drewN (Below.refl _ _) nq)
            have hG1 : w.grownBy W1 (some g) := by rw [hW1]; exact grown_trans hG (grown_of (below_drewN (Below.refl _ wr) nq) (some g))
            have hf1 := hO1.frozen j
            have hf2 := hO1.frozen (j - 1)
            have HO1 := Lib.hid hO1
            clear hcx hcy hW1 hO1 hls
            have hjc := Lib.hid (show (j : Int) - 1 = ((j - 1 : Nat) : Int) by omega)
            go_region
            obtain ⟨w4, hw4⟩ : ∃ w4, w4 = ((W1.setCell ⟨g, j, none⟩ (.int .u64 y)).setCell ⟨g, j - 1, none⟩ (.int .u64 x)).drew := ⟨_, rfl⟩
            rw [← hw4]
            have hO4 : OwnAt w4 base g n cap qs := by rw [hw4, hSW.out]; exact ((HO1.out.put j y).put (j - 1) x).drew
            have hG4 : w.grownBy w4 (some g) := by rw [hw4]; exact grown_drew (grown_trans hG1 (grown_trans (HO1.out.grow j y) ((HO1.out.put j y).grow (j - 1) x)))
            clear hw4
            go_wp2
            go_roundw
            case rel => exact ⟨j - 1, qs, by omega, by omega, by rw [hjc.out], hP2, hH2, hO4, hG4⟩
            case measure => simp [intOf]; omega
          · have hS2 : Hid (SortIn ys a (k + 1)) := Lib.hid (hH.out.stop (by omega) (.inr (by omega)))
            have hls := less_q (co ys j) (co ys (j - 1)) false (decide_eq_false e) wr
            have hO2 := fun m => hO.next (below_drewN (Below.refl _ _) m)
            have hG2 := fun m => grown_trans hG (grown_of (below_drewN (Below.refl _ wr) m) (some g))
            generalize co ys j = x at *
            generalize co ys (j - 1) = y at *
            go_wp2
            go_quiet (exact hls _)
            go_wp2
            go_roundw
            case rel => exact ⟨k + 1, ys, by omega, by omega, by simp, hP, hS2, hO2 _, hG2 _⟩
            case measure => simp [intOf]; omega
    · have hS2 : SortIn ys a b := fun x y h0 h1 h2 => hS.out x y h0 h1 (by omega)
      have hS3 := Lib.hid hS2
      have hkb : ¬ (k : Int) < b := by omega
      clear hS2
      go_wp2
      go_end0
      exact ⟨⟨_, rfl⟩, ys, hP, hS3.out, hO, hG⟩
end Go.Proofs.Ytddbdjhgmeeakaa

/- slices.Sort at words: at most twelve words, or thirteen, or fourteen that ascend already: the same words in ascending order. Conditions: as said. -/
namespace Go.Proofs.Ytddbdjhgmeeakaa
set_option maxRecDepth 100000
open Go.RowKit PolyMath FieldMath

theorem up_cell {base g cap : Nat} {xs : List Int} {w : World} {n : Nat} (h : OwnAt w base g n cap xs) {i : Nat} (hi : i < n) (m : Nat) : (w.drewN m).cell? ⟨g, i, none⟩ = some (.int .u64 (co xs i)) := by
  have hl := h.len
  exact (h.next (below_drewN (Below.refl _ _) m)).cell (by rw [co_get (by omega)]; exact List.getElem?_eq_getElem (by omega))

/-- What stands ahead of m is less than what stands at m, and what stands behind it is not. -/
def Split (zs : List Int) (m : Nat) : Prop := (∀ x, x < m → co zs x < co zs m) ∧ ∀ x, m < x → x < 13 → co zs m ≤ co zs x
theorem split_of {ys : List Int} {j : Nat} (hl : ys.length = 13) (hj : j < 13) (h1 : ∀ x, 1 ≤ x → x < j + 1 → co ys x < co ys 0) (h2 : ∀ x, j < x → x < 13 → co ys 0 ≤ co ys x) : Split (swp2 ys j 0) j := by
  have hc := fun n => swp2_co (ys := ys) (i := j) (j := 0) (by omega) (by omega) n
  constructor
  · intro x hx
    rw [hc, hc]
    by_cases e0 : x = 0
    · rw [if_pos e0, if_neg (by omega), if_pos rfl]; exact h1 j (by omega) (by omega)
    · rw [if_neg e0, if_neg (show ¬ x = j by omega), if_neg (show ¬ j = 0 by omega), if_pos rfl]; exact h1 x (by omega) (by omega)
  · intro x hx hx2
    rw [hc, hc, if_neg (show ¬ x = 0 by omega), if_neg (show ¬ x = j by omega)]
    by_cases e0 : j = 0
    · rw [if_pos e0]; rw [e0]; exact h2 x hx hx2
    · rw [if_neg e0, if_pos rfl]; exact h2 x hx hx2


/-- What partitioning leaves. -/
def SplitE (base g cap : Nat) (xs : List Int) (w : World) (e : Ending) (w' : World) : Prop :=
  ∃ (m : Nat) (b : Bool) (zs : List Int), e = .returned (.tuple #[.int .i64 m, .bool b]) ∧ m < 13 ∧ zs.Perm xs ∧ Split zs m ∧ OwnAt w' base g 13 cap zs ∧ w.grownBy w' (some g)

set_option maxHeartbeats 8000000 in
theorem part13 (base g cap : Nat) (xs : List Int) (pv : Nat) (h1 : 1 ≤ pv) (h2 : pv < 13) (w : World) (h : OwnAt w base g 13 cap xs) :
    Calls Try.prog 105 #[.slice (some ⟨g, 0, none⟩) 13 cap, .int .i64 0, .int .i64 13, .int .i64 pv] w fun e w' => SplitE base g cap xs w e w' := by
  have hlen := Lib.hid h.len
  have hcx := up_cell h (i := 0) (by omega) 0
  have hcy := up_cell h (i := pv) h2 0
  rw [show w.drewN 0 = w from rfl] at hcx hcy
  have hf1 := h.frozen 0
  have hf2 := h.frozen pv
  have hpI : (pv : Int) < 13 := by omega
  have hp0 : ¬ pv = 0 := by omega
  have HO := Lib.hid h
  have hRg : Hid ((swp2 xs 0 pv).Perm xs) := Lib.hid (swp2_perm (by rw [hlen.out]; omega) (by rw [hlen.out]; omega))
  have hSW : Hid (swp2 xs 0 pv = (xs.set 0 (co xs pv)).set pv (co xs 0)) := Lib.hid rfl
  generalize hys : swp2 xs 0 pv = ys at *
  clear hys h
  generalize co xs 0 = x at *
  generalize co xs pv = y at *
  go_enter Try.func105, Try.ntmps105
  go_wp2
  go_region
  obtain ⟨W1, hW1⟩ : ∃ W1, W1 = ((w.setCell ⟨g, 0, none⟩ (.int .u64 y)).setCell ⟨g, pv, none⟩ (.int .u64 x)).drew := ⟨_, rfl⟩
  rw [← hW1]
  have hO1 : OwnAt W1 base g 13 cap ys := by rw [hW1, hSW.out]; exact ((HO.out.put 0 y).put pv x).drew
  have hG1 : w.grownBy W1 (some g) := by rw [hW1]; exact grown_drew (grown_trans (HO.out.grow 0 y) ((HO.out.put 0 y).grow pv x))
  clear hW1 hcx hcy hf1 hf2 HO
  have hyl := Lib.hid hO1.len
  have hlow : Hid (∀ x, 1 ≤ x → x < 1 → co ys x < co ys 0) := Lib.hid fun x h1 h2 => by omega
  have hhigh : Hid (∀ x, 12 < x → x < 13 → co ys 0 ≤ co ys x) := Lib.hid fun x h1 h2 => by omega
  go_wp2
  go_loopw [10] (fun i wr => ∃ (k m : Nat), 1 ≤ k ∧ k ≤ 12 + 1 ∧ i = .int .i64 k ∧ wr = W1.drewN m ∧ Hid (∀ x, 1 ≤ x → x < k → co ys x < co ys 0)) (fun i _ => 20 - (intOf i).toNat)
  case atStart => exact ⟨1, 0, Nat.le_refl _, by omega, rfl, rfl, hlow⟩
  case round =>
    obtain ⟨k, m, hk1, hk, rfl, rfl, hL⟩ := hrel
    have c0 := fun t => up_cell hO1 (i := 0) (by omega) (m + t)
    go_upto_region 3 with fail
    go_cut [43] from 30 to 45 (fun s wx => ∃ q, wx = W1.drewN q ∧ s = .bool (decide (k ≤ 12 ∧ co ys k < co ys 0)))
    case first =>
      by_cases hlt : k ≤ 12
      · have ck := fun t => up_cell hO1 (i := k) (by omega) (m + t)
        have hkn : (k : Int) < 13 := by omega
        have hkd : decide (k ≤ 12) = true := decide_eq_true hlt
        have hkj : (k : Int) ≤ 12 := by omega
        have hls := less_m (co ys k) (co ys 0) (decide (co ys k < co ys 0)) rfl W1 m
        have hb : Hid (decide (co ys k < co ys 0) = decide (k ≤ 12 ∧ co ys k < co ys 0)) := Lib.hid (by simp [hlt])
        generalize decide (k ≤ 12 ∧ co ys k < co ys 0) = bb at *
        generalize decide (co ys k < co ys 0) = cc at *
        generalize co ys k = x at *
        generalize co ys 0 = y at *
        go_quiet (exact hls _)
        go_wp2
        go_meet
        refine ⟨m + nq, ?_, by rw [← hb.out]⟩
        first | rfl | (simp; done) | (simp; rfl)
      · have hkd : decide (k ≤ 12) = false := decide_eq_false hlt
        have hkj : ¬ (k : Int) ≤ 12 := by omega
        have hb : Hid (false = decide (k ≤ 12 ∧ co ys k < co ys 0)) := Lib.hid (by simp [hlt])
        generalize decide (k ≤ 12 ∧ co ys k < co ys 0) = bb at *
        go_quiet (fail)
        go_wp2
        go_meet
        refine ⟨m + nq, ?_, by rw [← hb.out]⟩
        first | rfl | (simp; done) | (simp; rfl)
    case rest =>
      obtain ⟨q, rfl, rfl⟩ := hcut
      clear c0
      by_cases hc : k ≤ 12 ∧ co ys k < co ys 0
      · have hL2 : Hid (∀ x, 1 ≤ x → x < k + 1 → co ys x < co ys 0) := Lib.hid fun x h1 h2 => by
          by_cases ex : x = k
          · subst ex; exact hc.2
          · exact hL.out x h1 (by omega)
        have hkk := hc.1
        rw [decide_eq_true hc]
        clear hc
        go_wp2
        go_roundw
        case rel => exact ⟨k + 1, q, by omega, by omega, by simp, rfl, hL2⟩
        case measure => simp [intOf]; omega
      · have hK := Lib.hid (show k = 12 + 1 ∨ (k ≤ 12 ∧ co ys 0 ≤ co ys k) by omega)
        rw [decide_eq_false hc]
        clear hc
        go_wp2
        go_loopw [11] (fun i wr => ∃ (j m : Nat), j ≤ 12 ∧ k ≤ j + 1 ∧ i = .int .i64 j ∧ wr = W1.drewN m ∧ Hid (∀ x, j < x → x < 13 → co ys 0 ≤ co ys x)) (fun i _ => (intOf i).toNat)
        case atStart => exact ⟨12, q, Nat.le_refl _, by omega, rfl, rfl, hhigh⟩
        case round =>
          obtain ⟨j, m2, hj1, hj, rfl, rfl, hH⟩ := hrel
          have c0 := fun t => up_cell hO1 (i := 0) (by omega) (m2 + t)
          go_upto_region 5 with fail
          go_cut [60] from 46 to 62 (fun s wx => ∃ q, wx = W1.drewN q ∧ s = .bool (decide (k ≤ j ∧ co ys 0 ≤ co ys j)))
          case first =>
            by_cases hlt : k ≤ j
            · have ck := fun t => up_cell hO1 (i := j) (by omega) (m2 + t)
              have hkn : (j : Int) < 13 := by omega
              have hkd : decide (k ≤ j) = true := decide_eq_true hlt
              have hkj : (k : Int) ≤ j := by omega
              have hls := less_m (co ys j) (co ys 0) (decide (co ys j < co ys 0)) rfl W1 m2
              have hb : Hid ((!decide (co ys j < co ys 0)) = decide (k ≤ j ∧ co ys 0 ≤ co ys j)) := Lib.hid (by
                by_cases e : co ys j < co ys 0
                · rw [decide_eq_true e, decide_eq_false (by omega)]; rfl
                · rw [decide_eq_false e, decide_eq_true (by omega)]; rfl)
              generalize decide (k ≤ j ∧ co ys 0 ≤ co ys j) = bb at *
              generalize decide (co ys j < co ys 0) = cc at *
              generalize co ys j = x at *
              generalize co ys 0 = y at *
              go_quiet (exact hls _)
              go_wp2
              go_meet
              refine ⟨m2 + nq, ?_, by rw [← hb.out]⟩
              first | rfl | (simp; done) | (simp; rfl)
            · have hkd : decide (k ≤ j) = false := decide_eq_false hlt
              have hkj : ¬ (k : Int) ≤ j := by omega
              have hb : Hid (false = decide (k ≤ j ∧ co ys 0 ≤ co ys j)) := Lib.hid (by simp [hlt])
              generalize decide (k ≤ j ∧ co ys 0 ≤ co ys j) = bb at *
              go_quiet (fail)
              go_wp2
              go_meet
              refine ⟨m2 + nq, ?_, by rw [← hb.out]⟩
              first | rfl | (simp; done) | (simp; rfl)
          case rest =>
            obtain ⟨q2, rfl, rfl⟩ := hcut
            clear c0
            by_cases hc : k ≤ j ∧ co ys 0 ≤ co ys j
            · have hH2 : Hid (∀ x, j - 1 < x → x < 13 → co ys 0 ≤ co ys x) := Lib.hid fun x h1 h2 => by
                by_cases ex : x = j
                · subst ex; exact hc.2
                · exact hH.out x (by omega) h2
              have hkk := hc.1
              have hjp := Lib.hid (show (j : Int) - 1 = ((j - 1 : Nat) : Int) by omega)
              have wr1 : IntKind.i64.wrap ((j : Int) - 1) = (j : Int) - 1 := IntWalk.i64_in _ (by omega)
              rw [decide_eq_true hc]
              clear hc
              go_wp2
              go_roundw
              case rel => exact ⟨j - 1, q2, by omega, by omega, by rw [hjp.out], rfl, hH2⟩
              case measure => simp [intOf]; omega
            · have hJ := Lib.hid (show k = j + 1 ∨ (k ≤ j ∧ co ys j < co ys 0) by omega)
              rw [decide_eq_false hc]
              clear hc
              rcases (show k = j + 1 ∨ k ≤ j by omega) with hkj | hkj
              · have hkI : (j : Int) < k := by omega
                have hkN : j < k := by omega
                go_wp2
                obtain ⟨W3, hW3⟩ : ∃ W3, W3 = W1.drewN q2 := ⟨_, rfl⟩
                rw [← hW3]
                have hO3 : OwnAt W3 base g 13 cap ys := by rw [hW3]; exact hO1.next (below_drewN (Below.refl _ _) q2)
                have hG3 : w.grownBy W3 (some g) := by rw [hW3]; exact grown_trans hG1 (grown_of (below_drewN (Below.refl _ W1) q2) (some g))
                clear hW3 hO1 hG1
                by_cases hz : j = 0
                · subst hz
                  have hP9 : Hid ((swp2 ys 0 0).Perm xs) := Lib.hid ((swp2_perm (by rw [hyl.out]; omega) (by rw [hyl.out]; omega)).trans hRg.out)
                  have hS9 : Hid (Split (swp2 ys 0 0) 0) := Lib.hid (split_of hyl.out (by omega) (fun x h1 h2 => hL.out x h1 (by omega)) (fun x h1 h2 => hH.out x h1 h2))
                  have d1 := up_cell hO3 (i := 0) (by omega) 0
                  have d2 := up_cell hO3 (i := 0) (by omega) 0
                  rw [show W3.drewN 0 = W3 from rfl] at d1 d2
                  have f1 := hO3.frozen 0
                  have f2 := hO3.frozen 0
                  have HOs := Lib.hid hO3
                  have HGs := Lib.hid hG3
                  have hSW2 : Hid (swp2 ys 0 0 = (ys.set 0 (co ys 0)).set 0 (co ys 0)) := Lib.hid rfl
                  generalize hzs : swp2 ys 0 0 = zs at *
                  generalize co ys 0 = x1 at *
                  clear hzs hO3 hG3
                  go_region
                  obtain ⟨W9, hW9⟩ : ∃ W9, W9 = ((W3.setCell ⟨g, 0, none⟩ (.int .u64 x1)).setCell ⟨g, 0, none⟩ (.int .u64 x1)).drew := ⟨_, rfl⟩
                  rw [← hW9]
                  have hO9 : OwnAt W9 base g 13 cap zs := by rw [hW9, hSW2.out]; exact ((HOs.out.put 0 x1).put 0 x1).drew
                  have hG9 : w.grownBy W9 (some g) := by rw [hW9]; exact grown_drew (grown_trans HGs.out (grown_trans (HOs.out.grow 0 x1) ((HOs.out.put 0 x1).grow 0 x1)))
                  clear hW9 d1 d2 f1 f2 HOs HGs hSW2
                  go_wp2
                  go_ret2
                  exact ⟨0, true, zs, rfl, by omega, hP9.out, hS9.out, hO9, hG9⟩
                · have hjI : (j : Int) < 13 := by omega
                  have hP9 : Hid ((swp2 ys j 0).Perm xs) := Lib.hid ((swp2_perm (by rw [hyl.out]; omega) (by rw [hyl.out]; omega)).trans hRg.out)
                  have hS9 : Hid (Split (swp2 ys j 0) j) := Lib.hid (split_of hyl.out (by omega) (fun x h1 h2 => hL.out x h1 (by omega)) (fun x h1 h2 => hH.out x h1 h2))
                  have d1 := up_cell hO3 (i := j) (by omega) 0
                  have d2 := up_cell hO3 (i := 0) (by omega) 0
                  rw [show W3.drewN 0 = W3 from rfl] at d1 d2
                  have f1 := hO3.frozen j
                  have f2 := hO3.frozen 0
                  have HOs := Lib.hid hO3
                  have HGs := Lib.hid hG3
                  have hSW2 : Hid (swp2 ys j 0 = (ys.set j (co ys 0)).set 0 (co ys j)) := Lib.hid rfl
                  generalize hzs : swp2 ys j 0 = zs at *
                  generalize co ys j = x1 at *
                  generalize co ys 0 = x2 at *
                  clear hzs hO3 hG3
                  go_region
                  obtain ⟨W9, hW9⟩ : ∃ W9, W9 = ((W3.setCell ⟨g, j, none⟩ (.int .u64 x2)).setCell ⟨g, 0, none⟩ (.int .u64 x1)).drew := ⟨_, rfl⟩
                  rw [← hW9]
                  have hO9 : OwnAt W9 base g 13 cap zs := by rw [hW9, hSW2.out]; exact ((HOs.out.put j x2).put 0 x1).drew
                  have hG9 : w.grownBy W9 (some g) := by rw [hW9]; exact grown_drew (grown_trans HGs.out (grown_trans (HOs.out.grow j x2) ((HOs.out.put j x2).grow 0 x1)))
                  clear hW9 d1 d2 f1 f2 HOs HGs hSW2
                  go_wp2
                  go_ret2
                  exact ⟨j, true, zs, rfl, by omega, hP9.out, hS9.out, hO9, hG9⟩
              · have hne : k ≠ j := fun e => by
                  have h1 := hK.out
                  have h2 := hJ.out
                  subst e
                  omega
                have hkI : ¬ (j : Int) < k := by omega
                have hkN : ¬ j < k := by omega
                have hjI : (j : Int) < 13 := by omega
                have hkI2 : (k : Int) < 13 := by omega
                have hnek : ¬ j = k := fun e => hne e.symm
                have hP9 : Hid ((swp2 ys k j).Perm xs) := Lib.hid ((swp2_perm (by rw [hyl.out]; omega) (by rw [hyl.out]; omega)).trans hRg.out)
                have hc9 := fun n => swp2_co (ys := ys) (i := k) (j := j) (by rw [hyl.out]; omega) (by rw [hyl.out]; omega) n
                have hL9 : Hid (∀ x, 1 ≤ x → x < k + 1 → co (swp2 ys k j) x < co (swp2 ys k j) 0) := Lib.hid fun x h1 h2 => by
                  have h3 := hJ.out
                  rw [hc9, hc9, if_neg (show ¬ x = j by omega), if_neg (show ¬ (0 : Nat) = j by omega), if_neg (show ¬ (0 : Nat) = k by omega)]
                  by_cases ex : x = k
                  · rw [if_pos ex]; omega
                  · rw [if_neg ex]; exact hL.out x h1 (by omega)
                have hH9 : Hid (∀ x, j - 1 < x → x < 13 → co (swp2 ys k j) 0 ≤ co (swp2 ys k j) x) := Lib.hid fun x h1 h2 => by
                  have h3 := hK.out
                  rw [hc9, hc9, if_neg (show ¬ (0 : Nat) = j by omega), if_neg (show ¬ (0 : Nat) = k by omega)]
                  by_cases ex : x = j
                  · rw [if_pos ex]; omega
                  · rw [if_neg ex, if_neg (by omega)]; exact hH.out x (by omega) h2
                have hjp := Lib.hid (show (j : Int) - 1 = ((j - 1 : Nat) : Int) by omega)
                have wj1 : IntKind.i64.wrap ((j : Int) - 1) = (j : Int) - 1 := IntWalk.i64_in _ (by omega)
                have wk1 : IntKind.i64.wrap ((k : Int) + 1) = (k : Int) + 1 := IntWalk.i64_in _ (by omega)
                clear hc9
                go_wp2
                obtain ⟨W3, hW3⟩ : ∃ W3, W3 = W1.drewN q2 := ⟨_, rfl⟩
                rw [← hW3]
                have hO3 : OwnAt W3 base g 13 cap ys := by rw [hW3]; exact hO1.next (below_drewN (Below.refl _ _) q2)
                have hG3 : w.grownBy W3 (some g) := by rw [hW3]; exact grown_trans hG1 (grown_of (below_drewN (Below.refl _ W1) q2) (some g))
                clear hW3 hO1 hG1
                have d1 := up_cell hO3 (i := k) (by omega) 0
                have d2 := up_cell hO3 (i := j) (by omega) 0
                rw [show W3.drewN 0 = W3 from rfl] at d1 d2
                have f1 := hO3.frozen k
                have f2 := hO3.frozen j
                have HOs := Lib.hid hO3
                have HGs := Lib.hid hG3
                have hSW2 : Hid (swp2 ys k j = (ys.set k (co ys j)).set j (co ys k)) := Lib.hid rfl
                generalize hzs : swp2 ys k j = zs at *
                generalize co ys k = x1 at *
                generalize co ys j = x2 at *
                clear hzs hO3 hG3
                go_region
                obtain ⟨W9, hW9⟩ : ∃ W9, W9 = ((W3.setCell ⟨g, k, none⟩ (.int .u64 x2)).setCell ⟨g, j, none⟩ (.int .u64 x1)).drew := ⟨_, rfl⟩
                rw [← hW9]
                have hO9 : OwnAt W9 base g 13 cap zs := by rw [hW9, hSW2.out]; exact ((HOs.out.put k x2).put j x1).drew
                have hG9 : w.grownBy W9 (some g) := by rw [hW9]; exact grown_drew (grown_trans HGs.out (grown_trans (HOs.out.grow k x2) ((HOs.out.put k x2).grow j x1)))
                clear hW9 d1 d2 f1 f2 HOs HGs hSW2
                have hyl9 : Hid (zs.length = 13) := Lib.hid hO9.len
                clear hL hH hK hJ hyl hRg hlow hhigh
                go_wp2
                go_loopw [10, 11] (fun a b wr => ∃ (k j : Nat) (ys : List Int), 1 ≤ k ∧ k ≤ j + 1 ∧ j < 13 ∧ a = .int .i64 k ∧ b = .int .i64 j ∧ Hid (ys.Perm xs) ∧ Hid (∀ x, 1 ≤ x → x < k → co ys x < co ys 0) ∧ Hid (∀ x, j < x → x < 13 → co ys 0 ≤ co ys x) ∧ OwnAt wr base g 13 cap ys ∧ w.grownBy wr (some g)) (fun a b _ => 14 + (intOf b).toNat - (intOf a).toNat)
                case atStart => exact ⟨k + 1, j - 1, zs, by omega, by omega, by omega, by simp, by rw [hjp.out], hP9, hL9, hH9, hO9, hG9⟩
                case round =>
                  clear hP9 hL9 hH9 hO9 hG9 hyl9
                  obtain ⟨k0, j0, ys, hk01, hkj0, hj013, rfl, rfl, hRg, hlow, hhigh, hO1, hG1⟩ := hrel
                  have hyl := Lib.hid hO1.len
                  rename World => W1
                  go_wp2
                  go_loopw [10] (fun i wr => ∃ (k m : Nat), k0 ≤ k ∧ k ≤ j0 + 1 ∧ i = .int .i64 k ∧ wr = W1.drewN m ∧ Hid (∀ x, 1 ≤ x → x < k → co ys x < co ys 0)) (fun i _ => 20 - (intOf i).toNat)
                  case atStart => exact ⟨k0, 0, Nat.le_refl _, by omega, rfl, rfl, hlow⟩
                  case round =>
                    obtain ⟨k, m, hk1, hk, rfl, rfl, hL⟩ := hrel
                    have c0 := fun t => up_cell hO1 (i := 0) (by omega) (m + t)
                    go_upto_region 13 with fail
                    go_cut [112] from 99 to 114 (fun s wx => ∃ q, wx = W1.drewN q ∧ s = .bool (decide (k ≤ j0 ∧ co ys k < co ys 0)))
                    case first =>
                      by_cases hlt : k ≤ j0
                      · have ck := fun t => up_cell hO1 (i := k) (by omega) (m + t)
                        have hkn : (k : Int) < 13 := by omega
                        have hkd : decide (k ≤ j0) = true := decide_eq_true hlt
                        have hkj : (k : Int) ≤ j0 := by omega
                        have hls := less_m (co ys k) (co ys 0) (decide (co ys k < co ys 0)) rfl W1 m
                        have hb : Hid (decide (co ys k < co ys 0) = decide (k ≤ j0 ∧ co ys k < co ys 0)) := Lib.hid (by simp [hlt])
                        generalize decide (k ≤ j0 ∧ co ys k < co ys 0) = bb at *
                        generalize decide (co ys k < co ys 0) = cc at *
                        generalize co ys k = x at *
                        generalize co ys 0 = y at *
                        go_quiet (exact hls _)
                        go_wp2
                        go_meet
                        refine ⟨m + nq, ?_, by rw [← hb.out]⟩
                        first | rfl | (simp; done) | (simp; rfl)
                      · have hkd : decide (k ≤ j0) = false := decide_eq_false hlt
                        have hkj : ¬ (k : Int) ≤ j0 := by omega
                        have hb : Hid (false = decide (k ≤ j0 ∧ co ys k < co ys 0)) := Lib.hid (by simp [hlt])
                        generalize decide (k ≤ j0 ∧ co ys k < co ys 0) = bb at *
                        go_quiet (fail)
                        go_wp2
                        go_meet
                        refine ⟨m + nq, ?_, by rw [← hb.out]⟩
                        first | rfl | (simp; done) | (simp; rfl)
                    case rest =>
                      obtain ⟨q, rfl, rfl⟩ := hcut
                      clear c0
                      by_cases hc : k ≤ j0 ∧ co ys k < co ys 0
                      · have hL2 : Hid (∀ x, 1 ≤ x → x < k + 1 → co ys x < co ys 0) := Lib.hid fun x h1 h2 => by
                          by_cases ex : x = k
                          · subst ex; exact hc.2
                          · exact hL.out x h1 (by omega)
                        have hkk := hc.1
                        rw [decide_eq_true hc]
                        clear hc
                        go_wp2
                        go_roundw
                        case rel => exact ⟨k + 1, q, by omega, by omega, by simp, rfl, hL2⟩
                        case measure => simp [intOf]; omega
                      · have hK := Lib.hid (show k = j0 + 1 ∨ (k ≤ j0 ∧ co ys 0 ≤ co ys k) by omega)
                        rw [decide_eq_false hc]
                        clear hc
                        go_wp2
                        go_loopw [11] (fun i wr => ∃ (j m : Nat), j ≤ j0 ∧ k ≤ j + 1 ∧ i = .int .i64 j ∧ wr = W1.drewN m ∧ Hid (∀ x, j < x → x < 13 → co ys 0 ≤ co ys x)) (fun i _ => (intOf i).toNat)
                        case atStart => exact ⟨j0, q, Nat.le_refl _, by omega, rfl, rfl, hhigh⟩
                        case round =>
                          obtain ⟨j, m2, hj1, hj, rfl, rfl, hH⟩ := hrel
                          have c0 := fun t => up_cell hO1 (i := 0) (by omega) (m2 + t)
                          go_upto_region 15 with fail
                          go_cut [129] from 115 to 131 (fun s wx => ∃ q, wx = W1.drewN q ∧ s = .bool (decide (k ≤ j ∧ co ys 0 ≤ co ys j)))
                          case first =>
                            by_cases hlt : k ≤ j
                            · have ck := fun t => up_cell hO1 (i := j) (by omega) (m2 + t)
                              have hkn : (j : Int) < 13 := by omega
                              have hkd : decide (k ≤ j) = true := decide_eq_true hlt
                              have hkj : (k : Int) ≤ j := by omega
                              have hls := less_m (co ys j) (co ys 0) (decide (co ys j < co ys 0)) rfl W1 m2
                              have hb : Hid ((!decide (co ys j < co ys 0)) = decide (k ≤ j ∧ co ys 0 ≤ co ys j)) := Lib.hid (by
                                by_cases e : co ys j < co ys 0
                                · rw [decide_eq_true e, decide_eq_false (by omega)]; rfl
                                · rw [decide_eq_false e, decide_eq_true (by omega)]; rfl)
                              generalize decide (k ≤ j ∧ co ys 0 ≤ co ys j) = bb at *
                              generalize decide (co ys j < co ys 0) = cc at *
                              generalize co ys j = x at *
                              generalize co ys 0 = y at *
                              go_quiet (exact hls _)
                              go_wp2
                              go_meet
                              refine ⟨m2 + nq, ?_, by rw [← hb.out]⟩
                              first | rfl | (simp; done) | (simp; rfl)
                            · have hkd : decide (k ≤ j) = false := decide_eq_false hlt
                              have hkj : ¬ (k : Int) ≤ j := by omega
                              have hb : Hid (false = decide (k ≤ j ∧ co ys 0 ≤ co ys j)) := Lib.hid (by simp [hlt])
                              generalize decide (k ≤ j ∧ co ys 0 ≤ co ys j) = bb at *
                              go_quiet (fail)
                              go_wp2
                              go_meet
                              refine ⟨m2 + nq, ?_, by rw [← hb.out]⟩
                              first | rfl | (simp; done) | (simp; rfl)
                          case rest =>
                            obtain ⟨q2, rfl, rfl⟩ := hcut
                            clear c0
                            by_cases hc : k ≤ j ∧ co ys 0 ≤ co ys j
                            · have hH2 : Hid (∀ x, j - 1 < x → x < 13 → co ys 0 ≤ co ys x) := Lib.hid fun x h1 h2 => by
                                by_cases ex : x = j
                                · subst ex; exact hc.2
                                · exact hH.out x (by omega) h2
                              have hkk := hc.1
                              have hjp := Lib.hid (show (j : Int) - 1 = ((j - 1 : Nat) : Int) by omega)
                              have wr1 : IntKind.i64.wrap ((j : Int) - 1) = (j : Int) - 1 := IntWalk.i64_in _ (by omega)
                              rw [decide_eq_true hc]
                              clear hc
                              go_wp2
                              go_roundw
                              case rel => exact ⟨j - 1, q2, by omega, by omega, by rw [hjp.out], rfl, hH2⟩
                              case measure => simp [intOf]; omega
                            · have hJ := Lib.hid (show k = j + 1 ∨ (k ≤ j ∧ co ys j < co ys 0) by omega)
                              rw [decide_eq_false hc]
                              clear hc
                              rcases (show k = j + 1 ∨ k ≤ j by omega) with hkj | hkj
                              · have hkI : (j : Int) < k := by omega
                                have hkN : j < k := by omega
                                go_wp2
                                obtain ⟨W3, hW3⟩ : ∃ W3, W3 = W1.drewN q2 := ⟨_, rfl⟩
                                rw [← hW3]
                                have hO3 : OwnAt W3 base g 13 cap ys := by rw [hW3]; exact hO1.next (below_drewN (Below.refl _ _) q2)
                                have hG3 : w.grownBy W3 (some g) := by rw [hW3]; exact grown_trans hG1 (grown_of (below_drewN (Below.refl _ W1) q2) (some g))
                                clear hW3 hO1 hG1
                                by_cases hz : j = 0
                                · subst hz
                                  have hP9 : Hid ((swp2 ys 0 0).Perm xs) := Lib.hid ((swp2_perm (by rw [hyl.out]; omega) (by rw [hyl.out]; omega)).trans hRg.out)
                                  have hS9 : Hid (Split (swp2 ys 0 0) 0) := Lib.hid (split_of hyl.out (by omega) (fun x h1 h2 => hL.out x h1 (by omega)) (fun x h1 h2 => hH.out x h1 h2))
                                  have d1 := up_cell hO3 (i := 0) (by omega) 0
                                  have d2 := up_cell hO3 (i := 0) (by omega) 0
                                  rw [show W3.drewN 0 = W3 from rfl] at d1 d2
                                  have f1 := hO3.frozen 0
                                  have f2 := hO3.frozen 0
                                  have HOs := Lib.hid hO3
                                  have HGs := Lib.hid hG3
                                  have hSW2 : Hid (swp2 ys 0 0 = (ys.set 0 (co ys 0)).set 0 (co ys 0)) := Lib.hid rfl
                                  generalize hzs : swp2 ys 0 0 = zs at *
                                  generalize co ys 0 = x1 at *
                                  clear hzs hO3 hG3
                                  go_region
                                  obtain ⟨W9, hW9⟩ : ∃ W9, W9 = ((W3.setCell ⟨g, 0, none⟩ (.int .u64 x1)).setCell ⟨g, 0, none⟩ (.int .u64 x1)).drew := ⟨_, rfl⟩
                                  rw [← hW9]
                                  have hO9 : OwnAt W9 base g 13 cap zs := by rw [hW9, hSW2.out]; exact ((HOs.out.put 0 x1).put 0 x1).drew
                                  have hG9 : w.grownBy W9 (some g) := by rw [hW9]; exact grown_drew (grown_trans HGs.out (grown_trans (HOs.out.grow 0 x1) ((HOs.out.put 0 x1).grow 0 x1)))
                                  clear hW9 d1 d2 f1 f2 HOs HGs hSW2
                                  go_wp2
                                  go_ret2
                                  exact ⟨0, false, zs, rfl, by omega, hP9.out, hS9.out, hO9, hG9⟩
                                · have hjI : (j : Int) < 13 := by omega
                                  have hP9 : Hid ((swp2 ys j 0).Perm xs) := Lib.hid ((swp2_perm (by rw [hyl.out]; omega) (by rw [hyl.out]; omega)).trans hRg.out)
                                  have hS9 : Hid (Split (swp2 ys j 0) j) := Lib.hid (split_of hyl.out (by omega) (fun x h1 h2 => hL.out x h1 (by omega)) (fun x h1 h2 => hH.out x h1 h2))
                                  have d1 := up_cell hO3 (i := j) (by omega) 0
                                  have d2 := up_cell hO3 (i := 0) (by omega) 0
                                  rw [show W3.drewN 0 = W3 from rfl] at d1 d2
                                  have f1 := hO3.frozen j
                                  have f2 := hO3.frozen 0
                                  have HOs := Lib.hid hO3
                                  have HGs := Lib.hid hG3
                                  have hSW2 : Hid (swp2 ys j 0 = (ys.set j (co ys 0)).set 0 (co ys j)) := Lib.hid rfl
                                  generalize hzs : swp2 ys j 0 = zs at *
                                  generalize co ys j = x1 at *
                                  generalize co ys 0 = x2 at *
                                  clear hzs hO3 hG3
                                  go_region
                                  obtain ⟨W9, hW9⟩ : ∃ W9, W9 = ((W3.setCell ⟨g, j, none⟩ (.int .u64 x2)).setCell ⟨g, 0, none⟩ (.int .u64 x1)).drew := ⟨_, rfl⟩
                                  rw [← hW9]
                                  have hO9 : OwnAt W9 base g 13 cap zs := by rw [hW9, hSW2.out]; exact ((HOs.out.put j x2).put 0 x1).drew
                                  have hG9 : w.grownBy W9 (some g) := by rw [hW9]; exact grown_drew (grown_trans HGs.out (grown_trans (HOs.out.grow j x2) ((HOs.out.put j x2).grow 0 x1)))
                                  clear hW9 d1 d2 f1 f2 HOs HGs hSW2
                                  go_wp2
                                  go_ret2
                                  exact ⟨j, false, zs, rfl, by omega, hP9.out, hS9.out, hO9, hG9⟩
                              · have hne : k ≠ j := fun e => by
                                  have h1 := hK.out
                                  have h2 := hJ.out
                                  subst e
                                  omega
                                have hkI : ¬ (j : Int) < k := by omega
                                have hkN : ¬ j < k := by omega
                                have hjI : (j : Int) < 13 := by omega
                                have hkI2 : (k : Int) < 13 := by omega
                                have hnek : ¬ j = k := fun e => hne e.symm
                                have hP9 : Hid ((swp2 ys k j).Perm xs) := Lib.hid ((swp2_perm (by rw [hyl.out]; omega) (by rw [hyl.out]; omega)).trans hRg.out)
                                have hc9 := fun n => swp2_co (ys := ys) (i := k) (j := j) (by rw [hyl.out]; omega) (by rw [hyl.out]; omega) n
                                have hL9 : Hid (∀ x, 1 ≤ x → x < k + 1 → co (swp2 ys k j) x < co (swp2 ys k j) 0) := Lib.hid fun x h1 h2 => by
                                  have h3 := hJ.out
                                  rw [hc9, hc9, if_neg (show ¬ x = j by omega), if_neg (show ¬ (0 : Nat) = j by omega), if_neg (show ¬ (0 : Nat) = k by omega)]
                                  by_cases ex : x = k
                                  · rw [if_pos ex]; omega
                                  · rw [if_neg ex]; exact hL.out x h1 (by omega)
                                have hH9 : Hid (∀ x, j - 1 < x → x < 13 → co (swp2 ys k j) 0 ≤ co (swp2 ys k j) x) := Lib.hid fun x h1 h2 => by
                                  have h3 := hK.out
                                  rw [hc9, hc9, if_neg (show ¬ (0 : Nat) = j by omega), if_neg (show ¬ (0 : Nat) = k by omega)]
                                  by_cases ex : x = j
                                  · rw [if_pos ex]; omega
                                  · rw [if_neg ex, if_neg (by omega)]; exact hH.out x (by omega) h2
                                have hjp := Lib.hid (show (j : Int) - 1 = ((j - 1 : Nat) : Int) by omega)
                                have wj1 : IntKind.i64.wrap ((j : Int) - 1) = (j : Int) - 1 := IntWalk.i64_in _ (by omega)
                                have wk1 : IntKind.i64.wrap ((k : Int) + 1) = (k : Int) + 1 := IntWalk.i64_in _ (by omega)
                                clear hc9
                                go_wp2
                                obtain ⟨W3, hW3⟩ : ∃ W3, W3 = W1.drewN q2 := ⟨_, rfl⟩
                                rw [← hW3]
                                have hO3 : OwnAt W3 base g 13 cap ys := by rw [hW3]; exact hO1.next (below_drewN (Below.refl _ _) q2)
                                have hG3 : w.grownBy W3 (some g) := by rw [hW3]; exact grown_trans hG1 (grown_of (below_drewN (Below.refl _ W1) q2) (some g))
                                clear hW3 hO1 hG1
                                have d1 := up_cell hO3 (i := k) (by omega) 0
                                have d2 := up_cell hO3 (i := j) (by omega) 0
                                rw [show W3.drewN 0 = W3 from rfl] at d1 d2
                                have f1 := hO3.frozen k
                                have f2 := hO3.frozen j
                                have HOs := Lib.hid hO3
                                have HGs := Lib.hid hG3
                                have hSW2 : Hid (swp2 ys k j = (ys.set k (co ys j)).set j (co ys k)) := Lib.hid rfl
                                generalize hzs : swp2 ys k j = zs at *
                                generalize co ys k = x1 at *
                                generalize co ys j = x2 at *
                                clear hzs hO3 hG3
                                go_region
                                obtain ⟨W9, hW9⟩ : ∃ W9, W9 = ((W3.setCell ⟨g, k, none⟩ (.int .u64 x2)).setCell ⟨g, j, none⟩ (.int .u64 x1)).drew := ⟨_, rfl⟩
                                rw [← hW9]
                                have hO9 : OwnAt W9 base g 13 cap zs := by rw [hW9, hSW2.out]; exact ((HOs.out.put k x2).put j x1).drew
                                have hG9 : w.grownBy W9 (some g) := by rw [hW9]; exact grown_drew (grown_trans HGs.out (grown_trans (HOs.out.grow k x2) ((HOs.out.put k x2).grow j x1)))
                                clear hW9 d1 d2 f1 f2 HOs HGs hSW2
                                go_wp2
                                go_roundw
                                case rel => exact ⟨k + 1, j - 1, zs, by omega, by omega, by omega, by simp, by rw [hjp.out], hP9, hL9, hH9, hO9, hG9⟩
                                case measure => simp [intOf]; omega
end Go.Proofs.Ytddbdjhgmeeakaa

/- slices.Sort at words: at most twelve words, or thirteen, or fourteen that ascend already: the same words in ascending order. Conditions: as said. -/
namespace Go.Proofs.Ytddbdjhgmeeakaa
set_option maxRecDepth 100000
open Go.RowKit PolyMath FieldMath

section
variable {base g cap : Nat} {xs : List Int}
set_option maxHeartbeats 1000000 in
theorem order2_any (n i j : Nat) (_hn : n ≤ 1000) (hi : i < n) (hj : j < n) (B0 q : Nat) (hB : B0 ≤ q) (hq : q ≠ g) (s : Nat) (hs : s ≤ 10) (w : World) (h : OwnAt w base g n cap xs) (hb : Boxed w q 3 (.int .i64 s)) :
    Calls Try.prog 117 #[.slice (some ⟨g, 0, none⟩) n cap, .int .i64 i, .int .i64 j, .pointer (some ⟨q, 0, none⟩)] w fun e w' =>
      ∃ s' x y : Nat, e = .returned (.tuple #[.int .i64 x, .int .i64 y]) ∧ (x = i ∧ y = j ∨ x = j ∧ y = i) ∧ s' ≤ s + 1 ∧ (co xs i ≤ co xs j → s' = s ∧ x = i ∧ y = j) ∧ OwnAt w' base g n cap xs ∧ Boxed w' q 3 (.int .i64 s') ∧ Below B0 w w' := by
  have c1 := fun m => up_cell h (i := i) hi m
  have c2 := fun m => up_cell h (i := j) hj m
  have hi1 : (i : Int) < n := by omega
  have hj1 : (j : Int) < n := by omega
  have HO := fun m => Lib.hid (h.next (below_drewN (Below.refl _ w) m))
  have HB := fun m => Lib.hid (below_drewN (Below.refl B0 w) m)
  have Hb := fun m => Lib.hid (show Boxed (w.drewN m) q 3 (.int .i64 s) from hb)
  by_cases hle : co xs j < co xs i
  · have hls := less_q (co xs j) (co xs i) true (decide_eq_true hle) w
    have hC : Hid (co xs i ≤ co xs j → False) := Lib.hid (fun h => by omega)
    generalize co xs i = x at *
    generalize co xs j = y at *
    have ws : IntKind.i64.wrap ((s : Int) + 1) = (s : Int) + 1 := IntWalk.i64_in _ (by omega)
    clear hle h hb
    go_enter Try.func117, Try.ntmps117
    go_wp2
    go_quiet (exact hls _)
    obtain ⟨W1, hW1⟩ : ∃ W1, W1 = w.drewN nq := ⟨_, rfl⟩
    have hO1 : OwnAt W1 base g n cap xs := by rw [hW1]; exact (HO nq).out
    have hB1 : Below B0 w W1 := by rw [hW1]; exact (HB nq).out
    have hb1 : Boxed W1 q 3 (.int .i64 s) := by rw [hW1]; exact (Hb nq).out
    rw [← hW1]
    have hc := hb1.cell
    have hf := hb1.frozen
    have hO2 := Lib.hid (hO1.kept (grownBy_setCell' W1 q (.int .i64 ((s : Int) + 1))) (fun e => hq (by cases e; rfl)))
    have hb2 := Lib.hid (hb1.set (.int .i64 ((s : Int) + 1)))
    have hB2 := Lib.hid (hB1.setCell (p := ⟨q, 0, none⟩) hB (.int .i64 ((s : Int) + 1)))
    clear hW1 hO1 hB1 hb1 HO HB Hb c1 c2 hls
    go_wp2
    go_ret2
    exact ⟨s + 1, j, i, rfl, .inr ⟨rfl, rfl⟩, Nat.le_refl _, fun h => (hC.out h).elim, hO2.out, by simpa using hb2.out, hB2.out⟩
  · have hls := less_q (co xs j) (co xs i) false (decide_eq_false hle) w
    generalize co xs i = x at *
    generalize co xs j = y at *
    clear hle h hb
    go_enter Try.func117, Try.ntmps117
    go_wp2
    go_quiet (exact hls _)
    go_wp2
    go_ret2
    exact ⟨s, i, j, rfl, .inl ⟨rfl, rfl⟩, by omega, fun _ => ⟨rfl, rfl, rfl⟩, (HO _).out, (Hb _).out, (HB _).out⟩

set_option maxHeartbeats 1000000 in
theorem median_any (n : Nat) (hn : 13 ≤ n) (hn2 : n ≤ 1000) (B0 q : Nat) (hB : B0 ≤ q) (hq : q ≠ g) (w : World) (h : OwnAt w base g n cap xs) (hb : Boxed w q 3 (.int .i64 0)) :
    Calls Try.prog 115 #[.slice (some ⟨g, 0, none⟩) n cap, .int .i64 3, .int .i64 6, .int .i64 9, .pointer (some ⟨q, 0, none⟩)] w fun e w' =>
      ∃ s y : Nat, e = .returned (.int .i64 y) ∧ (y = 3 ∨ y = 6 ∨ y = 9) ∧ s ≤ 3 ∧ (SortIn xs 0 n → s = 0) ∧ OwnAt w' base g n cap xs ∧ Boxed w' q 3 (.int .i64 s) ∧ Below B0 w w' := by
  have hb0 : Boxed w q 3 (.int .i64 ((0 : Nat) : Int)) := hb
  have o1 := order2_any n 3 6 hn2 (by omega) (by omega) B0 q hB hq 0 (by omega) w h hb0
  have o2 := fun (i j s : Nat) (hi : i < n) (hj : j < n) (hs : s ≤ 10) W (hO : OwnAt W base g n cap xs) hb => order2_any n i j hn2 hi hj B0 q hB hq s hs W hO hb
  have HN := Lib.hid hn
  clear hn hn2
  go_enter Try.func115, Try.ntmps115
  go_wp2_with fail
  refine o1.mono ?_; rintro e w1 ⟨s1, x1, y1, rfl, hxy1, hs1, hc1, hO1, hb1, hB1⟩
  have y1n : y1 < n := by have := HN.out; omega
  have x1n : x1 < n := by have := HN.out; omega
  go_wp2_with fail
  refine (o2 y1 9 s1 y1n (by have := HN.out; omega) (by omega) w1 hO1 hb1).mono ?_; rintro e w2 ⟨s2, x2, y2, rfl, hxy2, hs2, hc2, hO2, hb2, hB2⟩
  have x2n : x2 < n := by have := HN.out; omega
  go_wp2_with fail
  refine (o2 x1 x2 s2 x1n x2n (by omega) w2 hO2 hb2).mono ?_; rintro e w3 ⟨s3, x3, y3, rfl, hxy3, hs3, hc3, hO3, hb3, hB3⟩
  have hall : Hid (SortIn xs 0 n → s3 = 0) := Lib.hid fun hS => by
    have hN := HN.out
    obtain ⟨e1, e2, e3⟩ := hc1 (hS 3 6 (by omega) (by omega) (by omega))
    subst e1 e2 e3
    obtain ⟨e1, e2, e3⟩ := hc2 (hS 6 9 (by omega) (by omega) (by omega))
    subst e1 e2 e3
    exact (hc3 (hS 3 6 (by omega) (by omega) (by omega))).1
  have hB := hB1.trans (hB2.trans hB3)
  have hy : y3 = 3 ∨ y3 = 6 ∨ y3 = 9 := by omega
  have hs : s3 ≤ 3 := by omega
  clear hc1 hc2 hc3 hxy1 hxy2 hxy3 hs1 hs2 hs3
  go_wp2
  go_ret
  exact ⟨s3, y3, rfl, hy, hs, hall.out, hO3, hb3, hB⟩

set_option maxHeartbeats 1000000 in
theorem pivot_any (n : Nat) (hn : n = 13 ∨ n = 14) (w : World) (h : OwnAt w base g n cap xs) :
    Calls Try.prog 100 #[.slice (some ⟨g, 0, none⟩) n cap, .int .i64 0, .int .i64 n] w fun e w' =>
      ∃ (pv : Nat) (b : Bool), e = .returned (.tuple #[.int .i64 pv, .int .i64 (if b then 1 else 0)]) ∧ (pv = 3 ∨ pv = 6 ∨ pv = 9) ∧ (SortIn xs 0 n → b = true) ∧ OwnAt w' base g n cap xs ∧ Below w.heap.size w w' := by
  have h1 := h.push (.cells #[.int .i64 0] 3)
  have hgl := h.lt
  have hm := median_any n (by omega) (by omega) w.heap.size w.heap.size (Nat.le_refl _) (by omega) _ h1 (Boxed.new w 3 (.int .i64 0))
  have hB1 : Below w.heap.size w (w.alloc (.cells #[.int .i64 0] 3)) := (Below.refl _ w).alloc (Nat.le_refl _) _
  rcases hn with rfl | rfl
  all_goals
    go_enter Try.func100, Try.ntmps100
    go_wp2_with fail
    refine hm.mono ?_
    rintro e w2 ⟨s, y, rfl, hy, hs, hS, hO2, hb2, b2⟩
    have hc := hb2.cell
    have hB := hB1.trans b2
    have HS := Lib.hid hS
    clear hS
    rcases Nat.eq_zero_or_pos s with rfl | hs0
    · go_wp2
      go_ret2
      exact ⟨y, true, rfl, hy, fun _ => rfl, hO2, hB⟩
    · have e1 : ((s : Int) == 0) = false := beq_eq_false_iff_ne.2 (by omega)
      have e2 : ((s : Int) == 12) = false := beq_eq_false_iff_ne.2 (by omega)
      have e3 : ¬ (s : Int) = 0 := by omega
      have e4 : ¬ (s : Int) = 12 := by omega
      have e5 : ¬ s = 0 := by omega
      have e6 : ¬ s = 12 := by omega
      go_wp2
      go_ret2
      exact ⟨y, false, rfl, hy, fun h => absurd (HS.out h) e5, hO2, hB⟩

set_option maxHeartbeats 2000000 in
theorem pins_any (n : Nat) (hn : n < 50) (h2 : 2 ≤ n) (w : World) (h : OwnAt w base g n cap xs) :
    Calls Try.prog 102 #[.slice (some ⟨g, 0, none⟩) n cap, .int .i64 0, .int .i64 n] w fun e w' => ∃ (b : Bool) (m : Nat), e = .returned (.bool b) ∧ w' = w.drewN m ∧ (b = true ↔ SortIn xs 0 n) := by
  go_enter Try.func102, Try.ntmps102
  go_wp2
  go_loopw [7, 8] (fun j i wr => j = .int .i64 1 ∧ i = .int .i64 0 ∧ wr = w) (fun _ _ _ => 0)
  case atStart => exact ⟨rfl, rfl, rfl⟩
  case round =>
    obtain ⟨rfl, rfl, rfl⟩ := hrel
    go_wp2
    go_loopw [7] (fun i W => ∃ (k m : Nat), 1 ≤ k ∧ k ≤ n ∧ i = .int .i64 k ∧ W = wr.drewN m ∧ Hid (SortIn xs 0 k)) (fun i _ => n - (intOf i).toNat)
    case atStart => exact ⟨1, 0, Nat.le_refl _, by omega, rfl, rfl, Lib.hid fun x y h0 h1 h2 => by omega⟩
    case round =>
      obtain ⟨k, m, hk1, hk, rfl, rfl, hS⟩ := hrel
      by_cases hlt : k < n
      · have c1 := fun t => up_cell h (i := k) hlt (m + t)
        have c2 := fun t => up_cell h (i := k - 1) (by omega) (m + t)
        have hkn : (k : Int) < n := by omega
        have hk1n : (k : Int) - 1 < n := by omega
        have hkp : (0 : Int) < k := by omega
        have hkp2 : 0 < k := by omega
        have hk0 : (0 : Int) ≤ (k : Int) - 1 := by omega
        have hkt : ((k : Int) - 1).toNat = k - 1 := by omega
        have wr1 : IntKind.i64.wrap ((k : Int) - 1) = (k : Int) - 1 := IntWalk.i64_in _ (by omega)
        have hjd : decide (k < n) = true := decide_eq_true hlt
        by_cases e : co xs k < co xs (k - 1)
        · have hN : Hid (¬ SortIn xs 0 n) := Lib.hid fun hA => by have := hA (k - 1) k (by omega) (by omega) hlt; omega
          have hls := less_m (co xs k) (co xs (k - 1)) true (decide_eq_true e) wr m
          have hkne : ¬ (k : Int) = n := by omega
          have hkne2 : ¬ k = n := by omega
          have hkb : ((k : Int) == n) = false := beq_eq_false_iff_ne.2 hkne
          have wn : IntKind.i64.wrap ((n : Int) - 0) = n := by rw [Int.sub_zero]; exact IntWalk.i64_in _ (by omega)
          have hn50 : (n : Int) < 50 := by omega
          generalize co xs k = x at *
          generalize co xs (k - 1) = y at *
          clear e
          go_wp2
          go_quiet (exact hls _)
          go_wp2
          go_ret
          exact ⟨false, _, rfl, by first | rfl | (simp; rfl), by simp [hN.out]⟩
        · have hS2 : Hid (SortIn xs 0 (k + 1)) := Lib.hid ((HoleIn.start hS.out).stop (Nat.le_refl _) (.inr (by omega)))
          have hls := less_m (co xs k) (co xs (k - 1)) false (decide_eq_false e) wr m
          generalize co xs k = x at *
          generalize co xs (k - 1) = y at *
          clear e
          go_wp2
          go_quiet (exact hls _)
          go_wp2
          go_roundw
          case rel => exact ⟨k + 1, _, by omega, by omega, by simp, by first | rfl | (simp; rfl), hS2⟩
          case measure => simp [intOf]; omega
      · obtain rfl : k = n := by omega
        go_wp2
        go_quiet (fail)
        go_wp2
        go_ret
        exact ⟨true, _, rfl, by first | rfl | (simp; rfl), by simp [hS.out]⟩

/-- What the sort leaves. -/
def SortE (base g n cap : Nat) (xs : List Int) (w : World) (e : Ending) (w' : World) : Prop :=
  (∃ v, e = .returned v) ∧ ∃ zs : List Int, zs.Perm xs ∧ SortIn zs 0 n ∧ OwnAt w' base g n cap zs ∧ w.grownBy w' (some g)

set_option maxHeartbeats 2000000 in
/-- A part of at most twelve words. -/
theorem pdq_rng (n a b : Nat) (L : Int) (hn : n ≤ 1000) (hb : b ≤ n) (ha : a ≤ n) (hab : b ≤ a + 12) (w : World) (h : OwnAt w base g n cap xs) :
    Calls Try.prog 86 #[.slice (some ⟨g, 0, none⟩) n cap, .int .i64 a, .int .i64 b, .int .i64 L] w fun e w' => PartE base g n cap a b xs w e w' := by
  have hi := isort_rng base g n cap a b xs hn hb ha w h
  have hn2 : (b : Int) - a ≤ 12 := by omega
  have wb : IntKind.i64.wrap ((b : Int) - a) = (b : Int) - a := IntWalk.i64_in _ (by omega)
  go_enter Try.func86, Try.ntmps86
  go_wp2
  go_loopw [1, 2, 3, 8, 9] (fun x y l wb wp wr => x = .int .i64 a ∧ y = .int .i64 b ∧ l = .int .i64 L ∧ wb = .bool true ∧ wp = .bool true ∧ wr = w) (fun _ _ _ _ _ _ => 0)
  case atStart => exact ⟨rfl, rfl, rfl, rfl, rfl, rfl⟩
  case round =>
    obtain ⟨rfl, rfl, rfl, rfl, rfl, rfl⟩ := hrel
    go_wp2_with (go_at_call 97; refine hi.mono ?_; rintro e w' ⟨⟨v, rfl⟩, hz⟩)
    refine bodyPost_ret (results_none rfl _ _ _) rfl ?_
    exact ⟨⟨_, rfl⟩, hz⟩

/-- Whatever way the words from x to y are brought in order, all are in order. -/
def Fin_ (zs : List Int) (x y : Nat) : Prop := ∀ ys, Rng zs ys x y → SortIn ys x y → SortIn ys 0 13
theorem all_sorted {zs ys : List Int} {m : Nat} (hm : m < 13) (hs : Split zs m) (h1 : ∀ x, x < m → ∃ q, q < m ∧ co ys x = co zs q) (h2 : co ys m = co zs m) (h3 : ∀ x, m < x → x < 13 → ∃ q, m < q ∧ q < 13 ∧ co ys x = co zs q) (s1 : SortIn ys 0 m) (s2 : SortIn ys (m + 1) 13) : SortIn ys 0 13 := fun x y _ hxy hy => by
  have lo : ∀ x, x < m → co ys x < co zs m := fun x hx => by obtain ⟨q, hq, e⟩ := h1 x hx; rw [e]; exact hs.1 q hq
  have hi : ∀ x, m < x → x < 13 → co zs m ≤ co ys x := fun x hx hx2 => by obtain ⟨q, hq, hq2, e⟩ := h3 x hx hx2; rw [e]; exact hs.2 q hq hq2
  rcases Nat.lt_trichotomy y m with h | rfl | h
  · exact s1 x y (Nat.zero_le _) hxy h
  · rw [h2]; exact Int.le_of_lt (lo x hxy)
  · rcases Nat.lt_trichotomy x m with h' | rfl | h'
    · exact Int.le_trans (Int.le_of_lt (lo x h')) (hi y h hy)
    · rw [h2]; exact hi y h hy
    · exact s2 x y h' hxy hy
theorem fin_left {zs z1 : List Int} {m : Nat} (hm : m < 13) (hs : Split zs m) (hr : Rng zs z1 0 m) (h1 : SortIn z1 0 m) : Fin_ z1 (m + 1) 13 := fun ys hR hS => by
  refine all_sorted hm hs (fun x hx => ?_) ?_ (fun x hx hx2 => ?_) (fun x y _ hxy hy => ?_) hS
  · obtain ⟨q, _, hq, e⟩ := hr.inn x (Nat.zero_le _) hx
    exact ⟨q, hq, by rw [hR.out x (.inl (by omega)), e]⟩
  · rw [hR.out m (.inl (by omega)), hr.out m (.inr (Nat.le_refl _))]
  · obtain ⟨q, hq1, hq2, e⟩ := hR.inn x (by omega) hx2
    exact ⟨q, by omega, hq2, by rw [e, hr.out q (.inr (by omega))]⟩
  · rw [hR.out x (.inl (by omega)), hR.out y (.inl (by omega))]; exact h1 x y (Nat.zero_le _) hxy hy
theorem fin_right {zs z1 : List Int} {m : Nat} (hm : m < 13) (hs : Split zs m) (hr : Rng zs z1 (m + 1) 13) (h1 : SortIn z1 (m + 1) 13) : Fin_ z1 0 m := fun ys hR hS => by
  refine all_sorted hm hs (fun x hx => ?_) ?_ (fun x hx hx2 => ?_) hS (fun x y h0 hxy hy => ?_)
  · obtain ⟨q, _, hq, e⟩ := hR.inn x (Nat.zero_le _) hx
    exact ⟨q, hq, by rw [e, hr.out q (.inl (by omega))]⟩
  · rw [hR.out m (.inr (Nat.le_refl _)), hr.out m (.inl (by omega))]
  · obtain ⟨q, hq1, hq2, e⟩ := hr.inn x (by omega) hx2
    exact ⟨q, by omega, hq2, by rw [hR.out x (.inr (by omega)), e]⟩
  · rw [hR.out x (.inr (by omega)), hR.out y (.inr (by omega))]; exact h1 x y h0 hxy hy

set_option maxHeartbeats 8000000 in
theorem pdq13 (L : Int) (hL : 0 < L) (w : World) (h : OwnAt w base g 13 cap xs) :
    Calls Try.prog 86 #[.slice (some ⟨g, 0, none⟩) 13 cap, .int .i64 0, .int .i64 13, .int .i64 L] w fun e w' => SortE base g 13 cap xs w e w' := by
  have hp := pivot_any 13 (.inl rfl) w h
  have hpi := fun W (hO : OwnAt W base g 13 cap xs) => pins_any 13 (by omega) (by omega) W hO
  have hpa := fun (pv : Nat) (h1 : 1 ≤ pv) (h2 : pv < 13) W (hO : OwnAt W base g 13 cap xs) => part13 base g cap xs pv h1 h2 W hO
  have hrc := fun (a b : Nat) (hb : b ≤ 13) (ha : a ≤ 13) (hab : b ≤ a + 12) (zs : List Int) W (hO : OwnAt W base g 13 cap zs) => pdq_rng (xs := zs) 13 a b L (by omega) hb ha hab W hO
  have his := fun (a b : Nat) (hb : b ≤ 13) (ha : a ≤ 13) (zs : List Int) W (hO : OwnAt W base g 13 cap zs) => isort_rng base g 13 cap a b zs (by omega) hb ha W hO
  have hL0 : (L == 0) = false := beq_eq_false_iff_ne.2 (by omega)
  have hL1 : ¬ L = 0 := by omega
  go_enter Try.func86, Try.ntmps86
  go_wp2
  go_loopw [1, 2, 3, 8, 9] (fun a b l wb wp wr => (a = .int .i64 0 ∧ b = .int .i64 13 ∧ l = .int .i64 L ∧ wb = .bool true ∧ wp = .bool true ∧ wr = w) ∨
    ∃ (x y : Nat) (zs : List Int) (b1 b2 : Bool), a = .int .i64 x ∧ b = .int .i64 y ∧ l = .int .i64 L ∧ wb = .bool b1 ∧ wp = .bool b2 ∧ x ≤ 13 ∧ y ≤ 13 ∧ y ≤ x + 12 ∧ Hid (zs.Perm xs) ∧ Hid (Fin_ zs x y) ∧ OwnAt wr base g 13 cap zs ∧ w.grownBy wr (some g)) (fun a b _ _ _ _ => 13 + (intOf b).toNat - (intOf a).toNat)
  case atStart => exact .inl ⟨rfl, rfl, rfl, rfl, rfl, rfl⟩
  case round =>
    rcases hrel with ⟨rfl, rfl, rfl, rfl, rfl, rfl⟩ | ⟨x, y, zs, b1, b2, rfl, rfl, rfl, rfl, rfl, hx, hy, hxy, hP, hF, hO, hG⟩
    · go_wp2_with fail
      refine hp.mono ?_
      rintro e w1 ⟨pv, hint, rfl, hpv, _, h1, b1⟩
      have hpv1 : 1 ≤ pv := by omega
      have hpv2 : pv < 13 := by omega
      have hG1 := grown_of b1 (some g)
      have key : ∀ W, OwnAt W base g 13 cap xs → wr.grownBy W (some g) → Calls Try.prog 105 #[.slice (some ⟨g, 0, none⟩) 13 cap, .int .i64 0, .int .i64 13, .int .i64 pv] W fun e w' => ∃ (m : Nat) (b : Bool) (zs : List Int), e = .returned (.tuple #[.int .i64 m, .bool b]) ∧ m < 13 ∧ zs.Perm xs ∧ Split zs m ∧ OwnAt w' base g 13 cap zs ∧ wr.grownBy w' (some g) := fun W hO hG => (hpa pv hpv1 hpv2 W hO).mono fun e w' ⟨m, b, zs, h1, h2, h3, h4, h5, h6⟩ => ⟨m, b, zs, h1, h2, h3, h4, h5, grown_trans hG h6⟩
      have hpvI : (pv : Int) < 13 := by omega
      clear hpa hp hpv
      cases hint with
      | true =>
        go_wp2_with fail
        refine (hpi _ h1).mono ?_
        rintro e w2 ⟨bb, mm, rfl, hw2, hbb⟩
        have h2 : OwnAt w2 base g 13 cap xs := by rw [hw2]; exact h1.next (below_drewN (Below.refl _ _) mm)
        have hG2 : wr.grownBy w2 (some g) := by rw [hw2]; exact grown_trans hG1 (grown_of (below_drewN (Below.refl _ w1) mm) (some g))
        have hBB := Lib.hid hbb
        clear hw2 hbb h1 hG1 b1 hpi
        cases bb with
        | true =>
          go_wp2
          refine bodyPost_ret (results_none rfl _ _ _) rfl ?_
          exact ⟨⟨_, rfl⟩, xs, List.Perm.refl _, hBB.out.1 (by trivial), h2, hG2⟩
        | false =>
          have kq := fun t => key _ (h2.next (below_drewN (Below.refl _ w2) t)) (grown_trans hG2 (grown_of (below_drewN (Below.refl _ w2) t) (some g)))
          go_wp2
          go_quiet (fail)
          go_wp2_with fail
          refine (kq _).mono ?_
          rintro e w3 ⟨m, b, zs, rfl, hm, hP, hS, hO3, hG3⟩
          have hP3 := Lib.hid hP
          have hS3 := Lib.hid hS
          have hmI : (m : Int) < 13 := by omega
          have wm1 : IntKind.i64.wrap ((m : Int) + 1) = (m : Int) + 1 := IntWalk.i64_in _ (by omega)
          have wm2 : IntKind.i64.wrap ((m : Int) - 0) = (m : Int) := by rw [Int.sub_zero]; exact IntWalk.i64_in _ (by omega)
          have wm3 : IntKind.i64.wrap (13 - (m : Int)) = 13 - (m : Int) := IntWalk.i64_in _ (by omega)
          have cm1 := Lib.hid (show (m : Int) + 1 = ((m + 1 : Nat) : Int) by omega)
          have e13 := Lib.hid (show (13 : Int) = ((13 : Nat) : Int) by omega)
          have e0 := Lib.hid (show (0 : Int) = ((0 : Nat) : Int) by omega)
          have hl := hrc 0 m (by omega) (by omega) (by omega) zs w3 hO3
          have hr := hrc (m + 1) 13 (by omega) (by omega) (by omega) zs w3 hO3
          rw [← cm1.out] at hr
          clear hP hS key kq hrc
          by_cases hlt : (m : Int) < 13 - (m : Int)
          · go_wp2_with fail
            refine hl.mono ?_
            rintro e w4 ⟨⟨v, rfl⟩, z4, hR4, hS4, hO4, hG4⟩
            have hF4 := Lib.hid (fin_left hm hS3.out hR4 hS4)
            have hP4 := Lib.hid (hR4.perm.trans hP3.out)
            have hG5 := grown_trans hG3 hG4
            clear hR4 hS4
            go_wp2
            go_roundw
            case rel => exact .inr ⟨m + 1, 13, z4, _, _, by rw [cm1.out], by rfl, rfl, rfl, rfl, by omega, by omega, by omega, hP4, hF4, hO4, hG5⟩
            case measure => simp [intOf]; omega
          · go_wp2_with fail
            refine hr.mono ?_
            rintro e w4 ⟨⟨v, rfl⟩, z4, hR4, hS4, hO4, hG4⟩
            have hF4 := Lib.hid (fin_right hm hS3.out hR4 hS4)
            have hP4 := Lib.hid (hR4.perm.trans hP3.out)
            have hG5 := grown_trans hG3 hG4
            clear hR4 hS4
            go_wp2
            go_roundw
            case rel => exact .inr ⟨0, m, z4, _, _, by rfl, rfl, rfl, rfl, rfl, by omega, by omega, by omega, hP4, hF4, hO4, hG5⟩
            case measure => simp [intOf]; omega
      | false =>
        have kq := fun t => key _ (h1.next (below_drewN (Below.refl _ w1) t)) (grown_trans hG1 (grown_of (below_drewN (Below.refl _ w1) t) (some g)))
        go_wp2
        go_quiet (fail)
        go_wp2_with fail
        refine (kq _).mono ?_
        rintro e w3 ⟨m, b, zs, rfl, hm, hP, hS, hO3, hG3⟩
        have hP3 := Lib.hid hP
        have hS3 := Lib.hid hS
        have hmI : (m : Int) < 13 := by omega
        have wm1 : IntKind.i64.wrap ((m : Int) + 1) = (m : Int) + 1 := IntWalk.i64_in _ (by omega)
        have wm2 : IntKind.i64.wrap ((m : Int) - 0) = (m : Int) := by rw [Int.sub_zero]; exact IntWalk.i64_in _ (by omega)
        have wm3 : IntKind.i64.wrap (13 - (m : Int)) = 13 - (m : Int) := IntWalk.i64_in _ (by omega)
        have cm1 := Lib.hid (show (m : Int) + 1 = ((m + 1 : Nat) : Int) by omega)
        have e13 := Lib.hid (show (13 : Int) = ((13 : Nat) : Int) by omega)
        have e0 := Lib.hid (show (0 : Int) = ((0 : Nat) : Int) by omega)
        have hl := hrc 0 m (by omega) (by omega) (by omega) zs w3 hO3
        have hr := hrc (m + 1) 13 (by omega) (by omega) (by omega) zs w3 hO3
        rw [← cm1.out] at hr
        clear hP hS key kq hrc
        by_cases hlt : (m : Int) < 13 - (m : Int)
        · go_wp2_with fail
          refine hl.mono ?_
          rintro e w4 ⟨⟨v, rfl⟩, z4, hR4, hS4, hO4, hG4⟩
          have hF4 := Lib.hid (fin_left hm hS3.out hR4 hS4)
          have hP4 := Lib.hid (hR4.perm.trans hP3.out)
          have hG5 := grown_trans hG3 hG4
          clear hR4 hS4
          go_wp2
          go_roundw
          case rel => exact .inr ⟨m + 1, 13, z4, _, _, by rw [cm1.out], by rfl, rfl, rfl, rfl, by omega, by omega, by omega, hP4, hF4, hO4, hG5⟩
          case measure => simp [intOf]; omega
        · go_wp2_with fail
          refine hr.mono ?_
          rintro e w4 ⟨⟨v, rfl⟩, z4, hR4, hS4, hO4, hG4⟩
          have hF4 := Lib.hid (fin_right hm hS3.out hR4 hS4)
          have hP4 := Lib.hid (hR4.perm.trans hP3.out)
          have hG5 := grown_trans hG3 hG4
          clear hR4 hS4
          go_wp2
          go_roundw
          case rel => exact .inr ⟨0, m, z4, _, _, by rfl, rfl, rfl, rfl, rfl, by omega, by omega, by omega, hP4, hF4, hO4, hG5⟩
          case measure => simp [intOf]; omega
    · have hi2 := his x y hy hx zs wr hO
      have hyx : (y : Int) - x ≤ 12 := by omega
      have wyx : IntKind.i64.wrap ((y : Int) - x) = (y : Int) - x := IntWalk.i64_in _ (by omega)
      clear hp hpi hpa hrc his
      go_wp2_with (go_at_call 97; refine hi2.mono ?_; rintro e w' ⟨⟨v, rfl⟩, z4, hR4, hS4, hO4, hG4⟩)
      refine bodyPost_ret (results_none rfl _ _ _) rfl ?_
      exact ⟨⟨_, rfl⟩, z4, hR4.perm.trans hP.out, hF.out z4 hR4 hS4, hO4, grown_trans hG hG4⟩

set_option maxHeartbeats 2000000 in
theorem pdq_up (L : Int) (hL : 0 < L) (hs : SortIn xs 0 14) (w : World) (h : OwnAt w base g 14 cap xs) :
    Calls Try.prog 86 #[.slice (some ⟨g, 0, none⟩) 14 cap, .int .i64 0, .int .i64 14, .int .i64 L] w fun e w' => SortE base g 14 cap xs w e w' := by
  have hp := pivot_any 14 (.inr rfl) w h
  have hi := fun W (hO : OwnAt W base g 14 cap xs) => pins_any 14 (by omega) (by omega) W hO
  have hL0 : (L == 0) = false := beq_eq_false_iff_ne.2 (by omega)
  have hL1 : ¬ L = 0 := by omega
  have HS := Lib.hid hs
  clear hs
  go_enter Try.func86, Try.ntmps86
  go_wp2
  go_loopw [1, 2, 3, 8, 9] (fun a b l wb wp wr => a = .int .i64 0 ∧ b = .int .i64 14 ∧ l = .int .i64 L ∧ wb = .bool true ∧ wp = .bool true ∧ wr = w) (fun _ _ _ _ _ _ => 0)
  case atStart => exact ⟨rfl, rfl, rfl, rfl, rfl, rfl⟩
  case round =>
    obtain ⟨rfl, rfl, rfl, rfl, rfl, rfl⟩ := hrel
    go_wp2_with fail
    refine hp.mono ?_
    rintro e w1 ⟨pv, b, rfl, _, hb, h1, b1⟩
    obtain rfl := hb HS.out
    have hG1 := grown_of b1 (some g)
    clear hb
    go_wp2_with fail
    refine (hi _ h1).mono ?_
    rintro e w2 ⟨bb, m, rfl, hw2, hbb⟩
    obtain rfl := hbb.2 HS.out
    have h2 : OwnAt w2 base g 14 cap xs := by rw [hw2]; exact h1.next (below_drewN (Below.refl _ _) m)
    have hG2 : wr.grownBy w2 (some g) := by rw [hw2]; exact grown_trans hG1 (grown_of (below_drewN (Below.refl _ w1) m) (some g))
    clear hw2 hbb
    go_wp2
    refine bodyPost_ret (results_none rfl _ _ _) rfl ?_
    exact ⟨⟨_, rfl⟩, xs, List.Perm.refl _, HS.out, h2, hG2⟩

theorem len_small (n : Nat) (h1 : 1 ≤ n) (h2 : n ≤ 14) (w : World) : Calls Try.prog 65 #[.int .u64 (n : Int)] w fun e w' => ∃ L : Int, 0 < L ∧ e = .returned (.int .i64 L) ∧ w' = w := by
  rcases (show n = 1 ∨ n = 2 ∨ n = 3 ∨ n = 4 ∨ n = 5 ∨ n = 6 ∨ n = 7 ∨ n = 8 ∨ n = 9 ∨ n = 10 ∨ n = 11 ∨ n = 12 ∨ n = 13 ∨ n = 14 by omega) with rfl | rfl | rfl | rfl | rfl | rfl | rfl | rfl | rfl | rfl | rfl | rfl | rfl | rfl
  all_goals
    go_enter Try.func65, Try.ntmps65
    go_wp2
    go_ret
    exact ⟨_, by decide +kernel, rfl, rfl⟩
theorem bitLen_small (n : Nat) (h1 : 1 ≤ n) (h2 : n ≤ 14) (w : World) : Calls Try.prog 87 #[.int .u64 (n : Int)] w fun e w' => ∃ L : Int, 0 < L ∧ e = .returned (.int .i64 L) ∧ w' = w := by
  have hl := len_small n h1 h2 w
  go_enter Try.func87, Try.ntmps87
  go_wp2_with (go_at_call 65; refine hl.mono ?_; rintro e w' ⟨L, hL, rfl, rfl⟩)
  go_ret
  exact ⟨L, hL, rfl, rfl⟩

theorem sort_any (n : Nat) (h1 : 1 ≤ n) (hn : n ≤ 13 ∨ n = 14 ∧ SortIn xs 0 14) (w : World) (h : OwnAt w base g n cap xs) :
    Calls Try.prog 68 #[.slice (some ⟨g, 0, none⟩) n cap] w fun e w' => SortE base g n cap xs w e w' := by
  have hl := bitLen_small n h1 (by omega) w
  have hp : ∀ L : Int, 0 < L → Calls Try.prog 86 #[.slice (some ⟨g, 0, none⟩) n cap, .int .i64 0, .int .i64 n, .int .i64 L] w fun e w' => SortE base g n cap xs w e w' := fun L hL => by
    by_cases h12 : n ≤ 12
    · exact (pdq_rng n 0 n L (by omega) (by omega) (by omega) (by omega) w h).mono fun e w' ⟨a, zs, hR, hS, hO, hG⟩ => ⟨a, zs, hR.perm, hS, hO, hG⟩
    · rcases hn with h13 | ⟨rfl, hs⟩
      · obtain rfl : n = 13 := by omega
        exact pdq13 L hL w h
      · exact pdq_up L hL hs w h
  have hn2 : n ≤ 14 := by omega
  clear hn
  have wr1 : IntKind.u64.wrap (n : Int) = (n : Int) := IntWalk.u64_in _ (by omega)
  go_enter Try.func68, Try.ntmps68
  go_wp2_with fail
  refine hl.mono ?_
  rintro e w1 ⟨L, hL, rfl, rfl⟩
  go_wp2_with fail
  refine (hp L hL).mono ?_
  rintro e w2 ⟨⟨v, rfl⟩, hz⟩
  go_wp2
  go_end0
  exact ⟨⟨_, rfl⟩, hz⟩
end
end Go.Proofs.Ytddbdjhgmeeakaa

/- slices.Compact at words, as far as the length goes: whether no word occurs twice among words that ascend. Conditions: at most 1000 words. -/
namespace Go.Proofs.Ytddbdjhgmeeakaa
set_option maxRecDepth 100000
open Go.RowKit PolyMath FieldMath

theorem setCells_below {B : Nat} {a : World} (b : Nat) (hb : B ≤ b) : ∀ (vs : List Value) (o : Nat) {W : World}, Below B a W → Below B a (W.setCells b o vs)
  | [], _, _, h => h
  | v :: vs, o, _, h => setCells_below b hb vs (o + 1) (h.setCell (p := ⟨b, o, none⟩) hb v)

/-- No two neighbours are equal. -/
def ApartN (zs : List Int) (n : Nat) : Prop := ∀ i, 1 ≤ i → i < n → co zs i ≠ co zs (i - 1)

set_option maxHeartbeats 4000000 in
theorem compact_any (base g n cap : Nat) (zs : List Int) (hn : n ≤ 1000) (w : World) (hbase : base ≤ w.heap.size) (h : OwnAt w base g n cap zs) :
    Calls Try.prog 69 #[.slice (some ⟨g, 0, none⟩) n cap] w fun e w' => (∃ (m : Nat), e = .returned (.slice (some ⟨g, 0, none⟩) m cap) ∧ m ≤ n ∧ (m = n ↔ ApartN zs n)) ∧ Below base w w' := by
  have hcap : n ≤ cap := by have := h.sl.cap; have := h.len; omega
  have hlen := Lib.hid h.len
  have hgl := h.lt
  by_cases h2 : n < 2
  · have hA : Hid (ApartN zs n) := Lib.hid (fun i h1 h2 => by omega)
    have hn2 : (n : Int) < 2 := by omega
    go_enter Try.func69, Try.ntmps69
    go_wp2
    go_ret
    exact ⟨⟨n, rfl, Nat.le_refl _, fun _ => hA.out, fun _ => rfl⟩, Below.refl _ _⟩
  · have hn2 : ¬ (n : Int) < 2 := by omega
    have HN := Lib.hid hn
    go_enter Try.func69, Try.ntmps69
    go_wp2
    go_loopw [3] (fun i wr => ∃ (k m : Nat), 1 ≤ k ∧ k ≤ n ∧ i = .int .i64 k ∧ wr = w.drewN m ∧ Hid (ApartN zs k)) (fun i _ => n - (intOf i).toNat)
    case atStart => exact ⟨1, 0, Nat.le_refl _, by omega, rfl, rfl, Lib.hid (fun i h1 h2 => by omega)⟩
    case round =>
      obtain ⟨k, m, hk1, hk, rfl, rfl, hA⟩ := hrel
      by_cases hlt : k < n
      · have c1 := fun t => up_cell h (i := k) hlt (m + t)
        have c2 := fun t => up_cell h (i := k - 1) (by omega) (m + t)
        have hkn : (k : Int) < n := by omega
        have hk1n : (k : Int) - 1 < n := by omega
        have hk0 : (0 : Int) ≤ (k : Int) - 1 := by omega
        have hkp : (0 : Int) < k := by omega
        have hkt : ((k : Int) - 1).toNat = k - 1 := by omega
        have wr1 : IntKind.i64.wrap ((k : Int) - 1) = (k : Int) - 1 := IntWalk.i64_in _ (by omega)
        by_cases e : co zs k = co zs (k - 1)
        · have hN : Hid (¬ ApartN zs n) := Lib.hid fun hA => hA k hk1 hlt e
          have hO := fun t => Lib.hid (h.next (below_drewN (Below.refl _ w) (m + t)))
          have hB := fun t => Lib.hid ((below_drewN (Below.refl w.heap.size w) (m + t)).mono hbase)
          rw [e] at c1
          generalize co zs (k - 1) = x at *
          have hkc : ¬ cap = k := by omega
          have hkcI : (k : Int) ≤ cap := by omega
          have hkcn : (k : Int) ≤ n := by omega
          have hncI : (n : Int) ≤ cap := by omega
          clear hA
          go_wp2
          go_quiet (fail)
          go_wp2
          obtain ⟨W1, hW1⟩ : ∃ W1, W1 = w.drewN (m + nq) := ⟨_, rfl⟩
          have hO1 : OwnAt W1 base g n cap zs := by rw [hW1]; exact (hO nq).out
          have hB1 : Below base w W1 := by rw [hW1]; exact (hB nq).out
          rw [← hW1]
          clear hW1 hO hB c1 c2
          go_loopw [3, 5] (fun a b wr => ∃ (kk j : Nat) (ys : List Int), k ≤ kk ∧ kk < k + j ∧ 1 ≤ j ∧ j ≤ n - k ∧ a = .int .i64 kk ∧ b = .int .i64 j ∧ OwnAt wr base g n cap ys ∧ Below base w wr) (fun _ b _ => (n - k) - (intOf b).toNat)
          case atStart => exact ⟨k, 1, zs, Nat.le_refl _, by omega, Nat.le_refl _, by omega, rfl, rfl, hO1, hB1⟩
          case round =>
            clear hO1 hB1
            obtain ⟨kk, j, ys, hkk, hkj, hj1, hj, rfl, rfl, hO, hB⟩ := hrel
            by_cases hl : j < n - k
            · have d1 := fun t => up_cell hO (i := k + j) (by omega) t
              have d2 := fun t => up_cell hO (i := k + (j - 1)) (by omega) t
              have hjn : (j : Int) < (n - k : Nat) := by omega
              have hj1n : (j : Int) - 1 < (n - k : Nat) := by omega
              have hj0 : (0 : Int) ≤ (j : Int) - 1 := by omega
              have hjp : (0 : Int) < j := by omega
              have hjt : ((j : Int) - 1).toNat = j - 1 := by omega
              have wr2 : IntKind.i64.wrap ((j : Int) - 1) = (j : Int) - 1 := IntWalk.i64_in _ (by omega)
              have hkkn : (kk : Int) < n := by omega
              have hO2 := fun t => Lib.hid (hO.next (below_drewN (Below.refl _ wr) t))
              have hB2 := fun t => Lib.hid (below_drewN hB t)
              generalize co ys (k + j) = x1 at *
              generalize co ys (k + (j - 1)) = x2 at *
              clear hO hB
              by_cases ex : x1 = x2
              · subst ex
                go_wp2
                go_quiet (fail)
                go_wp2
                go_roundw
                case rel => exact ⟨kk, j + 1, ys, hkk, by omega, by omega, by omega, by simp, by simp, (hO2 _).out, (hB2 _).out⟩
                case measure => simp [intOf]; omega
              · have ex' : (x1 != x2) = true := bne_iff_ne.2 ex
                go_wp2
                go_quiet (fail)
                obtain ⟨W2, hW2⟩ : ∃ W2, W2 = wr.drewN nq := ⟨_, rfl⟩
                have hO3 : OwnAt W2 base g n cap ys := by rw [hW2]; exact (hO2 nq).out
                have hB3 : Below base w W2 := by rw [hW2]; exact (hB2 nq).out
                have d3 := d1 nq
                rw [← hW2] at d3 ⊢
                have hf3 := hO3.frozen kk
                have hkl : kk < ys.length := by rw [hO3.len]; omega
                have d4 : W2.cell? ⟨g, kk, none⟩ = some (.int .u64 (co ys kk)) := up_cell hO3 (i := kk) (by omega) 0
                have hO4 := Lib.hid (hO3.put kk x1)
                have hB4 := Lib.hid (hB3.setCell (p := ⟨g, kk, none⟩) hgl.1 (.int .u64 x1))
                clear hW2 hO2 hB2 d1 d2 hO3 hB3
                go_wp2
                go_roundw
                case rel => exact ⟨kk + 1, j + 1, _, by omega, by omega, by omega, by omega, by simp, by simp, hO4.out, hB4.out⟩
                case measure => simp [intOf]; omega
            · obtain rfl : j = n - k := by omega
              have hcl : ∀ ty, (Builtin.clear_ #[23] ty #[.slice (some ⟨g, kk, none⟩) (n - kk) (cap - kk)]).run Try.prog wr = .ok (.tuple #[]) (wr.setCells g kk (List.replicate (n - kk) (.int .u64 0))) :=
                fun ty => Lib.run_clear_slice wr _ _ ty _ Try.underlying23 Try.zeroValue22 rfl rfl g kk _ _ (by omega) (fun q hq => by
                  have := up_cell hO (i := kk + q) (by omega) 0
                  rw [show wr.drewN 0 = wr from rfl] at this
                  rw [this]; rfl) (fun q _ => hO.frozen _)
              have hBE := Lib.hid (setCells_below g hgl.1 (List.replicate (n - kk) (.int .u64 0)) kk hB)
              have hkkc : ¬ cap = kk := by omega
              have hkkI : (kk : Int) ≤ n := by omega
              have hkkI2 : (kk : Int) ≤ cap := by omega
              clear hB
              go_wp2
              go_ret
              exact ⟨⟨kk, rfl, by omega, fun e => absurd e (by omega), fun e => absurd e hN.out⟩, hBE.out⟩
        · have hA2 : Hid (ApartN zs (k + 1)) := Lib.hid fun i h1 h2 => by
            by_cases ei : i = k
            · subst ei; exact e
            · exact hA.out i h1 (by omega)
          have e' : (co zs k == co zs (k - 1)) = false := beq_eq_false_iff_ne.2 e
          generalize co zs (k - 1) = x at *
          generalize co zs k = y at *
          clear hA
          go_wp2
          go_quiet (fail)
          go_wp2
          go_roundw
          case rel => exact ⟨k + 1, _, by omega, by omega, by simp, by first | rfl | (simp; rfl), hA2⟩
          case measure => simp [intOf]; omega
      · obtain rfl : k = n := by omega
        have hB := Lib.hid (fun t => (below_drewN (Below.refl w.heap.size w) t).mono hbase)
        go_wp2
        go_ret
        exact ⟨⟨_, rfl, Nat.le_refl _, fun _ => hA.out, fun _ => rfl⟩, hB.out _⟩

theorem sort_nodup {zs : List Int} {n : Nat} (hl : zs.length = n) (hs : SortIn zs 0 n) : ApartN zs n ↔ zs.Nodup := by
  constructor
  · intro h
    have up : ∀ b a, a < b → b < n → co zs a < co zs b := by
      intro b
      induction b with
      | zero => intro a h1; omega
      | succ b ih =>
        intro a h1 h2
        have h3 := hs b (b + 1) (Nat.zero_le _) (by omega) h2
        have h4 := h (b + 1) (by omega) h2
        rw [Nat.add_sub_cancel] at h4
        rcases (show a < b ∨ a = b by omega) with h5 | rfl
        · have := ih a h5 (by omega); omega
        · omega
    refine List.pairwise_iff_getElem.2 fun i j hi hj hij e => ?_
    have := up j i hij (by omega)
    rw [co_get hi, co_get hj, e] at this
    omega
  · intro h i h1 h2 e
    have := co_inj h (i := i) (j := i - 1) (by omega) (by omega) e
    omega


/-- areShares: no word occurs twice, 0 among them. -/
def Shr (ps : List (Int × Int)) : Prop := (0 :: px ps).Nodup
instance (ps : List (Int × Int)) : Decidable (Shr ps) := inferInstanceAs (Decidable ((0 :: px ps).Nodup))
def xsOf (ps : List (Int × Int)) (k : Nat) : List Int := 0 :: (px ps).take k
theorem xsOf_next {ps : List (Int × Int)} {k : Nat} {x y : Int} (h : ps[k]? = some (x, y)) : xsOf ps (k + 1) = xsOf ps k ++ [x] := by
  unfold xsOf px
  rw [List.take_add_one, List.getElem?_map, h]
  rfl
theorem xsOf_all (ps : List (Int × Int)) : xsOf ps ps.length = 0 :: px ps := by unfold xsOf; rw [← px_len, List.take_length]
theorem own_lit1 (w : World) (x : Int) : (w.alloc (.cells #[.int .u64 x] 22)).ownsRow w.heap.size 22 1 (.slice (some ⟨w.heap.size, 0, none⟩) 1 1) 1 [.int .u64 x] := World.ownsRow_lit w #[.int .u64 x] 1 (Nat.le_refl _) (by decide) rfl

set_option maxHeartbeats 2000000 in
theorem shares_are (A : Option Addr) (c : Nat) (ps : List (Int × Int)) (hn : ps.length ≤ 12 ∨ ps.length = 13 ∧ SortIn (0 :: px ps) 0 14) (w : World) (h : Pt w A c ps) :
    Calls Try.prog 47 #[.slice A ps.length c] w fun e w' => e = .returned (.bool (decide (Shr ps))) ∧ Below w.heap.size w w' := by
  obtain ⟨i0, hi, hz0, hz1, hz2⟩ := info_parts info_u64
  have hso := fun g cap W (hO : OwnAt W w.heap.size g (ps.length + 1) cap (0 :: px ps)) => sort_any (xs := 0 :: px ps) (ps.length + 1) (by omega) (by rcases hn with h | ⟨h, hs⟩; exact .inl (by omega); exact .inr ⟨by omega, hs⟩) W hO
  have hco := fun g cap zs W hb hO => compact_any w.heap.size g (ps.length + 1) cap zs (by omega) W hb hO
  have hn2 : ps.length ≤ 13 := by omega
  have hr0 := own_lit1 w 0
  have hB0 : Below w.heap.size w (w.alloc (.cells #[.int .u64 0] 22)) := (Below.refl _ w).alloc (Nat.le_refl _) _
  clear hn
  go_enter Try.func47, Try.ntmps47
  go_wp2_with fail
  go_loopw [3, 9] (fun v i wr => ∃ k : Nat, k ≤ ps.length ∧ i = .int .i64 k ∧ wr.ownsRow w.heap.size 22 1 v (k + 1) ((xsOf ps k).map (Value.int .u64)) ∧ Below w.heap.size w wr) (fun _ i _ => ps.length - (intOf i).toNat)
  case atStart => exact ⟨0, Nat.zero_le _, rfl, hr0, hB0⟩
  case round =>
    clear hr0 hB0
    obtain ⟨k, hk, rfl, hrow, hB⟩ := hrel
    have hsz := hB.size
    obtain ⟨gv, cv, rfl, hgb, hgl⟩ := World.ownsRow.form hrow (by omega)
    by_cases hlt : k < ps.length
    · have hkN : (k : Int) < ps.length := by omega
      obtain ⟨b, off, x, y, hA, hbl, hxy, hcx, hcy⟩ := (h.next hB).at_ hlt
      subst hA
      have hNX := Lib.hid (xsOf_next hxy)
      have hne2 : b ≠ wr.heap.size := by omega
      have hro := (hrow.alloc (.cells #[.int .u64 x, .int .u64 y] 34)).alloc (.cells #[.int .u64 x] 22)
      have hB2 := (hB.alloc hsz (.cells #[.int .u64 x, .int .u64 y] 34)).alloc (by simp; omega) (.cells #[.int .u64 x] 22)
      clear hxy hrow
      go_wp2_with (at_builtin; refine wpList_append_own _ rfl _ _ 23 rfl w.heap.size 22 i0 (.int .u64 0) 1 8 Try.underlying23 hi hz0 hz1 hz2 rfl (by decide) _ _ _ rfl hro ⟨wr.heap.size + 1, 0, none⟩ 1 1 [.int .u64 x] rfl rfl (by have := cell_one_new (wr.alloc (.cells #[.int .u64 x, .int .u64 y] 34)) (.int .u64 x) 22; simpa using this) (by simp [Value.oneCell']) (by simp only [maxLen]; omega) (by omega) (by simp; omega) ?_; intro v' w2 hown' hgrow _)
      have hB3 : Below w.heap.size w w2 := hB2.grown hgrow (by simp; omega) (fun k e => by cases e; exact hgb)
      go_roundw
      case rel => exact ⟨k + 1, by omega, by simp, by rw [hNX.out, List.map_append]; exact hown', hB3⟩
      case measure => simp [intOf]; omega
    · obtain rfl : k = ps.length := by omega
      rw [xsOf_all] at hrow
      have hO : OwnAt wr w.heap.size gv (ps.length + 1) cv (0 :: px ps) := hrow
      have HN := Lib.hid hn2
      clear hrow
      go_wp2_with fail
      refine (hso gv cv wr hO).mono ?_
      rintro e w2 ⟨⟨v, rfl⟩, zs, hP, hS, hO2, hG2⟩
      have hB2 : Below w.heap.size w w2 := hB.grown hG2 hsz (fun k e => by cases e; exact hgb)
      go_wp2_with fail
      refine (hco gv cv zs w2 hB2.size hO2).mono ?_
      rintro e w3 ⟨⟨m, rfl, hm, hiff⟩, hB3⟩
      have hBE := hB2.trans hB3
      have e1 : Shr ps ↔ m = ps.length + 1 := (hP.nodup_iff.symm.trans (sort_nodup hO2.len hS).symm).trans hiff.symm
      have hE : Hid (((m : Int) == (ps.length : Int) + 1) = decide (Shr ps)) := Lib.hid (by
        by_cases hm' : m = ps.length + 1
        · rw [decide_eq_true (e1.2 hm'), hm']; simp
        · rw [decide_eq_false fun h => hm' (e1.1 h)]
          exact beq_eq_false_iff_ne.2 (by omega))
      have wN : IntKind.i64.wrap ((ps.length : Int) + 1) = (ps.length : Int) + 1 := IntWalk.i64_in _ (by have := HN.out; omega)
      clear hiff hO2 hP hS e1 hso hco
      go_wp2
      go_ret
      exact ⟨by rw [← hE.out]; rfl, hBE⟩
end Go.Proofs.Ytddbdjhgmeeakaa

/- Reconstruct of package shamir: the value at 0 of the polynomial through the first points, where the others lie on it; the errors. Conditions: a supported prime, coordinates in its field, distinct abscissas other than 0, at most twelve points, or thirteen that ascend. -/
namespace Go.Proofs.Ytddbdjhgmeeakaa
set_option maxRecDepth 100000
open Go.RowKit PolyMath FieldMath

theorem Pt.take {w : World} {A : Option Addr} {c : Nat} {ps : List (Int × Int)} (h : Pt w A c ps) (k : Nat) : Pt w A c (ps.take k) := by
  refine ⟨by rw [List.length_take]; have := h.cap; omega, h.nil, fun ad hA hn => ?_⟩
  obtain ⟨b, off, e, hb, hc⟩ := h.rd ad hA (fun e => hn (by rw [e, List.take_nil]))
  refine ⟨b, off, e, hb, fun j q hq => hc j q ?_⟩
  rw [List.getElem?_take] at hq
  split at hq
  · exact hq
  · cases hq
theorem px_take (ps : List (Int × Int)) (k : Nat) : px (ps.take k) = (px ps).take k := by unfold px; rw [List.map_take]
theorem py_take (ps : List (Int × Int)) (k : Nat) : py (ps.take k) = (py ps).take k := by unfold py; rw [List.map_take]
theorem el_tk {p : Int} {xs : List Int} (h : El p xs) (k : Nat) : El p (xs.take k) := fun z hz => h z (List.mem_of_mem_take hz)
theorem Shr.nodup {ps : List (Int × Int)} (h : Shr ps) : (px ps).Nodup := (List.nodup_cons.1 h).2
theorem Shr.zero {ps : List (Int × Int)} (h : Shr ps) : (0 : Int) ∉ px ps := (List.nodup_cons.1 h).1
theorem nd_take {xs : List Int} (h : xs.Nodup) (k : Nat) : (xs.take k).Nodup := h.sublist (List.take_sublist _ _)

/-- All points behind the first t + 1 lie on f. -/
def Lie (p : Int) (f : List Int) (ps : List (Int × Int)) (a b : Nat) : Prop := ∀ i, a ≤ i → i < b → pev p f (co (px ps) i) = co (py ps) i
/-- The limits within which the program's check sorts as proved. -/
def Few (ps : List (Int × Int)) : Prop := ps.length ≤ 12 ∨ ps.length = 13 ∧ SortIn (0 :: px ps) 0 14
theorem Few.le {ps : List (Int × Int)} (h : Few ps) : ps.length ≤ 13 := by rcases h with h | h <;> omega

theorem rec_few (p : Int) (A : Option Addr) (c t : Nat) (ps : List (Int × Int)) (ht : ps.length ≤ t) (htb : (t : Int) ≤ 1000) (w : World) :
    Calls Try.prog 19 #[.int .u64 p, .int .i64 t, .slice A ps.length c] w fun e w' => e = .returned (.tuple #[.int .u64 0, .int .i64 1]) ∧ Below w.heap.size w w' := by
  have h1 : (ps.length : Int) ≤ t := by omega
  have h2 : ¬ (t : Int) < 0 := by omega
  go_enter Try.func19, Try.ntmps19
  go_wp2_with fail
  go_ret2
  exact ⟨rfl, Below.refl _ _⟩

set_option maxHeartbeats 4000000 in
theorem rec_any (p : Int) (hp : OkP p) (A : Option Addr) (c t : Nat) (ps : List (Int × Int)) (hx : El p (px ps)) (hy : El p (py ps)) (hs : Shr ps) (hf : Few ps) (ht : t < ps.length) (w : World) (h : Pt w A c ps) :
    Calls Try.prog 19 #[.int .u64 p, .int .i64 t, .slice A ps.length c] w fun e w' =>
      ((Lie p (thru p (ps.take (t + 1))) ps (t + 1) ps.length ∧ e = .returned (.tuple #[.int .u64 (co (thru p (ps.take (t + 1))) 0), .int .i64 0])) ∨ (¬ Lie p (thru p (ps.take (t + 1))) ps (t + 1) ps.length ∧ e = .returned (.tuple #[.int .u64 0, .int .i64 9]))) ∧ Below w.heap.size w w' := by
  have hbd := hp.bd
  have hle := hf.le
  have hsh := shares_are A c ps hf w h
  rw [decide_eq_true hs] at hsh
  have htl : (ps.take (t + 1)).length = t + 1 := by rw [List.length_take]; omega
  have hpol := fun W (hW : Pt W A c (ps.take (t + 1))) => pol_any p hp A c (ps.take (t + 1)) (by rw [px_take]; exact el_tk hx _) (by rw [py_take]; exact el_tk hy _) (by omega) W hW
  have hnd : (px (ps.take (t + 1))).Nodup := by rw [px_take]; exact nd_take hs.nodup _
  have hI := thru_itp hp.good hnd (by rw [px_take]; exact el_tk hx _) (by rw [py_take]; exact el_tk hy _)
  have hFe : El p (thru p (ps.take (t + 1))) := hI.fe
  have hFl := hI.fl
  rw [px_len, htl] at hFl
  rw [htl] at hpol
  have hcap := h.cap
  clear hI htl
  have h1 : ¬ (ps.length : Int) ≤ t := by omega
  have h1b : decide (ps.length ≤ t) = false := decide_eq_false (by omega)
  have h2 : ¬ (t : Int) < 0 := by omega
  have wt1 : IntKind.i64.wrap ((t : Int) + 1) = (t : Int) + 1 := IntWalk.i64_in _ (by omega)
  have ht1 : ((t : Int) + 1).toNat = t + 1 := by omega
  have hsl1 : (0 : Int) ≤ (t : Int) + 1 := by omega
  have hsl2 : (t : Int) + 1 ≤ c := by omega
  have hsl3 : (t : Int) + 1 ≤ ps.length := by omega
  have HND := Lib.hid hnd
  obtain ⟨b, off, _, _, hA, hbl, _, _, _⟩ := h.at_ (k := 0) (by omega)
  subst hA
  clear hnd hs hf
  generalize hF : thru p (ps.take (t + 1)) = F at *
  have HF := Lib.hid hF
  clear hF
  go_enter Try.func19, Try.ntmps19
  go_wp2_with fail
  refine hsh.mono ?_
  rintro e w1 ⟨rfl, b1⟩
  go_wp2_with fail
  refine (hpol w1 ((h.next b1).take _)).mono ?_
  rintro e w2 (⟨_, A2, c2, rfl, hs2, b2⟩ | ⟨hno, _, _⟩)
  case inr => exact absurd HND.out hno
  rw [HF.out] at hs2 ⊢
  have hB2 := b1.trans (b2.mono b1.size)
  have h2' := h.next hB2
  have HL := Lib.hid (show ¬ c = t + 1 ∨ ps.length = t + 1 by omega)
  rcases Nat.lt_or_ge (t + 1) ps.length with hmore | hmore
  case inr =>
    have hll := Lib.hid (show ps.length = t + 1 by omega)
    have hLE : Hid (Lie p F ps (t + 1) ps.length) := Lib.hid fun i h1 h2 => by have := hll.out; omega
    have hll2 : ps.length - (t + 1) = 0 := by omega
    have hco := coef_any A2 c2 F 0 w2 hs2
    have e0 : coI F 0 = co F 0 := rfl
    rw [e0] at hco
    by_cases hct : c = t + 1
    · subst hct
      go_wp2_with fail
      go_loopw [42] (fun i wr => i = .int .i64 0 ∧ wr = w2) (fun _ _ => 0)
      case atStart => exact ⟨rfl, rfl⟩
      case round =>
        obtain ⟨rfl, rfl⟩ := hrel
        go_wp2_with (go_at_call 49; refine hco.mono ?_; rintro e w' ⟨rfl, rfl⟩)
        go_ret2
        exact ⟨.inl ⟨hLE.out, rfl⟩, hB2⟩
    · have hct2 : ¬ c = t + 1 := hct
      go_wp2_with fail
      go_loopw [42] (fun i wr => i = .int .i64 0 ∧ wr = w2) (fun _ _ => 0)
      case atStart => exact ⟨rfl, rfl⟩
      case round =>
        obtain ⟨rfl, rfl⟩ := hrel
        go_wp2_with (go_at_call 49; refine hco.mono ?_; rintro e w' ⟨rfl, rfl⟩)
        go_ret2
        exact ⟨.inl ⟨hLE.out, rfl⟩, hB2⟩
  case inl =>
    have hct : ¬ c = t + 1 := by omega
    go_wp2_with fail
    go_loopw [42] (fun i wr => ∃ k : Nat, t + 1 + k ≤ ps.length ∧ i = .int .i64 k ∧ Hid (Lie p F ps (t + 1) (t + 1 + k)) ∧ Below w2.heap.size w2 wr) (fun i _ => ps.length - (intOf i).toNat)
    case atStart => exact ⟨0, by omega, rfl, Lib.hid (fun i h1 h2 => by omega), Below.refl _ _⟩
    case round =>
      obtain ⟨k, hk, rfl, hL, hB⟩ := hrel
      by_cases hlt : t + 1 + k < ps.length
      · obtain ⟨b', off', x, y, hA, hbl2, hxy, hcx, hcy⟩ := (h2'.next hB).at_ hlt
        injection hA with hA
        injection hA with e1 e2
        subst e1 e2
        have hkN : k < ps.length - (t + 1) := by omega
        have hxb := El.co (p := p) hx (by omega) (t + 1 + k)
        rw [px_at hxy] at hxb
        have hX := Lib.hid (px_at hxy)
        have hY := Lib.hid (py_at hxy)
        rw [show off + (t + 1 + k) * 2 = off + (t + 1) * 2 + k * 2 by omega] at hcx hcy
        have hBn : Below w2.heap.size w2 (wr.alloc (.cells #[.int .u64 x, .int .u64 y] 34)).drew := (bnew hB (.cells #[.int .u64 x, .int .u64 y] 34) (Nat.le_refl _)).drew
        have hev := eval_any p x hp hxb A2 c2 F hFe (by omega) _ (hs2.next hBn)
        have d1 : (wr.alloc (.cells #[.int .u64 x, .int .u64 y] 34)).drew.cell? ⟨wr.heap.size, 0, none⟩ = some (.int .u64 x) := by go_simp
        have d2 : (wr.alloc (.cells #[.int .u64 x, .int .u64 y] 34)).drew.cell? ⟨wr.heap.size, 1, none⟩ = some (.int .u64 y) := by go_simp
        have hl2 : wr.heap.size < (wr.alloc (.cells #[.int .u64 x, .int .u64 y] 34)).drew.heap.size := by simp [World.drew]
        clear hxy
        go_wp2_with fail
        go_region_held3 (fun w' => w'.cell? ⟨wr.heap.size, 0, none⟩ = some (.int .u64 x) ∧ w'.cell? ⟨wr.heap.size, 1, none⟩ = some (.int .u64 y))
          (refine ⟨?_, ?_⟩ <;> assumption)
          (first
            | (go_at_call 18; (with_reducible refine hev.mono ?_); rintro e w7 ⟨rfl, hb7⟩; have cx7 := (hb7.cell (p := ⟨wr.heap.size, 0, none⟩) hl2).trans d1; have cy7 := (hb7.cell (p := ⟨wr.heap.size, 1, none⟩) hl2).trans d2; have hB7 := hBn.trans (hb7.mono hBn.size)))
        all_goals
          have hBE := Lib.hid (hB2.trans (hB7.mono hB2.size))
          by_cases e : pev p F x = y
          · have hL2 : Hid (Lie p F ps (t + 1) (t + 1 + (k + 1))) := Lib.hid fun i h1 h2 => by
              by_cases ei : i = t + 1 + k
              · subst ei; rw [hX.out, hY.out]; exact e
              · exact hL.out i h1 (by omega)
            have eb : (pev p F x != y) = false := by rw [e]; simp
            clear hev
            generalize pev p F x = z at *
            go_wp2_with fail
            go_roundw
            case rel => exact ⟨k + 1, by omega, by simp, hL2, hB7⟩
            case measure => simp [intOf]; omega
          · have eb : (pev p F x != y) = true := bne_iff_ne.2 e
            have hN : Hid (¬ Lie p F ps (t + 1) ps.length) := Lib.hid fun h => e (by have := h (t + 1 + k) (by omega) hlt; rw [hX.out, hY.out] at this; exact this)
            clear hev
            generalize pev p F x = z at *
            go_wp2_with fail
            go_ret2
            exact ⟨.inr ⟨hN.out, rfl⟩, hBE.out⟩
      · have hkn : ¬ k < ps.length - (t + 1) := by omega
        have hLE : Hid (Lie p F ps (t + 1) ps.length) := Lib.hid (by rw [show ps.length = t + 1 + k by omega]; exact hL.out)
        have hco := coef_any A2 c2 F 0 wr (hs2.next hB)
        have e0 : coI F 0 = co F 0 := rfl
        rw [e0] at hco
        have hBE := Lib.hid (hB2.trans (hB.mono hB2.size))
        go_wp2_with (go_at_call 49; refine hco.mono ?_; rintro e w' ⟨rfl, rfl⟩)
        go_ret2
        exact ⟨.inl ⟨hLE.out, rfl⟩, hBE.out⟩
end Go.Proofs.Ytddbdjhgmeeakaa

/- slices.Clone at points, and completed of package shamir: the points followed by zeros at the smallest places that are free (a set kept in a map). Conditions: words, at most 1000 points. -/
namespace Go.Proofs.Ytddbdjhgmeeakaa
set_option maxRecDepth 100000
open Go.RowKit PolyMath FieldMath Go.Maps

/-- An element that reads as a bool's datum is that bool. -/
theorem elem_bool_inv {H : Type} {P : Program} {e : TypeId} (he : P.underlying e = some .bool) {v : Value} {z : DataW H × List MemPlace} (h : plainElem P e v = some z) : ∃ b, v = .bool b ∧ z = (.lit (.bool b), []) := by
  unfold plainElem at h
  rw [he] at h
  cases v <;> simp at h
  exact ⟨_, rfl, h.symm⟩
/-- A look-up at elements of type bool. -/
theorem wpList_lookup_bool {H : Type} {P : Program} (w : World) {ops : Array Oper} {rest : List Oper} {o : Oper} {a : Act} {Q : Exit → Act → World → Prop}
    (hg : o.guard = none) (m x : Operand) (t : TypeId) (hop : o.op = Op.lookup t m x false)
    (k e : TypeId) (K : Keyed P k) (ht : P.underlying t = some (.map k e)) (he : P.underlying e = some .bool) (hz : (zeroValue e).run P w = .ok (.bool false) w) (b n : Nat) (D : DataW H)
    (hm : a.eval m = .map (some b)) (hown : w.ownsMap P k (plainElem P e) b n D) (key : Value) (kl : Lit) (hx : a.eval x = key) (hkey : keyOf P k key = some kl)
    (c : Bool) (hat : D.atKey kl (.lit (.bool false)) = .lit (.bool c)) (hK : wpList P ops Q rest (a.put o.dst (.bool c)) w) :
    wpList P ops Q (o :: rest) a w := by
  refine wpList_plain hg fun K' hK' => ?_
  obtain ⟨v, ps, hrun, hv⟩ := hown.lookup K ht hz (plainElem_bool he false) hkey
  obtain ⟨c', rfl, hc⟩ := elem_bool_inv he hv
  simp only [Prod.mk.injEq] at hc
  have e1 : c' = c := by
    have := hc.1.symm.trans hat
    injection this with this
    injection this
  subst e1
  unfold Oper.wp
  simp [execOp, hop, hm, hx, hrun, Result.andThen]
  exact hK' _ _ hK

theorem keyed64 : Keyed Try.prog 22 := int_keyed Try.underlying22
theorem zeroB (w : World) : (zeroValue 4).run Try.prog w = .ok (.bool false) w := by kernel_rfl
theorem word_wf {x : Int} (h : 0 ≤ x ∧ x ≤ 18446744073709551615) : (Lit.int .u64 x).wf = true := by
  have e1 : IntKind.u64.min = 0 := rfl
  have e2 : IntKind.u64.max = 18446744073709551615 := rfl
  simp only [Lit.wf, Bool.and_eq_true, decide_eq_true_eq]
  omega
theorem key64 {x : Int} (h : 0 ≤ x ∧ x ≤ 18446744073709551615) : keyOf Try.prog 22 (.int .u64 x) = some (.int .u64 x) := keyOf_int_mk Try.underlying22 (word_wf h)
/-- The set of the words xs, as the map holds it. -/
def setD (xs : List Int) : DataW Unit := xs.foldl (fun D x => D.put (.int .u64 x) (.lit (.bool true))) (.map [])
theorem setD_next (xs : List Int) (x : Int) : setD (xs ++ [x]) = (setD xs).put (.int .u64 x) (.lit (.bool true)) := by unfold setD; rw [List.foldl_append]; rfl
theorem setD_map : ∀ (xs : List Int) (D : DataW Unit), IsMap D → IsMap (xs.foldl (fun D x => D.put (.int .u64 x) (.lit (.bool true))) D)
  | [], _, h => h
  | _ :: xs, _, h => setD_map xs _ (h.put _ _)
theorem setD_at {xs : List Int} (hw : ∀ x ∈ xs, 0 ≤ x ∧ x ≤ 18446744073709551615) {y : Int} : (setD xs).atKey (.int .u64 y) (.lit (.bool false)) = .lit (.bool (decide (y ∈ xs))) := by
  have key : ∀ n, (setD (xs.take n)).atKey (.int .u64 y) (.lit (.bool false)) = .lit (.bool (decide (y ∈ xs.take n))) := by
    intro n
    induction n with
    | zero => rfl
    | succ n ih =>
      cases hx : xs[n]? with
      | none => rw [List.take_add_one, hx]; simpa using ih
      | some x =>
        rw [List.take_add_one, hx, Option.toList_some, setD_next]
        have hxw := hw x (List.mem_of_getElem? hx)
        by_cases e : y = x
        · subst e
          rw [atKey_put_same (show IsMap (setD (xs.take n)) from setD_map _ _ isMap_empty) (keyed64.key (key64 hxw))]
          simp
        · rw [atKey_put_other (fun h => e (by injection h)), ih]
          simp [e]
  have := key xs.length
  rwa [List.take_length] at this

/-- Zeros at places. -/
def zp (xs : List Int) : List (Int × Int) := xs.map fun x => (x, (0 : Int))
theorem zp_next (xs : List Int) (x : Int) : zp (xs ++ [x]) = zp xs ++ [(x, 0)] := by unfold zp; rw [List.map_append]; rfl
theorem zp_len (xs : List Int) : (zp xs).length = xs.length := by unfold zp; simp

theorem own_lit0P (w : World) : Hid ((w.alloc (.cells #[] 34)).ownsRow w.heap.size 34 2 (.slice (some ⟨w.heap.size, 0, none⟩) 0 0) 0 []) := Lib.hid (World.ownsRow_lit w #[] 0 (Nat.le_refl _) (Nat.zero_le _) rfl)
set_option maxHeartbeats 1000000 in
theorem cloneP_any (A : Option Addr) (c : Nat) (ps : List (Int × Int)) (w : World) (h : Pt w A c ps) (hl : ps.length ≤ 1000) :
    Calls Try.prog 75 #[.slice A ps.length c] w fun e w' => ∃ v, e = .returned v ∧ w'.ownsRow w.heap.size 34 2 v ps.length (pcells ps) ∧ Below w.heap.size w w' := by
  obtain ⟨i0, hi, hz0, hz1, hz2⟩ := info_parts info_pt
  have hlit := own_lit0P w
  have q22 : ∀ (w : World) (a : Option Addr) (n c n' c' : Nat), (binOp .eql 31 (.slice a n c) (.slice none n' c')).run Try.prog w = .ok (.bool a.isNone) w := fun w a n c n' c' => Lib.run_eql_slice_nil w _ _ a n c n' c' Try.underlying31
  cases A with
  | none =>
    obtain ⟨rfl, rfl⟩ := h.empty
    clear h
    go_enter Try.func75, Try.ntmps75
    go_wp2
    go_ret
    exact ⟨_, rfl, World.ownsRow_nil _ _ _ _, Below.refl _ _⟩
  | some ad =>
    have hnw := Lib.hid ((h.push (.cells #[] 34)).news)
    have hln := Lib.hid (pcells_len ps)
    have hon := Lib.hid (pc_one ps)
    clear h
    go_enter Try.func75, Try.ntmps75
    go_wp2_with (at_builtin; refine wpList_append_own _ rfl _ _ 31 rfl w.heap.size 34 i0 _ 2 16 Try.underlying31 hi hz0 hz1 hz2 rfl (by decide) _ _ _ rfl hlit.out ad ps.length c (pcells ps) rfl hln.out hnw.out hon.out (by simp only [maxLen]; omega) (by omega) (by simp) ?_; intro v' w1 hown hgrow _)
    go_ret
    exact ⟨v', rfl, by simpa using hown, ((Below.refl _ w).alloc (Nat.le_refl _) _).grown hgrow (by simp) (fun k e => (hlit.out.lt k e).1)⟩

theorem row_form22 {w : World} {base t n : Nat} {v : Value} {xs : List Value} (h : w.ownsRow base t 2 v n xs) : ∃ A c, v = .slice A n c := by
  rcases h.2 with ⟨rfl, h0⟩ | ⟨g, cap, cur, rfl, _⟩
  · subst h0; exact ⟨_, _, rfl⟩
  · exact ⟨_, _, rfl⟩
theorem own_base {w : World} {b b' t size n : Nat} {v : Value} {xs : List Value} (h : w.ownsRow b t size v n xs) (hb : b' ≤ b) : w.ownsRow b' t size v n xs := by
  refine ⟨h.1, h.2.imp id ?_⟩
  rintro ⟨g, cap, cur, hv, h1, r⟩
  exact ⟨g, cap, cur, hv, Nat.le_trans hb h1, r⟩

set_option maxHeartbeats 4000000 in
theorem completed_any (A : Option Addr) (c t : Nat) (ps : List (Int × Int)) (hw : ∀ x ∈ px ps, 0 ≤ x ∧ x ≤ 18446744073709551615) (hl : ps.length ≤ t) (ht : t ≤ 1000) (w : World) (h : Pt w A c ps) :
    Calls Try.prog 50 #[.slice A ps.length c, .int .i64 t] w fun e w' =>
      ∃ v, e = .returned v ∧ w'.ownsRow w.heap.size 34 2 v t (pcells (ps ++ zp (spare (px ps) (t - ps.length)))) ∧ Below w.heap.size w w' := by
  obtain ⟨i0, hi, hz0, hz1, hz2⟩ := info_parts info_pt
  have hmm := @run_makeMap Try.prog
  have hxl := px_len ps
  have HX := Lib.hid hxl
  have HW := Lib.hid hw
  clear hxl hw
  go_enter Try.func50, Try.ntmps50
  go_wp2
  go_loopw [13] (fun i wr => ∃ k : Nat, k ≤ ps.length ∧ i = .int .i64 k ∧ wr.ownsMap Try.prog 22 (plainElem Try.prog 4) w.heap.size k (setD ((px ps).take k)) ∧ Below w.heap.size w wr) (fun i _ => ps.length - (intOf i).toNat)
  case atStart => exact ⟨0, Nat.zero_le _, rfl, World.ownsMap_made _ _ _ _, (Below.refl _ _).alloc (Nat.le_refl _) _⟩
  case round =>
    obtain ⟨k, hk, rfl, hown, hB⟩ := hrel
    have hsz := hB.size
    by_cases hlt : k < ps.length
    · have hkN : (k : Int) < ps.length := by omega
      obtain ⟨b, off, x, y, hA, hbl, hxy, hcx, hcy⟩ := (h.next hB).at_ hlt
      subst hA
      have hxw := HW.out x (by unfold px; exact List.mem_map.2 ⟨(x, y), List.mem_of_getElem? hxy, rfl⟩)
      have hkey := key64 hxw
      have hNX : Hid (setD ((px ps).take (k + 1)) = (setD ((px ps).take k)).put (.int .u64 x) (.lit (.bool true))) := Lib.hid (by
        rw [List.take_add_one, show (px ps)[k]? = some x by unfold px; rw [List.getElem?_map, hxy]; rfl, Option.toList_some, setD_next])
      have hne2 : b ≠ wr.heap.size := by omega
      have hown1 := hown.alloc (.cells #[.int .u64 x, .int .u64 y] 34)
      have hB1 := hB.alloc hsz (.cells #[.int .u64 x, .int .u64 y] 34)
      have hsz1 := hB1.size
      clear hxy hown hxw
      go_wp2_with (first | (at_mapUpdate; refine wpList_mapUpdate_own _ rfl _ _ _ 99 rfl 22 4 keyed64 Try.underlying99 _ w.heap.size k _ rfl hown1 (by unfold maxLen; omega) _ _ _ rfl rfl hkey _ [] (plainElem_bool Try.underlying4 true) ?_; intro w1 hown2 hgrow2) | go_in)
      have hB2 := hB1.grown hgrow2 hsz1 (fun j hj => by cases hj; exact Nat.le_refl _)
      go_roundw
      case rel => exact ⟨k + 1, by omega, by simp, by rw [hNX.out]; exact hown2, hB2⟩
      case measure => simp [intOf]; omega
    · obtain rfl : k = ps.length := by omega
      have hcl := cloneP_any A c ps wr (h.next hB) (by omega)
      rw [show (px ps).take ps.length = px ps by rw [← HX.out, List.take_length]] at hown
      clear hk hlt
      go_wp2_with fail
      refine hcl.mono ?_
      rintro e w2 ⟨v, rfl, hrow, hB2⟩
      have hown2 : w2.ownsMap Try.prog 22 (plainElem Try.prog 4) w.heap.size ps.length (setD (px ps)) := hown.kept (grown_of hB2 none) (by simp)
      have hB3 := hB.trans (hB2.mono hsz)
      have hBlt := hown.lt
      obtain ⟨s1, hs1⟩ : ∃ s1, s1 = wr.heap.size := ⟨_, rfl⟩
      rw [← hs1] at hrow hBlt
      have hs2 : s1 ≤ w2.heap.size := by have := hB2.size; omega
      have hrow2 : w2.ownsRow s1 34 2 v (ps.length + (upTo (px ps) 0).length) (pcells (ps ++ zp (upTo (px ps) 0))) := by
        rw [show upTo (px ps) 0 = [] from rfl]; simpa [zp] using hrow
      clear hown hB2 hs1 hrow hB hsz hcl h
      go_wp2
      go_loopw [8, 9] (fun v x wr => ∃ k : Nat, x = .int .u64 ((k : Int) + 1) ∧ ps.length + (upTo (px ps) k).length ≤ t ∧ wr.ownsRow s1 34 2 v (ps.length + (upTo (px ps) k).length) (pcells (ps ++ zp (upTo (px ps) k))) ∧ s1 ≤ wr.heap.size ∧ wr.ownsMap Try.prog 22 (plainElem Try.prog 4) w.heap.size ps.length (setD (px ps)) ∧ Below w.heap.size w wr) (fun _ x _ => t + 2 - (intOf x).toNat)
      case atStart => exact ⟨0, rfl, by rw [show upTo (px ps) 0 = [] from rfl]; simpa using hl, hrow2, hs2, hown2, hB3⟩
      case round =>
        clear hrow2 hs2 hown2 hB3
        obtain ⟨k, rfl, hkt, hrow, hsz, hown, hB⟩ := hrel
        obtain ⟨A2, c2, rfl⟩ := row_form22 hrow
        have hup := upTo_len (px ps) k
        rw [HX.out] at hup
        obtain ⟨N, hN⟩ : ∃ N, N = ps.length + (upTo (px ps) k).length := ⟨_, rfl⟩
        rw [← hN] at hkt hrow ⊢
        have HN := Lib.hid hN
        by_cases hlt : N < t
        · have hkt2 : k < t := by omega
          have hNI : (N : Int) < t := by omega
          have hat := setD_at HW.out (y := (k : Int) + 1)
          have hkey := key64 (x := (k : Int) + 1) (by omega)
          have wk : IntKind.u64.wrap ((k : Int) + 1 + 1) = (k : Int) + 1 + 1 := IntWalk.u64_in _ (by omega)
          have hx9 : ∃ x : Int, x = (k : Int) + 1 := ⟨_, rfl⟩
          obtain ⟨x, hx9⟩ := hx9
          have HK := Lib.hid hx9
          rw [← hx9] at hat hkey wk ⊢
          by_cases hmem : x ∈ px ps
          · rw [decide_eq_true hmem] at hat
            have hUp := upTo_no (xs := px ps) (k := k) (by rw [← HK.out]; exact hmem)
            rw [hN, ← hUp] at hrow
            have hRW := Lib.hid hrow
            have hEL : Hid (N = ps.length + (upTo (px ps) (k + 1)).length) := Lib.hid (by rw [hUp]; exact HN.out)
            clear hN hrow hup hUp hx9
            go_wp2_with (first | (at_lookup; refine wpList_lookup_bool _ rfl _ _ 99 rfl 22 4 keyed64 Try.underlying99 Try.underlying4 (zeroB _) w.heap.size ps.length _ rfl hown _ _ rfl hkey true hat ?_) | go_in)
            go_roundw
            case rel => exact ⟨k + 1, by rw [HK.out]; simp, by rw [← hEL.out]; exact hkt, by rw [hEL.out]; exact hRW.out, hsz, hown, hB⟩
            case measure => simp [intOf]; have := HK.out; omega
          · rw [decide_eq_false hmem] at hat
            have hUp := upTo_yes (xs := px ps) (k := k) (by rw [← HK.out]; exact hmem)
            have hEL : Hid (N + 1 = ps.length + (upTo (px ps) (k + 1)).length) := Lib.hid (by rw [hUp, List.length_append, List.length_singleton]; have := HN.out; omega)
            have hEC : Hid (pcells (ps ++ zp (upTo (px ps) (k + 1))) = pcells (ps ++ zp (upTo (px ps) k)) ++ [.int .u64 x, .int .u64 0]) := Lib.hid (by rw [hUp, zp_next, ← List.append_assoc, pcells_snoc, HK.out])
            have hown1 := hown.alloc (.cells #[.int .u64 x, .int .u64 0] 34)
            have hro := hrow.alloc (.cells #[.int .u64 x, .int .u64 0] 34)
            have hB1 := bnew hB (.cells #[.int .u64 x, .int .u64 0] 34) (Nat.le_refl _)
            have hbn := fun k e => (World.ownsRow.lt hrow k e)
            have HB := Lib.hid hbn
            clear hN hrow hup hUp hx9 hbn
            go_wp2_with (first | (at_lookup; refine wpList_lookup_bool _ rfl _ _ 99 rfl 22 4 keyed64 Try.underlying99 Try.underlying4 (zeroB _) w.heap.size ps.length _ rfl hown _ _ rfl hkey false hat ?_) | (at_builtin; refine wpList_append_own _ rfl _ _ 31 rfl s1 34 i0 _ 2 16 Try.underlying31 hi hz0 hz1 hz2 rfl (by decide) _ _ _ rfl hro ⟨wr.heap.size, 0, none⟩ 1 1 [.int .u64 x, .int .u64 0] rfl rfl (World.news_of_block (cs := #[.int .u64 x, .int .u64 0]) (t := 34) (fr := (0, 0)) (World.alloc_heap_new wr _)) (by simp [Value.oneCell']) (by simp only [maxLen]; omega) (by omega) (by simp; omega) ?_; intro v' w3 hown' hgrow _) | go_in)
            have hB3 := hB1.grown hgrow hB1.size (fun k e => by have := (HB.out k e).1; omega)
            have hown3 := hown1.kept hgrow (fun e => by have := (HB.out _ e.symm).1; omega)
            have hsz3 : s1 ≤ w3.heap.size := by have := hgrow.size; simp at this; omega
            go_roundw
            case rel => exact ⟨k + 1, by rw [HK.out]; simp, by rw [← hEL.out]; omega, by rw [← hEL.out, hEC.out]; exact hown', hsz3, hown3, hB3⟩
            case measure => simp [intOf]; have := HK.out; omega
        · obtain rfl : N = t := by omega
          have hD : upTo (px ps) k = spare (px ps) (N - ps.length) := spare_of (by omega)
          rw [hD] at hrow
          have HR := Lib.hid (own_base hrow (show w.heap.size ≤ s1 by omega))
          clear hrow hN hD hup
          go_wp2
          go_ret
          exact ⟨_, rfl, HR.out, hB⟩
end Go.Proofs.Ytddbdjhgmeeakaa

/- FitSecret of package shamir: the t + 1 coefficients of the polynomial with the secret at 0 through the points, or the error. Conditions: a supported prime, coordinates in its field, at most twelve points, or thirteen that ascend, t at most 30. -/
namespace Go.Proofs.Ytddbdjhgmeeakaa
set_option maxRecDepth 100000
open Go.RowKit PolyMath FieldMath

theorem size_words : (Try.prog.info? 22).map (·.size) = some 1 := by kernel_rfl
theorem row_of_own {w : World} {B t g k : Nat} {xs : List Value} (h : w.ownsRow B t 1 (.slice (some ⟨g, 0, none⟩) k k) k xs) : w.heap[g]? = some (.cells xs.toArray t (0, 0)) := by
  rcases h.2 with ⟨hv, _⟩ | ⟨g', cap, cur, hv, _, hh, h1, h2, h3, h4⟩
  · cases hv
  · cases hv
    rw [hh, ← h4, List.take_of_length_le (by rw [Array.length_toList]; omega)]
theorem own_heap {w : World} {base g n : Nat} {xs : List Int} (h : w.heap[g]? = some (.cells (xs.map (Value.int .u64)).toArray 22 (0, 0))) (hl : xs.length = n) (hb : base ≤ g) (hm : n ≤ maxLen) : OwnAt w base g n n xs :=
  ⟨by rw [List.length_map, hl, Nat.mul_one], .inr ⟨g, n, _, rfl, hb, h, Nat.le_refl _, hm, by simp [hl], by rw [Nat.mul_one, List.take_of_length_le (by simp [hl])]⟩⟩
/-- One point put last instead of first: the same polynomial. -/
theorem thru_last {p : Int} (h : GoodI p) {ps : List (Int × Int)} {q : Int × Int} (hn : (px (q :: ps)).Nodup) (hx : El p (px (q :: ps))) (hy : El p (py (q :: ps))) : thru p (ps ++ [q]) = thru p (q :: ps) := by
  have hpx : px (ps ++ [q]) = px ps ++ [q.1] := by unfold px; rw [List.map_append]; rfl
  have hpy : py (ps ++ [q]) = py ps ++ [q.2] := by unfold py; rw [List.map_append]; rfl
  have hcx : px (q :: ps) = q.1 :: px ps := rfl
  have hcy : py (q :: ps) = q.2 :: py ps := rfl
  have hn2 : (px (ps ++ [q])).Nodup := by
    rw [hpx]
    have := List.nodup_cons.1 (hcx ▸ hn)
    exact List.nodup_append.2 ⟨this.2, by simp, fun a ha b hb e => by
      have hb' : b = q.1 := by simpa using hb
      subst e hb'
      exact this.1 ha⟩
  have mx : ∀ z, z ∈ px (ps ++ [q]) → z ∈ px (q :: ps) := fun z hz => by
    rw [hpx] at hz; rw [hcx]
    rcases List.mem_append.1 hz with hz | hz
    · exact List.mem_cons_of_mem _ hz
    · rw [List.mem_singleton.1 hz]; exact List.mem_cons_self ..
  have my : ∀ z, z ∈ py (ps ++ [q]) → z ∈ py (q :: ps) := fun z hz => by
    rw [hpy] at hz; rw [hcy]
    rcases List.mem_append.1 hz with hz | hz
    · exact List.mem_cons_of_mem _ hz
    · rw [List.mem_singleton.1 hz]; exact List.mem_cons_self ..
  have hI := thru_itp h hn2 (fun z hz => hx z (mx z hz)) (fun z hz => hy z (my z hz))
  refine Itp.unique h hn hx ?_ (thru_itp h hn hx hy)
  refine ⟨hI.ft, hI.fe, by have := hI.fl; rw [hpx, List.length_append] at this; rw [hcx, List.length_cons]; simpa using this, fun i hi => ?_⟩
  rw [hcx, List.length_cons, px_len] at hi
  cases i with
  | zero =>
    have := hI.at_ ps.length (by rw [hpx, List.length_append, px_len]; simp)
    rw [hpx, hpy] at this
    have e1 : co (px ps ++ [q.1]) ps.length = q.1 := co_at (by rw [← px_len, List.getElem?_concat_length])
    have e2 : co (py ps ++ [q.2]) ps.length = q.2 := co_at (by rw [← py_len, List.getElem?_concat_length])
    rw [e1, e2] at this
    exact this
  | succ i =>
    have := hI.at_ i (by rw [hpx, List.length_append, px_len]; simp; omega)
    rw [hpx, hpy] at this
    have e1 : co (px ps ++ [q.1]) i = co (px ps) i := by unfold co; rw [List.getElem?_append_left (by rw [px_len]; omega)]
    have e2 : co (py ps ++ [q.2]) i = co (py ps) i := by unfold co; rw [List.getElem?_append_left (by rw [py_len]; omega)]
    rw [e1, e2] at this
    exact this

theorem fit_bad1 (p s : Int) (A : Option Addr) (c : Nat) (t : Int) (ps : List (Int × Int)) (ht : t < ps.length) (w : World) :
    Calls Try.prog 21 #[.int .u64 p, .int .i64 t, .slice A ps.length c, .int .u64 s] w fun e w' => e = .returned (.tuple #[.slice none 0 0, .int .i64 1]) ∧ Below w.heap.size w w' := by
  go_enter Try.func21, Try.ntmps21
  go_wp2_with fail
  go_ret2
  exact ⟨rfl, Below.refl _ _⟩
theorem fit_bad2 (p s : Int) (A : Option Addr) (c t : Nat) (ps : List (Int × Int)) (hf : Few ps) (hl : ps.length ≤ t) (ht : t ≤ 30) (hp : 31 ≤ p) (hs : ¬ Shr ps) (w : World) (h : Pt w A c ps) :
    Calls Try.prog 21 #[.int .u64 p, .int .i64 t, .slice A ps.length c, .int .u64 s] w fun e w' => e = .returned (.tuple #[.slice none 0 0, .int .i64 1]) ∧ Below w.heap.size w w' := by
  have hsh := shares_are A c ps hf w h
  rw [decide_eq_false hs] at hsh
  have h1 : ¬ (t : Int) < ps.length := by omega
  have h2 : ¬ p ≤ (t : Int) := by omega
  have wt : IntKind.u64.wrap (t : Int) = (t : Int) := IntWalk.u64_in _ (by omega)
  clear hf
  go_enter Try.func21, Try.ntmps21
  go_wp2_with fail
  refine hsh.mono ?_
  rintro e w1 ⟨rfl, b1⟩
  go_wp2_with fail
  go_ret2
  exact ⟨rfl, b1⟩

set_option maxHeartbeats 4000000 in
theorem fit_any (p s : Int) (hp : OkP p) (hs : 0 ≤ s ∧ s < p) (A : Option Addr) (c t : Nat) (ps : List (Int × Int)) (hx : El p (px ps)) (hy : El p (py ps)) (hf : Few ps) (hl : ps.length ≤ t) (ht : t ≤ 30) (hsh : Shr ps) (w : World) (h : Pt w A c ps) :
    Calls Try.prog 21 #[.int .u64 p, .int .i64 t, .slice A ps.length c, .int .u64 s] w fun e w' => ∃ g, e = .returned (.tuple #[.slice (some ⟨g, 0, none⟩) (t + 1) (t + 1), .int .i64 0]) ∧ OwnAt w' w.heap.size g (t + 1) (t + 1) (fitS p ps t s) ∧ Below w.heap.size w w' := by
  obtain ⟨i0, hi, hz0, hz1, hz2⟩ := info_parts info_pt
  obtain ⟨i1, hi1, hy0, hy1, hy2⟩ := info_parts info_u64
  have hbd := hp.bd
  have htp : (t : Int) < p := by omega
  have hare := shares_are A c ps hf w h
  rw [decide_eq_true hsh] at hare
  have hcm := fun W hW => completed_any A c t ps (fun x hxx => by have := hx x hxx; omega) hl (by omega) W hW
  have hn := fitL_nodup hsh.nodup hsh.zero t s
  have hxF := fitL_x hx hl htp s
  have hyF := fitL_y (p := p) (by omega) hy t hs
  have hI := fit_itp hp.good hsh.nodup hsh.zero hx hy hl htp hs
  have hlL := fitL_len hl s
  have hth := thru_last hp.good (ps := ps ++ zp (spare (px ps) (t - ps.length))) (q := (0, s)) hn hxF hyF
  obtain ⟨L, hL⟩ : ∃ L, L = ps ++ zp (spare (px ps) (t - ps.length)) ++ [((0 : Int), s)] := ⟨_, rfl⟩
  have hLl : L.length = t + 1 := by rw [hL, List.length_append, ← hlL, List.length_singleton]; unfold fitL; rw [List.length_cons]; rfl
  have hLx : px L = px (ps ++ zp (spare (px ps) (t - ps.length))) ++ [0] := by rw [hL]; unfold px; rw [List.map_append]; rfl
  have hLy : py L = py (ps ++ zp (spare (px ps) (t - ps.length))) ++ [s] := by rw [hL]; unfold py; rw [List.map_append]; rfl
  have hfx : px (fitL ps t s) = 0 :: px (ps ++ zp (spare (px ps) (t - ps.length))) := rfl
  have hfy : py (fitL ps t s) = s :: py (ps ++ zp (spare (px ps) (t - ps.length))) := rfl
  have hLn : (px L).Nodup := by
    rw [hLx]
    have := List.nodup_cons.1 (hfx ▸ hn)
    exact List.nodup_append.2 ⟨this.2, by simp, fun a ha b hb e => by
      have hb' : b = 0 := by simpa using hb
      subst e hb'
      exact this.1 ha⟩
  have hLX : El p (px L) := fun z hz => by
    rw [hLx] at hz
    refine hxF z ?_
    rw [hfx]
    rcases List.mem_append.1 hz with hz | hz
    · exact List.mem_cons_of_mem _ hz
    · rw [List.mem_singleton.1 hz]; exact List.mem_cons_self ..
  have hLY : El p (py L) := fun z hz => by
    rw [hLy] at hz
    refine hyF z ?_
    rw [hfy]
    rcases List.mem_append.1 hz with hz | hz
    · exact List.mem_cons_of_mem _ hz
    · rw [List.mem_singleton.1 hz]; exact List.mem_cons_self ..
  have hpol := fun A c W (hW : Pt W A c L) => pol_any p hp A c L hLX hLY (by omega) W hW
  rw [hLl] at hpol
  obtain ⟨F, hF⟩ : ∃ F, F = thru p (fitL ps t s) := ⟨_, rfl⟩
  have hthF : thru p L = F := by rw [hL, hF]; exact hth
  have hFl : F.length ≤ t + 1 := by rw [hF, ← hlL, ← px_len]; exact hI.fl
  have HFF : Hid (fitS p ps t s = padN F (t + 1)) := Lib.hid (by rw [hF]; rfl)
  have HTH := Lib.hid hthF
  have HLN := Lib.hid hLn
  have HLL := Lib.hid hLl
  have hLc : Hid (pcells L = pcells (ps ++ zp (spare (px ps) (t - ps.length))) ++ [.int .u64 0, .int .u64 s]) := Lib.hid (by rw [hL, pcells_snoc])
  have h1 : ¬ (t : Int) < ps.length := by omega
  have h2 : ¬ p ≤ (t : Int) := by omega
  have wt : IntKind.u64.wrap (t : Int) = (t : Int) := IntWalk.u64_in _ (by omega)
  have wt1 : IntKind.i64.wrap ((t : Int) + 1) = (t : Int) + 1 := IntWalk.i64_in _ (by omega)
  have hti : ((t : Int) + 1) = ((t + 1 : Nat) : Int) := by omega
  have HTI := Lib.hid hti
  have hb8 : i1.bytes * (t + 1) ≤ 281474976710656 := by rw [hy2]; omega
  have hB8 := Lib.hid hb8
  clear hf hn hxF hyF hI hlL hth hLx hLy hfx hfy hLn hthF hF hL hLl hb8 hti
  generalize ps ++ zp (spare (px ps) (t - ps.length)) = G at *
  go_enter Try.func21, Try.ntmps21
  go_wp2_with fail
  refine hare.mono ?_
  rintro e w1 ⟨rfl, b1⟩
  go_wp2_with fail
  refine (hcm w1 (h.next b1)).mono ?_
  rintro e w2 ⟨v, rfl, hrow, b2⟩
  have hB2 := b1.trans (b2.mono b1.size)
  have hro := (own_base hrow b1.size).alloc (.cells #[.int .u64 0, .int .u64 s] 34)
  have hBb := bnew hB2 (.cells #[.int .u64 0, .int .u64 s] 34) (Nat.le_refl _)
  have hlo := fun k e => World.ownsRow.lt hrow k e
  have HLO := Lib.hid hlo
  obtain ⟨A2, c2, rfl⟩ := row_form22 hrow
  clear hrow hcm hare hlo h
  have hb1 := b1.size
  go_wp2_with (at_builtin; refine wpList_append_own _ rfl _ _ 31 rfl w.heap.size 34 i0 _ 2 16 Try.underlying31 hi hz0 hz1 hz2 rfl (by decide) _ _ _ rfl hro ⟨w2.heap.size, 0, none⟩ 1 1 [.int .u64 0, .int .u64 s] rfl rfl (World.news_of_block (cs := #[.int .u64 0, .int .u64 s]) (t := 34) (fr := (0, 0)) (World.alloc_heap_new w2 _)) (by simp [Value.oneCell']) (by simp only [maxLen]; omega) (by omega) (by have := hB2.size; simp; omega) ?_; intro v' w3 hown' hgrow _)
  have hB3 := hBb.grown hgrow hBb.size (fun k e => by have := (HLO.out k e).1; omega)
  rw [← hLc.out] at hown'
  have hown2 : w3.ownsRow w.heap.size 34 2 v' L.length (pcells L) := by rw [HLL.out]; exact hown'
  obtain ⟨A3, c3, rfl, hP3⟩ := pown_form hown2
  rw [HLL.out]
  clear hown' hown2 hgrow hro hBb
  refine (hpol A3 c3 w3 hP3).mono ?_
  rintro e w4 (⟨_, A4, c4, rfl, hs4, b4⟩ | ⟨hno, _, _⟩)
  case inr => exact absurd HLN.out hno
  rw [HTH.out] at hs4 ⊢
  have hB4 := hB3.trans (b4.mono hB3.size)
  have hsz4 := hB4.size
  obtain ⟨X, hX⟩ : ∃ X, X = F.map (Value.int .u64) := ⟨_, rfl⟩
  have hXl : X.length = F.length := by rw [hX, List.length_map]
  have hXn : X.length = Nat.min F.length (t + 1) := by rw [hXl]; exact (Nat.min_eq_left hFl).symm
  have HX := Lib.hid hX
  have HXL := Lib.hid hXl
  have HXN := Lib.hid hXn
  have hone : ∀ v ∈ X, v.oneCell' = true := by rw [hX]; exact one_cells F
  clear hX hXl hXn hpol hP3 hB3 b4
  go_wp2_with (first | (at_make; refine wpList_make_full _ rfl _ _ 23 rfl w4.heap.size 22 i1 (.int .u64 0) 1 Try.underlying23 hi1 hy0 hy1 .i64 .i64 _ _ (t + 1) rfl rfl (by omega) (by omega) hB8.out (by simp only [maxLen]; omega) (Nat.le_refl _) ?_; intro w5 hown5 hgrow5; simp only [Value.cells, toList_madeCells_one, Nat.mul_one] at hown5; have hr5 := row_of_own hown5; have hb5 : Below w4.heap.size w4 w5 := (Below.refl _ w4).grown hgrow5 (Nat.le_refl _) (fun k e => by cases e); have HR5 := Lib.hid hr5; have hs5 := Lib.hid (hs4.next hb5); have hB5 := hB4.trans (hb5.mono hsz4); clear hown5 hgrow5 hr5 hs4) | (with_reducible refine wpList_copy_splice rfl (.tmp 48) (.tmp 49) 23 23 rfl 22 Try.underlying23 size_words _ _ (t + 1) (t + 1) F.length c4 rfl rfl w4.heap.size 0 (List.replicate (t + 1) (.int .u64 0)) 22 HR5.out X HXN.out ?c1 (by rw [HXL.out, List.length_replicate]; omega) hone w.heap.size w hB5 hsz4 ?_; rotate_left; intro w6 hG6 hB6))
  case c1 =>
    intro hpos
    obtain ⟨b1, o1, y, e1, _, _, _⟩ := hs5.out.at_ (k := 0) (by rw [← HXL.out]; exact hpos)
    subst e1
    refine ⟨⟨b1, o1, none⟩, rfl, fun j v hv => ?_⟩
    rw [HX.out, List.getElem?_map] at hv
    obtain ⟨y, hy, rfl⟩ := Option.map_eq_some_iff.1 hv
    obtain ⟨b2, o2, e2, _, hc2⟩ := hs5.out.rd _ rfl (fun e => by rw [e] at hy; simp at hy)
    cases e2
    rw [Addr.add_lit]
    exact hc2 j y hy
  go_ret2
  refine ⟨w4.heap.size, rfl, ?_, hB6⟩
  have hG := hG6.out
  have e3 : splice (List.replicate (t + 1) (Value.int .u64 0)) 0 X = (fitS p ps t s).map (Value.int .u64) := by
    rw [HFF.out, HX.out]
    unfold padN
    simp [splice]
  rw [e3] at hG
  exact own_heap hG (by rw [HFF.out]; exact padN_len hFl) hsz4 (by simp only [maxLen]; omega)
end Go.Proofs.Ytddbdjhgmeeakaa
