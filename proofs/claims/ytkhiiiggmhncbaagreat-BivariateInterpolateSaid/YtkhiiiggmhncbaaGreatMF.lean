/- Texts joined: VIter, VSort, VPdq, VDist. Each says its own conditions. -/
import Derived.Test.YtkhiiiggmhncbaaGreatMB
import Derived.Maps.AppendAt
import Derived.Test.YtkhiiiggmhncbaaGreatMD
import Derived.Test.YtkhiiiggmhncbaaGreatMC
import Derived.BigRegion
import Derived.Lib.SliceRun
/- slices.Values over words, slices.AppendSeq and slices.Collect of it: the same words in memory of the call's own. Conditions: at most 1000 words. -/
namespace Go.Proofs.YtkhiiiggmhncbaaGreat
set_option maxRecDepth 100000
open Go.RowKit Go.Shelf PolyMath FieldMath
attribute [local go_sem] Oper.semAt_some

theorem vals_in (n : Nat) (A : Option Addr) (k c : Nat) (w : World) :
    CallsIn Fence.wide n Tryz.prog 37 #[.slice A k c] w fun e w' =>
      e = .returned (.func (.func 62) #[] #[.pointer (some ⟨w.heap.size, 0, none⟩)]) ∧ w' = w.alloc (.cells #[.slice A k c] 23) := by
  refine callsIn_of_wp Tryz.func37 rfl trivial ?_ rfl
  simp only [Tryz.ntmps37, List.size_toArray, List.length_cons, List.length_nil, Nat.reduceAdd, Nat.reduceSub, Array.replicate_succ, Array.replicate_zero, List.push_toArray, List.append_toArray, List.nil_append, List.cons_append]
  gi_wp2
  go_ret
  exact ⟨rfl, rfl⟩

set_option maxHeartbeats 2000000 in
theorem vals1_in (n : Nat) (hn : 1 ≤ n) (l Ba c : Nat) (A : Option Addr) (xs : List Int) (hN : xs.length ≤ 1000) (w0 : World) (h : Sl w0 A c xs)
    (J Jx : List Int → World → Prop)
    (hY : ∀ pre x W, J pre W → pre.length < xs.length → YieldAt Fence.wide (n - 1) Tryz.prog l #[.int .u64 x] W (YieldGoes J Jx (Below w0.heap.size) pre x W))
    (W : World) (hB : Below w0.heap.size w0 W) (ba : Boxed W Ba 23 (.slice A xs.length c)) (h0 : J [] W) :
    CallsIn Fence.wide n Tryz.prog 62 #[.func (.yield l) #[] #[], .pointer (some ⟨Ba, 0, none⟩)] W fun e W' => (∃ v, e = .returned v) ∧
      ((∃ ys : List Int, ys = xs ∧ J ys W') ∨ (∃ pre : List Int, True ∧ Jx pre W')) := by
  refine callsIn_of_wp Tryz.func62 rfl trivial ?_ rfl
  simp only [Tryz.ntmps62, List.size_toArray, List.length_cons, List.length_nil, Nat.reduceAdd, Nat.reduceSub, Array.replicate_succ, Array.replicate_zero, List.push_toArray, List.append_toArray, List.nil_append, List.cons_append]
  have hca := ba.cell
  gi_wp2
  gi_loopw [7] (fun i wr => ∃ k : Nat, k ≤ xs.length ∧ i = .int .i64 (k : Int) ∧ J (xs.take k) wr ∧ Below w0.heap.size w0 wr) (fun i _ => xs.length - (intOf i).toNat)
  case atStart => exact ⟨0, Nat.zero_le _, rfl, by simpa using h0, hB⟩
  case round =>
    obtain ⟨k, hk, rfl, hJs, hnx⟩ := hrel
    by_cases hlt : k < xs.length
    · obtain ⟨b, off, x, hA, _, hx, hcx⟩ := (h.next hnx).at_ hlt
      subst hA
      obtain ⟨fn, tmps, assign, body, hy, hR⟩ := hY (xs.take k) x wr hJs (by rw [List.length_take]; omega)
      have hT : Hid (xs.take k ++ [x] = xs.take (k + 1)) := Lib.hid (by rw [List.take_add_one, hx]; rfl)
      have hkN : (k : Int) < xs.length := by omega
      clear hx
      gi_wp2_with fail
      refine hR.mono ?_
      rintro e W3 ⟨go, rfl, h1, h2⟩
      cases go with
      | true =>
        obtain ⟨hJ3, hk3⟩ := h1 rfl
        clear h1 h2
        gi_wp2
        go_roundw
        case rel => exact ⟨k + 1, by omega, by simp, by rw [← hT.out]; exact hJ3, hnx.trans hk3⟩
        case measure => simp [intOf]; omega
      | false =>
        have hJx3 := h2 rfl
        clear h1 h2
        gi_wp2
        refine bodyPost_ret (results_none rfl _ _ _) rfl ?_
        exact ⟨⟨_, rfl⟩, .inr ⟨_, trivial, hJx3⟩⟩
    · obtain rfl : k = xs.length := by omega
      rw [List.take_length] at hJs
      gi_wp2
      go_end0
      exact ⟨⟨_, rfl⟩, .inl ⟨_, rfl, hJs⟩⟩

theorem vals_stops (n : Nat) (hn : 1 ≤ n) (Ba c : Nat) (A : Option Addr) (xs : List Int) (hN : xs.length ≤ 1000) (w0 : World) (h : Sl w0 A c xs) (w : World) (hB : Below w0.heap.size w0 w) (ba : Boxed w Ba 23 (.slice A xs.length c)) :
    SeqStopsK Fence.wide n Tryz.prog 62 #[.pointer (some ⟨Ba, 0, none⟩)] (fun x : Int => #[Value.int .u64 x]) (Below w0.heap.size)
      (fun ys => ys = xs) (fun _ => True) xs.length w := fun l J Jx W hW _ _ hY h0 => by
  refine vals1_in n hn l Ba c A xs hN w0 h J Jx (fun pre x X hj hl => (hY pre x X hj hl).mono ?_) W (hB.trans (hW.mono hB.size)) ((hW.block Ba ba.lt).trans ba) h0
  rintro e X' (⟨rfl, h1, h2⟩ | ⟨rfl, h1⟩)
  · exact ⟨true, rfl, fun _ => ⟨h1, h2⟩, fun h => absurd h (by decide)⟩
  · exact ⟨false, rfl, fun h => absurd h (by decide), fun _ => h1⟩

set_option maxHeartbeats 2000000 in
theorem apSeq_in (Ba c : Nat) (A : Option Addr) (xs : List Int) (hN : xs.length ≤ 1000) (w0 : World) (h : Sl w0 A c xs) (w : World) (hB0 : Below w0.heap.size w0 w) (ba : Boxed w Ba 23 (.slice A xs.length c)) :
    Calls Tryz.prog 76 #[.slice none 0 0, .func (.func 62) #[] #[.pointer (some ⟨Ba, 0, none⟩)]] w fun e w' =>
      ∃ v, e = .returned v ∧ w'.ownsRow w.heap.size 22 1 v xs.length (xs.map (Value.int .u64)) ∧ Below w.heap.size w w' := by
  obtain ⟨i0, hi, hz0, hz1, hz2⟩ := info_parts info_u64
  have hs0 := hB0.size
  refine (callsIn_wide (n := 3)).1 ?_
  refine callsIn_of_wp_marks Tryz.func76 rfl trivial ?_ rfl
  simp only [Tryz.ntmps76, List.size_toArray, List.length_cons, List.length_nil, Nat.reduceAdd, Nat.reduceSub, Array.replicate_succ, Array.replicate_zero, List.push_toArray, List.append_toArray, List.nil_append, List.cons_append]
  gi_wp2
  have bs := Boxed.new w 23 (.slice none 0 0)
  have hB1 : Below w.heap.size w (w.alloc (.cells #[.slice none 0 0] 23)) := (Below.refl _ w).alloc (Nat.le_refl _) _
  have hBa := ba.lt
  refine wpIn_rangeFunc_ownG rfl (by omega) (gf := 62) (lb := #[.pointer (some ⟨Ba, 0, none⟩)]) rfl trivial (enters_of Tryz.func62 (by kernel_rfl) rfl)
    (vals_stops (3 - 1) (by omega) Ba c A xs hN w0 h (w.alloc (.cells #[.slice none 0 0] 23)) (hB0.trans (hB1.mono hs0)) (ba.alloc _)) (fun h k => h.trans k) (belowK_b (by simp; omega)) (Below.refl _ _) (fun _ => rfl)
    (fun pre W => (∃ v, Boxed W w.heap.size 23 v ∧ W.ownsRow w.heap.size 22 1 v pre.length (pre.map (Value.int .u64)) ∧ True) ∧ Below w.heap.size w W)
    (fun _ _ _ => False)
    (OwnFrom.and (Own.from (holdsRow_own w.heap.size w.heap.size 23 22 1 (fun pre : List Int => pre.length) (fun pre => pre.map (Value.int .u64)) (fun _ _ => True)) _) (ownFrom_below (Nat.le_refl _) (by simp)))
    (fun _ _ _ _ _ hs _ _ => hs)
    ⟨⟨_, bs, World.ownsRow_nil _ _ _ _, trivial⟩, hB1⟩
    (fun y => { tmps := #[.slice none 0 0, .func (.func 62) #[] #[.pointer (some ⟨Ba, 0, none⟩)], .pointer (some ⟨w.heap.size, 0, none⟩), undef, .slice none 0 0, .int .u64 y, .func (.func 62) #[] #[.pointer (some ⟨Ba, 0, none⟩)], .int .u64 y, undef, undef, undef, undef, undef], defers := [] }) ?assign ?body ?done ?stop
  case assign =>
    intro l x W K hK
    gi_wp2
    exact hK
  case body =>
    rintro l pre x W ⟨⟨v, hv, hrow, -⟩, hB⟩ hlt
    have hc0 := hv.cell
    have hbs := hB.size
    gi_wp2_with (gi_at_builtin; refine wpListIn_append_own _ rfl _ _ 23 rfl w.heap.size 22 i0 (.int .u64 0) 1 8 Tryz.underlying23 hi hz0 hz1 hz2 rfl (by decide) _ _ _ rfl (hrow.alloc _) ⟨W.heap.size, 0, none⟩ 1 1 [.int .u64 x] rfl rfl (cell_one_new _ _ _) (by simp [Value.oneCell']) (by simp only [maxLen]; omega) (by omega) (by simp; omega) ?_; intro v' w1 hown' hgrow _; obtain ⟨g', cap', rfl⟩ := ownsRow_succ hown'; obtain ⟨hv1, hv2, hr2, hk2, hb2⟩ := hv.appended (by decide) hrow hB.size (Nat.le_refl _) hown' hgrow; have hc1 := hv1.cell; have hf1 := hv1.frozen)
    exact ⟨hk2.from _, hb2.mono hs0, ⟨_, hv2, by simpa using hr2, trivial⟩, hB.trans hb2⟩
  case done =>
    rintro D ys W hD rfl ⟨⟨v, hv, hrow, -⟩, hB⟩ hK
    have hc := hv.cell
    gi_wp2
    refine ⟨by simp, .inl ⟨_, _, rfl, run_takeDeferred hK, ?_⟩⟩
    exact ⟨_, results_tmp rfl _ _ _, v, rfl, ownsRow_putObj hrow _ hK rfl, hB.trans (belowK_b (w := w) (Nat.le_refl _) W D _ _ (by simp at hD; omega) hK rfl rfl)⟩
  case stop =>
    rintro D c pre W _ _ h _
    exact h.elim

theorem collect_any (Ba c : Nat) (A : Option Addr) (xs : List Int) (hN : xs.length ≤ 1000) (w0 : World) (h : Sl w0 A c xs) (w : World) (hB0 : Below w0.heap.size w0 w) (ba : Boxed w Ba 23 (.slice A xs.length c)) :
    Calls Tryz.prog 60 #[.func (.func 62) #[] #[.pointer (some ⟨Ba, 0, none⟩)]] w fun e w' =>
      ∃ v, e = .returned v ∧ w'.ownsRow w.heap.size 22 1 v xs.length (xs.map (Value.int .u64)) ∧ Below w.heap.size w w' := by
  have hap := apSeq_in Ba c A xs hN w0 h w hB0 ba
  go_enter Tryz.func60, Tryz.ntmps60
  go_wp2_with (go_at_call 76; refine hap.mono ?_; rintro e w1 ⟨v, rfl, hown, hB⟩)
  go_ret
  exact ⟨v, rfl, hown, hB⟩
theorem values_any (A : Option Addr) (k c : Nat) (w : World) :
    Calls Tryz.prog 37 #[.slice A k c] w fun e w' => e = .returned (.func (.func 62) #[] #[.pointer (some ⟨w.heap.size, 0, none⟩)]) ∧ w' = w.alloc (.cells #[.slice A k c] 23) :=
  (callsIn_wide (n := 3)).1 (vals_in 3 A k c w)
end Go.Proofs.YtkhiiiggmhncbaaGreat

/- cmp.Less and slices.insertionSortOrdered at words: the words of a slice of the call's own, in ascending order. Conditions: at most 1000 words. -/
namespace Go.Proofs.YtkhiiiggmhncbaaGreat
set_option maxRecDepth 100000
open Go.RowKit PolyMath FieldMath

theorem nan_any (a : Int) (w : World) : Calls Tryz.prog 110 #[.int .u64 a] w fun e w' => e = .returned (.bool false) ∧ w' = w := by
  go_enter Tryz.func110, Tryz.ntmps110
  go_wp2
  go_ret
  simp
theorem less_any (a b : Int) (r : Bool) (hr : decide (a < b) = r) (w : World) : Calls Tryz.prog 95 #[.int .u64 a, .int .u64 b] w fun e w' => e = .returned (.bool r) ∧ w' = w := by
  subst hr
  have hn := fun x => nan_any x w
  go_enter Tryz.func95, Tryz.ntmps95
  go_wp2_with (go_at_call 110; refine (hn _).mono ?_; rintro e w' ⟨rfl, rfl⟩)
  go_ret
  simp

theorem less_q (a b : Int) (r : Bool) (hr : decide (a < b) = r) (w : World) (n : Nat) : Calls Tryz.prog 95 #[.int .u64 a, .int .u64 b] (w.drewN n) fun e w' => e = .returned (.bool r) ∧ ∃ m, w' = w.drewN m :=
  (less_any a b r hr (w.drewN n)).mono fun _ _ ⟨h1, h2⟩ => ⟨h1, n, h2⟩

/-- Ascending up to place i; ascending up to place i but for what stands at j. -/
def SortTo (ys : List Int) (i : Nat) : Prop := ∀ a b, a < b → b < i → co ys a ≤ co ys b
def Hole (ys : List Int) (i j : Nat) : Prop := ∀ a b, a < b → b ≤ i → b ≠ j → co ys a ≤ co ys b
/-- What stands at j and ahead of it exchanged. -/
def swp (ys : List Int) (j : Nat) : List Int := (ys.set j (co ys (j - 1))).set (j - 1) (co ys j)
theorem swp_len (ys : List Int) (j : Nat) : (swp ys j).length = ys.length := by unfold swp; simp
theorem swp_perm {ys : List Int} {j : Nat} (h : j < ys.length) : (swp ys j).Perm ys := by
  unfold swp
  rw [co_get (i := j - 1) (by omega), co_get h]
  exact List.set_set_perm h (by omega)
theorem swp_co {ys : List Int} {j : Nat} (h : j < ys.length) (h0 : 0 < j) (n : Nat) : co (swp ys j) n = if n = j then co ys (j - 1) else if n = j - 1 then co ys j else co ys n := by
  unfold swp
  rw [co_set _ _ _ (by rw [List.length_set]; omega), co_set _ _ _ h]
  split
  · rw [if_neg (by omega)]
  · rfl
theorem Hole.start {ys : List Int} {i : Nat} (h : SortTo ys i) : Hole ys i i := fun a b h1 h2 h3 => h a b h1 (by omega)
theorem Hole.step {ys : List Int} {i j : Nat} (h : Hole ys i j) (hj : j < ys.length) (h0 : 0 < j) (hji : j ≤ i) (hlt : co ys j < co ys (j - 1)) : Hole (swp ys j) i (j - 1) := fun a b h1 h2 h3 => by
  rw [swp_co hj h0, swp_co hj h0]
  have g1 := fun a b h1 h2 h3 => h a b h1 h2 h3
  by_cases eb : b = j
  · subst eb
    rw [if_neg (by omega), if_pos rfl]
    by_cases ea : a = b - 1
    · rw [if_pos ea]; omega
    · rw [if_neg ea]; exact g1 a (b - 1) (by omega) (by omega) (by omega)
  · rw [if_neg eb, if_neg h3]
    by_cases ea : a = j
    · rw [if_pos ea]; exact g1 (j - 1) b (by omega) h2 eb
    · rw [if_neg ea]
      by_cases ea' : a = j - 1
      · rw [if_pos ea']; exact g1 j b (by omega) h2 eb
      · rw [if_neg ea']; exact g1 a b h1 h2 eb
theorem Hole.stop {ys : List Int} {i j : Nat} (h : Hole ys i j) (hji : j ≤ i) (hs : j = 0 ∨ co ys (j - 1) ≤ co ys j) : SortTo ys (i + 1) := fun a b h1 h2 => by
  by_cases eb : b = j
  · subst eb
    rcases hs with hs | hs
    · omega
    · by_cases ea : a = b - 1
      · subst ea; exact hs
      · exact Int.le_trans (h a (b - 1) (by omega) (by omega) (by omega)) hs
  · exact h a b h1 (by omega) eb

set_option maxHeartbeats 4000000 in
theorem isort_any (base g n cap : Nat) (xs : List Int) (hn : n ≤ 1000) (w : World) (h : OwnAt w base g n cap xs) :
    Calls Tryz.prog 89 #[.slice (some ⟨g, 0, none⟩) n cap, .int .i64 0, .int .i64 n] w fun e w' => (∃ v, e = .returned v) ∧ ∃ zs : List Int, zs.Perm xs ∧ SortTo zs n ∧ OwnAt w' base g n cap zs ∧ w.grownBy w' (some g) := by
  go_enter Tryz.func89, Tryz.ntmps89
  go_wp2
  go_loopw [6] (fun i wr => ∃ (k : Nat) (ys : List Int), 1 ≤ k ∧ k ≤ max 1 n ∧ i = .int .i64 k ∧ ys.Perm xs ∧ Hid (SortTo ys k) ∧ OwnAt wr base g n cap ys ∧ w.grownBy wr (some g)) (fun i _ => max 1 n - (intOf i).toNat)
  case atStart => exact ⟨1, xs, Nat.le_refl _, by omega, rfl, List.Perm.refl _, Lib.hid (fun a b h1 h2 => by omega), h, World.grownBy.refl _ _⟩
  case round =>
    obtain ⟨k, ys, hk1, hk, rfl, hP, hS, hO, hG⟩ := hrel
    by_cases hlt : k < n
    · have hkn : (k : Int) < n := by omega
      rename World => W0
      go_wp2
      go_loopw [7] (fun i wr => ∃ (j : Nat) (ys : List Int), j ≤ k ∧ i = .int .i64 j ∧ ys.Perm xs ∧ Hid (Hole ys k j) ∧ OwnAt wr base g n cap ys ∧ w.grownBy wr (some g)) (fun i _ => (intOf i).toNat)
      case atStart => exact ⟨k, ys, Nat.le_refl _, rfl, hP, Lib.hid (Hole.start hS.out), hO, hG⟩
      case round =>
        clear hP hS hO hG
        obtain ⟨j, ys, hj, rfl, hP, hH, hO, hG⟩ := hrel
        have hlen := hO.len
        have hL := Lib.hid hlen
        clear hlen
        by_cases h0 : j = 0
        · subst h0
          have hS2 : Hid (SortTo ys (k + 1)) := Lib.hid (hH.out.stop (by omega) (.inl rfl))
          have hO2 := fun m => hO.next (below_drewN (Below.refl _ _) m)
          have hG2 := fun m => grown_trans hG (grown_of (below_drewN (Below.refl _ wr) m) (some g))
          go_wp2
          go_quiet (fail)
          go_wp2
          go_roundw
          case rel => exact ⟨k + 1, ys, by omega, by omega, by simp, hP, hS2, hO2 _, hG2 _⟩
          case measure => simp [intOf]; omega
        · have hjn : j < ys.length := by rw [hL.out]; omega
          have hx : ys[j]? = some (co ys j) := by rw [co_get hjn]; exact List.getElem?_eq_getElem hjn
          have hy : ys[j - 1]? = some (co ys (j - 1)) := by rw [co_get (by omega)]; exact List.getElem?_eq_getElem (by omega)
          have hcx := fun m => (hO.next (below_drewN (Below.refl _ _) m)).cell hx
          have hcy := fun m => (hO.next (below_drewN (Below.refl _ _) m)).cell hy
          have hjp : (0 : Int) < j := by omega
          have hjd : decide (0 < j) = true := decide_eq_true (by omega)
          have hjI : (j : Int) < n := by omega
          have hj1 : (j : Int) - 1 < n := by omega
          have hj0 : (0 : Int) ≤ (j : Int) - 1 := by omega
          have hjt : ((j : Int) - 1).toNat = j - 1 := by omega
          have wr1 : IntKind.i64.wrap ((j : Int) - 1) = (j : Int) - 1 := IntWalk.i64_in _ (by omega)
          by_cases e : co ys j < co ys (j - 1)
          · have hH2 := Lib.hid (hH.out.step hjn (by omega) hj e)
            have hP2 : (swp ys j).Perm xs := (swp_perm hjn).trans hP
            have hls := less_q (co ys j) (co ys (j - 1)) true (decide_eq_true e) wr
            have hOH := Lib.hid hO
            have hSW : Hid (swp ys j = (ys.set j (co ys (j - 1))).set (j - 1) (co ys j)) := Lib.hid rfl
            have hgl := hO.lt
            generalize hQ : swp ys j = qs at *
            clear hQ hO hx hy e
            generalize co ys j = x at *
            generalize co ys (j - 1) = y at *
            go_wp2
            go_quiet (exact hls _)
            go_wp2
            obtain ⟨W1, hW1⟩ : ∃ W1, W1 = wr.drewN nq := ⟨_, rfl⟩
            have hc1 := hcx nq
            have hc2 := hcy nq
            rw [← hW1] at hc1 hc2 ⊢
            have hO1 : OwnAt W1 base g n cap ys := by rw [hW1]; exact hOH.out.next (below_drewN (Below.refl _ _) nq)
            have hG1 : w.grownBy W1 (some g) := by rw [hW1]; exact grown_trans hG (grown_of (below_drewN (Below.refl _ wr) nq) (some g))
            have hf1 := hO1.frozen j
            have hf2 := hO1.frozen (j - 1)
            have HO1 := Lib.hid hO1
            clear hcx hcy hW1 hO1 hls
            have hjc := Lib.hid (show (j : Int) - 1 = ((j - 1 : Nat) : Int) by omega)
            go_region
            obtain ⟨w4, hw4⟩ : ∃ w4, w4 = ((W1.setCell ⟨g, j, none⟩ (.int .u64 y)).setCell ⟨g, j - 1, none⟩ (.int .u64 x)).drew := ⟨_, rfl⟩
            rw [← hw4]
            have hO4 : OwnAt w4 base g n cap qs := by rw [hw4, hSW.out]; exact ((HO1.out.put j y).put (j - 1) x).drew
            have hG4 : w.grownBy w4 (some g) := by rw [hw4]; exact grown_drew (grown_trans hG1 (grown_trans (HO1.out.grow j y) ((HO1.out.put j y).grow (j - 1) x)))
            clear hw4
            go_wp2
            go_roundw
            case rel => exact ⟨j - 1, qs, by omega, by rw [hjc.out], hP2, hH2, hO4, hG4⟩
            case measure => simp [intOf]; omega
          · have hS2 : Hid (SortTo ys (k + 1)) := Lib.hid (hH.out.stop (by omega) (.inr (by omega)))
            have hls := less_q (co ys j) (co ys (j - 1)) false (decide_eq_false e) wr
            have hO2 := fun m => hO.next (below_drewN (Below.refl _ _) m)
            have hG2 := fun m => grown_trans hG (grown_of (below_drewN (Below.refl _ wr) m) (some g))
            generalize co ys j = x at *
            generalize co ys (j - 1) = y at *
            go_wp2
            go_quiet (exact hls _)
            go_wp2
            go_roundw
            case rel => exact ⟨k + 1, ys, by omega, by omega, by simp, hP, hS2, hO2 _, hG2 _⟩
            case measure => simp [intOf]; omega
    · have hS2 : SortTo ys n := fun a b h1 h2 => hS.out a b h1 (by omega)
      have hS3 := Lib.hid hS2
      clear hS2
      go_wp2
      go_end0
      exact ⟨⟨_, rfl⟩, ys, hP, hS3.out, hO, hG⟩
end Go.Proofs.YtkhiiiggmhncbaaGreat

/- slices.Sort and slices.Sorted at words, of at most twelve words, or of thirteen that ascend already. Conditions: as said. -/
namespace Go.Proofs.YtkhiiiggmhncbaaGreat
set_option maxRecDepth 100000
open Go.RowKit PolyMath FieldMath

theorem len_small (n : Nat) (h1 : 1 ≤ n) (h2 : n ≤ 13) (w : World) : Calls Tryz.prog 58 #[.int .u64 (n : Int)] w fun e w' => ∃ L : Int, 0 < L ∧ e = .returned (.int .i64 L) ∧ w' = w := by
  rcases (show n = 1 ∨ n = 2 ∨ n = 3 ∨ n = 4 ∨ n = 5 ∨ n = 6 ∨ n = 7 ∨ n = 8 ∨ n = 9 ∨ n = 10 ∨ n = 11 ∨ n = 12 ∨ n = 13 by omega) with rfl | rfl | rfl | rfl | rfl | rfl | rfl | rfl | rfl | rfl | rfl | rfl | rfl
  all_goals
    go_enter Tryz.func58, Tryz.ntmps58
    go_wp2
    go_ret
    exact ⟨_, by decide +kernel, rfl, rfl⟩
theorem bitLen_small (n : Nat) (h1 : 1 ≤ n) (h2 : n ≤ 13) (w : World) : Calls Tryz.prog 78 #[.int .u64 (n : Int)] w fun e w' => ∃ L : Int, 0 < L ∧ e = .returned (.int .i64 L) ∧ w' = w := by
  have hl := len_small n h1 h2 w
  go_enter Tryz.func78, Tryz.ntmps78
  go_wp2_with (go_at_call 58; refine hl.mono ?_; rintro e w' ⟨L, hL, rfl, rfl⟩)
  go_ret
  exact ⟨L, hL, rfl, rfl⟩

/-- What the sort leaves. -/
def SortE (base g n cap : Nat) (xs : List Int) (w : World) (e : Ending) (w' : World) : Prop :=
  (∃ v, e = .returned v) ∧ ∃ zs : List Int, zs.Perm xs ∧ SortTo zs n ∧ OwnAt w' base g n cap zs ∧ w.grownBy w' (some g)

set_option maxHeartbeats 2000000 in
theorem pdq_small (base g n cap : Nat) (xs : List Int) (L : Int) (hn : n ≤ 12) (w : World) (h : OwnAt w base g n cap xs) :
    Calls Tryz.prog 77 #[.slice (some ⟨g, 0, none⟩) n cap, .int .i64 0, .int .i64 n, .int .i64 L] w fun e w' => SortE base g n cap xs w e w' := by
  have hi := isort_any base g n cap xs (by omega) w h
  have hn2 : (n : Int) ≤ 12 := by omega
  go_enter Tryz.func77, Tryz.ntmps77
  go_wp2
  go_loopw [1, 2, 3, 8, 9] (fun a b l wb wp wr => a = .int .i64 0 ∧ b = .int .i64 n ∧ l = .int .i64 L ∧ wb = .bool true ∧ wp = .bool true ∧ wr = w) (fun _ _ _ _ _ _ => 0)
  case atStart => exact ⟨rfl, rfl, rfl, rfl, rfl, rfl⟩
  case round =>
    obtain ⟨rfl, rfl, rfl, rfl, rfl, rfl⟩ := hrel
    go_wp2_with (go_at_call 89; refine hi.mono ?_; rintro e w' ⟨⟨v, rfl⟩, hz⟩)
    refine bodyPost_ret (results_none rfl _ _ _) rfl ?_
    exact ⟨⟨_, rfl⟩, hz⟩

/-! ### Thirteen words that ascend -/
section
variable {base g cap : Nat} {xs : List Int}
theorem up_cell {w : World} {n : Nat} (h : OwnAt w base g n cap xs) {i : Nat} (hi : i < n) (m : Nat) : (w.drewN m).cell? ⟨g, i, none⟩ = some (.int .u64 (co xs i)) := by
  have hl := h.len
  exact (h.next (below_drewN (Below.refl _ _) m)).cell (by rw [co_get (by omega)]; exact List.getElem?_eq_getElem (by omega))

set_option maxHeartbeats 1000000 in
theorem order2_up (n i j : Nat) (hij : i < j) (hj : j < n) (hs : SortTo xs n) (q : Addr) (w : World) (h : OwnAt w base g n cap xs) :
    Calls Tryz.prog 111 #[.slice (some ⟨g, 0, none⟩) n cap, .int .i64 i, .int .i64 j, .pointer (some q)] w fun e w' => e = .returned (.tuple #[.int .i64 i, .int .i64 j]) ∧ Below w.heap.size w w' := by
  have hle := hs i j hij hj
  have hls := less_q (co xs j) (co xs i) false (decide_eq_false (by omega)) w
  have c1 := fun m => up_cell h (i := i) (by omega) m
  have c2 := fun m => up_cell h (i := j) (by omega) m
  have hi1 : (i : Int) < n := by omega
  have hj1 : (j : Int) < n := by omega
  have hB := fun m => below_drewN (Below.refl w.heap.size w) m
  generalize co xs i = x at *
  generalize co xs j = y at *
  clear hle
  go_enter Tryz.func111, Tryz.ntmps111
  go_wp2
  go_quiet (exact hls _)
  go_wp2
  go_ret2
  exact ⟨rfl, hB _⟩

set_option maxHeartbeats 1000000 in
theorem median_up (hs : SortTo xs 13) (q : Addr) (w : World) (h : OwnAt w base g 13 cap xs) :
    Calls Tryz.prog 109 #[.slice (some ⟨g, 0, none⟩) 13 cap, .int .i64 3, .int .i64 6, .int .i64 9, .pointer (some q)] w fun e w' => e = .returned (.int .i64 6) ∧ Below w.heap.size w w' := by
  have o1 := fun W (hO : OwnAt W base g 13 cap xs) => order2_up 13 3 6 (by omega) (by omega) hs q W hO
  have o2 := fun W (hO : OwnAt W base g 13 cap xs) => order2_up 13 6 9 (by omega) (by omega) hs q W hO
  go_enter Tryz.func109, Tryz.ntmps109
  go_wp2_with fail
  refine (o1 _ h).mono ?_; rintro e w1 ⟨rfl, b1⟩
  have h1 := h.next b1
  go_wp2_with fail
  refine (o2 _ h1).mono ?_; rintro e w2 ⟨rfl, b2⟩
  have h2 := h1.next b2
  go_wp2_with fail
  refine (o1 _ h2).mono ?_; rintro e w3 ⟨rfl, b3⟩
  have hB : Below w.heap.size w w3 := b1.trans ((b2.trans (b3.mono b2.size)).mono b1.size)
  go_wp2
  go_ret
  exact ⟨rfl, hB⟩

set_option maxHeartbeats 1000000 in
theorem pivot_up (hs : SortTo xs 13) (w : World) (h : OwnAt w base g 13 cap xs) :
    Calls Tryz.prog 92 #[.slice (some ⟨g, 0, none⟩) 13 cap, .int .i64 0, .int .i64 13] w fun e w' => e = .returned (.tuple #[.int .i64 6, .int .i64 1]) ∧ Below w.heap.size w w' := by
  have h1 := h.push (.cells #[.int .i64 0] 3)
  have hm := median_up hs ⟨w.heap.size, 0, none⟩ _ h1
  have hB1 : Below w.heap.size w (w.alloc (.cells #[.int .i64 0] 3)) := (Below.refl _ w).alloc (Nat.le_refl _) _
  have hb := Boxed.new w 3 (.int .i64 0)
  go_enter Tryz.func92, Tryz.ntmps92
  go_wp2_with fail
  refine hm.mono ?_
  rintro e w2 ⟨rfl, b2⟩
  have hb2 : Boxed w2 w.heap.size 3 (.int .i64 0) := (b2.block _ hb.lt).trans hb
  have hc := hb2.cell
  go_wp2
  go_ret2
  exact ⟨rfl, hB1.trans (b2.mono hB1.size)⟩

set_option maxHeartbeats 2000000 in
theorem pins_up (n : Nat) (hn : n ≤ 1000) (h2 : 2 ≤ n) (hs : SortTo xs n) (w : World) (h : OwnAt w base g n cap xs) :
    Calls Tryz.prog 94 #[.slice (some ⟨g, 0, none⟩) n cap, .int .i64 0, .int .i64 n] w fun e w' => e = .returned (.bool true) ∧ ∃ m, w' = w.drewN m := by
  go_enter Tryz.func94, Tryz.ntmps94
  go_wp2
  go_loopw [7, 8] (fun j i wr => j = .int .i64 1 ∧ i = .int .i64 0 ∧ wr = w) (fun _ _ _ => 0)
  case atStart => exact ⟨rfl, rfl, rfl⟩
  case round =>
    obtain ⟨rfl, rfl, rfl⟩ := hrel
    go_wp2
    go_loopw [7] (fun i W => ∃ (k m : Nat), 1 ≤ k ∧ k ≤ n ∧ i = .int .i64 k ∧ W = wr.drewN m) (fun i _ => n - (intOf i).toNat)
    case atStart => exact ⟨1, 0, Nat.le_refl _, by omega, rfl, rfl⟩
    case round =>
      obtain ⟨k, m, hk1, hk, rfl, rfl⟩ := hrel
      by_cases hlt : k < n
      · have hle := hs (k - 1) k (by omega) hlt
        have hls : ∀ t, Calls Tryz.prog 95 #[.int .u64 (co xs k), .int .u64 (co xs (k - 1))] (wr.drewN (m + t)) fun e w' => e = .returned (.bool false) ∧ ∃ n, w' = wr.drewN (m + n) := fun t => (less_any (co xs k) (co xs (k - 1)) false (decide_eq_false (by omega)) (wr.drewN (m + t))).mono fun _ _ ⟨h1, h2⟩ => ⟨h1, t, h2⟩
        have c1 := fun t => up_cell h (i := k) hlt (m + t)
        have c2 := fun t => up_cell h (i := k - 1) (by omega) (m + t)
        have hkn : (k : Int) < n := by omega
        have hk1n : (k : Int) - 1 < n := by omega
        have hkp : (0 : Int) < k := by omega
        have hkp2 : 0 < k := by omega
        have hk0 : (0 : Int) ≤ (k : Int) - 1 := by omega
        have hkt : ((k : Int) - 1).toNat = k - 1 := by omega
        have wr1 : IntKind.i64.wrap ((k : Int) - 1) = (k : Int) - 1 := IntWalk.i64_in _ (by omega)
        have hjd : decide (k < n) = true := decide_eq_true hlt
        generalize co xs k = x at *
        generalize co xs (k - 1) = y at *
        clear hle
        go_wp2
        go_quiet (exact hls _)
        go_wp2
        go_roundw
        case rel => exact ⟨k + 1, _, by omega, by omega, by simp, by first | rfl | (simp; rfl)⟩
        case measure => simp [intOf]; omega
      · obtain rfl : k = n := by omega
        go_wp2
        go_quiet (fail)
        go_wp2
        go_ret
        exact ⟨rfl, _, by first | rfl | (simp; rfl)⟩

set_option maxHeartbeats 2000000 in
theorem pdq_up (L : Int) (hL : 0 < L) (hs : SortTo xs 13) (w : World) (h : OwnAt w base g 13 cap xs) :
    Calls Tryz.prog 77 #[.slice (some ⟨g, 0, none⟩) 13 cap, .int .i64 0, .int .i64 13, .int .i64 L] w fun e w' => SortE base g 13 cap xs w e w' := by
  have hp := pivot_up hs w h
  have hi := fun W (hO : OwnAt W base g 13 cap xs) => pins_up 13 (by omega) (by omega) hs W hO
  have hL0 : (L == 0) = false := beq_eq_false_iff_ne.2 (by omega)
  have hL1 : ¬ L = 0 := by omega
  go_enter Tryz.func77, Tryz.ntmps77
  go_wp2
  go_loopw [1, 2, 3, 8, 9] (fun a b l wb wp wr => a = .int .i64 0 ∧ b = .int .i64 13 ∧ l = .int .i64 L ∧ wb = .bool true ∧ wp = .bool true ∧ wr = w) (fun _ _ _ _ _ _ => 0)
  case atStart => exact ⟨rfl, rfl, rfl, rfl, rfl, rfl⟩
  case round =>
    obtain ⟨rfl, rfl, rfl, rfl, rfl, rfl⟩ := hrel
    go_wp2_with fail
    refine hp.mono ?_
    rintro e w1 ⟨rfl, b1⟩
    have h1 := h.next b1
    go_wp2_with fail
    refine (hi _ h1).mono ?_
    rintro e w2 ⟨rfl, m, rfl⟩
    have hB := b1.trans ((below_drewN (Below.refl w1.heap.size w1) m).mono b1.size)
    go_wp2
    refine bodyPost_ret (results_none rfl _ _ _) rfl ?_
    exact ⟨⟨_, rfl⟩, xs, List.Perm.refl _, hs, h.next hB, grown_of hB _⟩

theorem sort_any (n : Nat) (h1 : 1 ≤ n) (hn : n ≤ 12 ∨ n = 13 ∧ SortTo xs 13) (w : World) (h : OwnAt w base g n cap xs) :
    Calls Tryz.prog 61 #[.slice (some ⟨g, 0, none⟩) n cap] w fun e w' => SortE base g n cap xs w e w' := by
  have hl := bitLen_small n h1 (by omega) w
  have hp : ∀ L : Int, 0 < L → Calls Tryz.prog 77 #[.slice (some ⟨g, 0, none⟩) n cap, .int .i64 0, .int .i64 n, .int .i64 L] w fun e w' => SortE base g n cap xs w e w' := fun L hL => by
    rcases hn with h2 | ⟨rfl, hs⟩
    · exact pdq_small base g n cap xs L h2 w h
    · exact pdq_up L hL hs w h
  have hn2 : n ≤ 13 := by omega
  clear hn
  have wr1 : IntKind.u64.wrap (n : Int) = (n : Int) := IntWalk.u64_in _ (by omega)
  go_enter Tryz.func61, Tryz.ntmps61
  go_wp2_with fail
  refine hl.mono ?_
  rintro e w1 ⟨L, hL, rfl, rfl⟩
  go_wp2_with fail
  refine (hp L hL).mono ?_
  rintro e w2 ⟨⟨v, rfl⟩, hz⟩
  go_wp2
  go_end0
  exact ⟨⟨_, rfl⟩, hz⟩
end

/-- slices.Sorted of slices.Values. -/
theorem sorted_any (Ba c : Nat) (A : Option Addr) (xs : List Int) (h1 : 1 ≤ xs.length) (hn : xs.length ≤ 12 ∨ xs.length = 13 ∧ SortTo xs 13) (w0 : World) (h : Sl w0 A c xs) (w : World) (hB0 : Below w0.heap.size w0 w) (ba : Boxed w Ba 23 (.slice A xs.length c)) :
    Calls Tryz.prog 36 #[.func (.func 62) #[] #[.pointer (some ⟨Ba, 0, none⟩)]] w fun e w' =>
      ∃ (g cap : Nat) (zs : List Int), e = .returned (.slice (some ⟨g, 0, none⟩) xs.length cap) ∧ zs.Perm xs ∧ SortTo zs xs.length ∧ OwnAt w' w.heap.size g xs.length cap zs ∧ Below w.heap.size w w' := by
  have hc := collect_any Ba c A xs (by omega) w0 h w hB0 ba
  have hso := fun g cap W (hO : OwnAt W w.heap.size g xs.length cap xs) => sort_any (xs := xs) xs.length h1 hn W hO
  clear hn
  go_enter Tryz.func36, Tryz.ntmps36
  go_wp2_with fail
  refine hc.mono ?_
  rintro e w1 ⟨v, rfl, hown, hB1⟩
  obtain ⟨g, cap, rfl, hg, hlt⟩ := World.ownsRow.form hown h1
  go_wp2_with fail
  refine (hso g cap _ hown).mono ?_
  rintro e w2 ⟨⟨v, rfl⟩, zs, hP, hS, hO, hG⟩
  have hB2 : Below w.heap.size w w2 := hB1.grown hG hB1.size (fun k e => by cases e; exact hg)
  have HO := Lib.hid hO
  clear hO
  go_wp2
  go_ret
  exact ⟨g, cap, zs, rfl, hP, hS, HO.out, hB2⟩
end Go.Proofs.YtkhiiiggmhncbaaGreat

/- slices.Compact at words, as far as the length goes, and distinct of package reedsolomon: whether no word occurs twice. Conditions: at least one word and at most twelve, or thirteen that ascend. -/
namespace Go.Proofs.YtkhiiiggmhncbaaGreat
set_option maxRecDepth 100000
open Go.RowKit PolyMath FieldMath

theorem setCells_below {B : Nat} {a : World} (b : Nat) (hb : B ≤ b) : ∀ (vs : List Value) (o : Nat) {W : World}, Below B a W → Below B a (W.setCells b o vs)
  | [], _, _, h => h
  | v :: vs, o, _, h => setCells_below b hb vs (o + 1) (h.setCell (p := ⟨b, o, none⟩) hb v)

/-- No two neighbours are equal. -/
def ApartN (zs : List Int) (n : Nat) : Prop := ∀ i, 1 ≤ i → i < n → co zs i ≠ co zs (i - 1)

set_option maxHeartbeats 4000000 in
theorem compact_any (base g n cap : Nat) (zs : List Int) (hn : n ≤ 1000) (w : World) (hbase : base ≤ w.heap.size) (h : OwnAt w base g n cap zs) :
    Calls Tryz.prog 35 #[.slice (some ⟨g, 0, none⟩) n cap] w fun e w' => (∃ (m : Nat), e = .returned (.slice (some ⟨g, 0, none⟩) m cap) ∧ m ≤ n ∧ (m = n ↔ ApartN zs n)) ∧ Below base w w' := by
  have hcap : n ≤ cap := by have := h.sl.cap; have := h.len; omega
  have hlen := Lib.hid h.len
  have hgl := h.lt
  by_cases h2 : n < 2
  · have hA : Hid (ApartN zs n) := Lib.hid (fun i h1 h2 => by omega)
    have hn2 : (n : Int) < 2 := by omega
    go_enter Tryz.func35, Tryz.ntmps35
    go_wp2
    go_ret
    exact ⟨⟨n, rfl, Nat.le_refl _, fun _ => hA.out, fun _ => rfl⟩, Below.refl _ _⟩
  · have hn2 : ¬ (n : Int) < 2 := by omega
    have HN := Lib.hid hn
    go_enter Tryz.func35, Tryz.ntmps35
    go_wp2
    go_loopw [3] (fun i wr => ∃ (k m : Nat), 1 ≤ k ∧ k ≤ n ∧ i = .int .i64 k ∧ wr = w.drewN m ∧ Hid (ApartN zs k)) (fun i _ => n - (intOf i).toNat)
    case atStart => exact ⟨1, 0, Nat.le_refl _, by omega, rfl, rfl, Lib.hid (fun i h1 h2 => by omega)⟩
    case round =>
      obtain ⟨k, m, hk1, hk, rfl, rfl, hA⟩ := hrel
      by_cases hlt : k < n
      · have c1 := fun t => up_cell h (i := k) hlt (m + t)
        have c2 := fun t => up_cell h (i := k - 1) (by omega) (m + t)
        have hkn : (k : Int) < n := by omega
        have hk1n : (k : Int) - 1 < n := by omega
        have hk0 : (0 : Int) ≤ (k : Int) - 1 := by omega
        have hkp : (0 : Int) < k := by omega
        have hkt : ((k : Int) - 1).toNat = k - 1 := by omega
        have wr1 : IntKind.i64.wrap ((k : Int) - 1) = (k : Int) - 1 := IntWalk.i64_in _ (by omega)
        by_cases e : co zs k = co zs (k - 1)
        · have hN : Hid (¬ ApartN zs n) := Lib.hid fun hA => hA k hk1 hlt e
          have hO := fun t => Lib.hid (h.next (below_drewN (Below.refl _ w) (m + t)))
          have hB := fun t => Lib.hid ((below_drewN (Below.refl w.heap.size w) (m + t)).mono hbase)
          rw [e] at c1
          generalize co zs (k - 1) = x at *
          have hkc : ¬ cap = k := by omega
          have hkcI : (k : Int) ≤ cap := by omega
          have hkcn : (k : Int) ≤ n := by omega
          have hncI : (n : Int) ≤ cap := by omega
          clear hA
          go_wp2
          go_quiet (fail)
          go_wp2
          obtain ⟨W1, hW1⟩ : ∃ W1, W1 = w.drewN (m + nq) := ⟨_, rfl⟩
          have hO1 : OwnAt W1 base g n cap zs := by rw [hW1]; exact (hO nq).out
          have hB1 : Below base w W1 := by rw [hW1]; exact (hB nq).out
          rw [← hW1]
          clear hW1 hO hB c1 c2
          go_loopw [3, 5] (fun a b wr => ∃ (kk j : Nat) (ys : List Int), k ≤ kk ∧ kk < k + j ∧ 1 ≤ j ∧ j ≤ n - k ∧ a = .int .i64 kk ∧ b = .int .i64 j ∧ OwnAt wr base g n cap ys ∧ Below base w wr) (fun _ b _ => (n - k) - (intOf b).toNat)
          case atStart => exact ⟨k, 1, zs, Nat.le_refl _, by omega, Nat.le_refl _, by omega, rfl, rfl, hO1, hB1⟩
          case round =>
            clear hO1 hB1
            obtain ⟨kk, j, ys, hkk, hkj, hj1, hj, rfl, rfl, hO, hB⟩ := hrel
            by_cases hl : j < n - k
            · have d1 := fun t => up_cell hO (i := k + j) (by omega) t
              have d2 := fun t => up_cell hO (i := k + (j - 1)) (by omega) t
              have hjn : (j : Int) < (n - k : Nat) := by omega
              have hj1n : (j : Int) - 1 < (n - k : Nat) := by omega
              have hj0 : (0 : Int) ≤ (j : Int) - 1 := by omega
              have hjp : (0 : Int) < j := by omega
              have hjt : ((j : Int) - 1).toNat = j - 1 := by omega
              have wr2 : IntKind.i64.wrap ((j : Int) - 1) = (j : Int) - 1 := IntWalk.i64_in _ (by omega)
              have hkkn : (kk : Int) < n := by omega
              have hO2 := fun t => Lib.hid (hO.next (below_drewN (Below.refl _ wr) t))
              have hB2 := fun t => Lib.hid (below_drewN hB t)
              generalize co ys (k + j) = x1 at *
              generalize co ys (k + (j - 1)) = x2 at *
              clear hO hB
              by_cases ex : x1 = x2
              · subst ex
                go_wp2
                go_quiet (fail)
                go_wp2
                go_roundw
                case rel => exact ⟨kk, j + 1, ys, hkk, by omega, by omega, by omega, by simp, by simp, (hO2 _).out, (hB2 _).out⟩
                case measure => simp [intOf]; omega
              · have ex' : (x1 != x2) = true := bne_iff_ne.2 ex
                go_wp2
                go_quiet (fail)
                obtain ⟨W2, hW2⟩ : ∃ W2, W2 = wr.drewN nq := ⟨_, rfl⟩
                have hO3 : OwnAt W2 base g n cap ys := by rw [hW2]; exact (hO2 nq).out
                have hB3 : Below base w W2 := by rw [hW2]; exact (hB2 nq).out
                have d3 := d1 nq
                rw [← hW2] at d3 ⊢
                have hf3 := hO3.frozen kk
                have hkl : kk < ys.length := by rw [hO3.len]; omega
                have d4 : W2.cell? ⟨g, kk, none⟩ = some (.int .u64 (co ys kk)) := up_cell hO3 (i := kk) (by omega) 0
                have hO4 := Lib.hid (hO3.put kk x1)
                have hB4 := Lib.hid (hB3.setCell (p := ⟨g, kk, none⟩) hgl.1 (.int .u64 x1))
                clear hW2 hO2 hB2 d1 d2 hO3 hB3
                go_wp2
                go_roundw
                case rel => exact ⟨kk + 1, j + 1, _, by omega, by omega, by omega, by omega, by simp, by simp, hO4.out, hB4.out⟩
                case measure => simp [intOf]; omega
            · obtain rfl : j = n - k := by omega
              have hcl : ∀ ty, (Builtin.clear_ #[23] ty #[.slice (some ⟨g, kk, none⟩) (n - kk) (cap - kk)]).run Tryz.prog wr = .ok (.tuple #[]) (wr.setCells g kk (List.replicate (n - kk) (.int .u64 0))) :=
                fun ty => Lib.run_clear_slice wr _ _ ty _ Tryz.underlying23 Tryz.zeroValue22 rfl rfl g kk _ _ (by omega) (fun q hq => by
                  have := up_cell hO (i := kk + q) (by omega) 0
                  rw [show wr.drewN 0 = wr from rfl] at this
                  rw [this]; rfl) (fun q _ => hO.frozen _)
              have hBE := Lib.hid (setCells_below g hgl.1 (List.replicate (n - kk) (.int .u64 0)) kk hB)
              have hkkc : ¬ cap = kk := by omega
              have hkkI : (kk : Int) ≤ n := by omega
              have hkkI2 : (kk : Int) ≤ cap := by omega
              clear hB
              go_wp2
              go_ret
              exact ⟨⟨kk, rfl, by omega, fun e => absurd e (by omega), fun e => absurd e hN.out⟩, hBE.out⟩
        · have hA2 : Hid (ApartN zs (k + 1)) := Lib.hid fun i h1 h2 => by
            by_cases ei : i = k
            · subst ei; exact e
            · exact hA.out i h1 (by omega)
          have e' : (co zs k == co zs (k - 1)) = false := beq_eq_false_iff_ne.2 e
          generalize co zs (k - 1) = x at *
          generalize co zs k = y at *
          clear hA
          go_wp2
          go_quiet (fail)
          go_wp2
          go_roundw
          case rel => exact ⟨k + 1, _, by omega, by omega, by simp, by first | rfl | (simp; rfl), hA2⟩
          case measure => simp [intOf]; omega
      · obtain rfl : k = n := by omega
        have hB := Lib.hid (fun t => (below_drewN (Below.refl w.heap.size w) t).mono hbase)
        go_wp2
        go_ret
        exact ⟨⟨_, rfl, Nat.le_refl _, fun _ => hA.out, fun _ => rfl⟩, hB.out _⟩

theorem sort_nodup {zs : List Int} {n : Nat} (hl : zs.length = n) (hs : SortTo zs n) : ApartN zs n ↔ zs.Nodup := by
  constructor
  · intro h
    have up : ∀ b a, a < b → b < n → co zs a < co zs b := by
      intro b
      induction b with
      | zero => intro a h1; omega
      | succ b ih =>
        intro a h1 h2
        have h3 := hs b (b + 1) (by omega) h2
        have h4 := h (b + 1) (by omega) h2
        rw [Nat.add_sub_cancel] at h4
        rcases (show a < b ∨ a = b by omega) with h5 | rfl
        · have := ih a h5 (by omega); omega
        · omega
    refine List.pairwise_iff_getElem.2 fun i j hi hj hij e => ?_
    have := up j i hij (by omega)
    rw [co_get hi, co_get hj, e] at this
    omega
  · intro h i h1 h2 e
    have := co_inj h (i := i) (j := i - 1) (by omega) (by omega) e
    omega

end Go.Proofs.YtkhiiiggmhncbaaGreat
