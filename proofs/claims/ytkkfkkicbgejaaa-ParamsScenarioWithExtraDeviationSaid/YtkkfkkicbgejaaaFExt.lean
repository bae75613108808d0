/- ExtendCoalition and HonestParties of package params at valid coalitions. Nothing that lay is changed. Conditions: a valid coalition. -/
import Derived.Test.YtkkfkkicbgejaaaFArr
import Derived.Deep.RegionHeld3
namespace Go.Proofs.Ytkkfkkicbgejaaa
set_option maxRecDepth 100000
open Go.RowKit PolyMath FieldMath PartyMath

/-- What a valid coalition is. -/
structure Coal (p : Int) (N T : Nat) (xs : List Int) : Prop where
  ok : OkP p
  n4 : 4 ≤ N
  n13 : N ≤ 13
  t1 : 1 ≤ T
  t3 : 3 * T < N
  len : xs.length ≤ T
  asc : asc N 0 xs = true
theorem Coal.of {p n t : Int} {xs : List Int} (h : vC p n t xs = true) : ∃ N T : Nat, n = N ∧ t = T ∧ Coal p N T xs := by
  unfold vC at h
  rw [Bool.and_eq_true, Bool.and_eq_true, decide_eq_true_eq] at h
  obtain ⟨h1, h2, h3⟩ := h
  obtain ⟨hp, n1, n2, t1, t2⟩ := vS_is.1 h1
  obtain ⟨N, rfl⟩ := Int.eq_ofNat_of_zero_le (show 0 ≤ n by omega)
  obtain ⟨T, rfl⟩ := Int.eq_ofNat_of_zero_le (show 0 ≤ t by omega)
  exact ⟨N, T, rfl, rfl, hp, by omega, by omega, by omega, by omega, by omega, h3⟩
theorem Coal.is {p : Int} {N T : Nat} {xs : List Int} (h : Coal p N T xs) : vC p N T xs = true := by
  unfold vC
  rw [vS_is.2 ⟨h.ok, by have := h.n4; omega, by have := h.n13; omega, by have := h.t1; omega, by have := h.t3; omega⟩, decide_eq_true (show (xs.length : Int) ≤ T by have := h.len; omega), h.asc]
  rfl
theorem Coal.mem {p : Int} {N T : Nat} {xs : List Int} (h : Coal p N T xs) : ∀ x ∈ xs, 1 ≤ x ∧ x ≤ N := fun x hx => by have := ((asc_iff _ _ _).1 h.asc).1 x hx; omega
theorem Coal.b13 {p : Int} {N T : Nat} {xs : List Int} (h : Coal p N T xs) : ∀ x ∈ xs, 0 ≤ x ∧ x ≤ 13 := fun x hx => by have := h.mem x hx; have := h.n13; omega
theorem Coal.nums {p : Int} {N T : Nat} {xs : List Int} (h : Coal p N T xs) : Nums xs := fun x hx => by have := h.b13 x hx; omega
theorem Coal.l1000 {p : Int} {N T : Nat} {xs : List Int} (h : Coal p N T xs) : xs.length ≤ 1000 := by have := h.len; have := h.t3; have := h.n13; omega
/-- The extended coalition is one, too. -/
theorem Coal.ext {p : Int} {N T : Nat} {xs : List Int} (h : Coal p N T xs) : Coal p N T (ext xs N (T - xs.length)) where
  ok := h.ok
  n4 := h.n4
  n13 := h.n13
  t1 := h.t1
  t3 := h.t3
  len := by have := h.len; have := h.t3; rw [ext_len h.asc (by omega)]; omega
  asc := asc_sel _ _
theorem Coal.full {p : Int} {N T : Nat} {xs : List Int} (h : Coal p N T xs) : (PartyMath.ext xs N (T - xs.length)).length = T := by have := h.len; have := h.t3; rw [ext_len h.asc (by omega)]; omega

theorem hon_sel (xs : List Int) (N : Nat) : sel (fun i => decide (i ∈ xs) == false) N = hon xs N := by
  unfold hon
  congr 1
  funext i
  by_cases h : i ∈ xs <;> simp [h]
theorem sel_true (f : Int → Bool) (N : Nat) : sel (fun i => f i == true) N = sel f N := by
  congr 1
  funext i
  cases f i <;> rfl

set_option maxHeartbeats 1000000 in
theorem hon_any (p : Int) (N T : Nat) (A : Option Addr) (c : Nat) (xs : List Int) (hC : Coal p N T xs) (w : World) (h : Si w A c xs) :
    Calls Try.prog 17 #[pv p N T, .slice A xs.length c] w fun e w' => RowO w e w' (hon xs N) := by
  have hv := fun W (hs : Si W A c xs) => coal_any p N T (by have := hC.n13; unfold Wi; omega) (by have := hC.t3; have := hC.n13; unfold Wi; omega) A c xs hC.l1000 hC.nums W hs
  rw [hC.is] at hv
  have hX1 := Lib.hid (Bx.made w p N T)
  have hB1 := Lib.hid ((Below.refl _ w).alloc (Nat.le_refl _) (.cells #[.int .u64 p, .int .i64 N, .int .i64 T] 24))
  have hS := h.push (.cells #[.int .u64 p, .int .i64 N, .int .i64 T] 24)
  have hpar := fun f W => parties_any p T N hC.n13 f false W
  unfold pv at hv hpar ⊢
  go_enter Try.func17, Try.ntmps17
  go_wp2_with fail
  refine (hv _ hS).mono ?_; rintro e w1 ⟨rfl, hb⟩
  have hX2 := hX1.out.next hb
  obtain ⟨c0, c1, c2, hlt⟩ := hX2
  have hB2 := Lib.hid (hB1.out.trans (hb.mono (by simp)))
  have hS2 := hS.next hb
  clear hb hS hv
  go_wp2_with fail
  go_region_held3 (fun w' => w'.cell? ⟨w.heap.size, 0, none⟩ = some (.int .u64 p) ∧ w'.cell? ⟨w.heap.size, 1, none⟩ = some (.int .i64 N) ∧ w'.cell? ⟨w.heap.size, 2, none⟩ = some (.int .i64 T))
    (refine ⟨?_, ?_, ?_⟩ <;> assumption)
    (first
      | (go_at_call 34; (with_reducible refine (members_any A c xs hC.l1000 hC.b13 _ hS2.drew).mono ?_); rintro e w3 ⟨rfl, hb3⟩; have c03 := (hb3.cell (p := ⟨w.heap.size, 0, none⟩) hlt).trans c0; have c13 := (hb3.cell (p := ⟨w.heap.size, 1, none⟩) hlt).trans c1; have c23 := (hb3.cell (p := ⟨w.heap.size, 2, none⟩) hlt).trans c2; have hB3 := Lib.hid (hB2.out.drew.trans (hb3.mono hB2.out.size)); have hz3 := Nat.lt_of_lt_of_le hlt hb3.size; clear hb3)
      | (go_at_call 35; (with_reducible refine (hpar _ _).mono ?_); rintro e w4 ⟨v, rfl, hO4, hb4⟩; have c04 := (hb4.cell (p := ⟨w.heap.size, 0, none⟩) hz3).trans c03; have c14 := (hb4.cell (p := ⟨w.heap.size, 1, none⟩) hz3).trans c13; have c24 := (hb4.cell (p := ⟨w.heap.size, 2, none⟩) hz3).trans c23; have hB4 := Lib.hid (hB3.out.trans (hb4.mono hB3.out.size)); have hz4 := hB3.out.size; clear hb4))
  all_goals
    go_wp2
    go_ret
    exact ⟨v, rfl, by rw [← hon_sel]; exact hO4.weak hz4, hB4.out⟩
set_option maxHeartbeats 1000000 in
theorem ext_any (p : Int) (N T : Nat) (A : Option Addr) (c : Nat) (xs : List Int) (hC : Coal p N T xs) (w : World) (h : Si w A c xs) :
    Calls Try.prog 16 #[pv p N T, .slice A xs.length c] w fun e w' => RowO w e w' (ext xs N (T - xs.length)) := by
  have hv := fun W (hs : Si W A c xs) => coal_any p N T (by have := hC.n13; unfold Wi; omega) (by have := hC.t3; have := hC.n13; unfold Wi; omega) A c xs hC.l1000 hC.nums W hs
  rw [hC.is] at hv
  have hX1 := Lib.hid (Bx.made w p N T)
  have hB1 := Lib.hid ((Below.refl _ w).alloc (Nat.le_refl _) (.cells #[.int .u64 p, .int .i64 N, .int .i64 T] 24))
  have hS := h.push (.cells #[.int .u64 p, .int .i64 N, .int .i64 T] 24)
  have hpar := fun f b W => parties_any p T N hC.n13 f b W
  unfold pv at hv hpar ⊢
  go_enter Try.func16, Try.ntmps16
  go_wp2_with fail
  refine (hv _ hS).mono ?_; rintro e w1 ⟨rfl, hb⟩
  have hX2 := hX1.out.next hb
  have hB2 := Lib.hid (hB1.out.trans (hb.mono (by simp)))
  have hS2 := hS.next hb
  clear hb hS hv
  go_wp2_with fail
  refine (members_any A c xs hC.l1000 hC.b13 _ hS2).mono ?_; rintro e w2 ⟨rfl, hb⟩
  have hX3 := hX2.next hb
  have hB3 := Lib.hid (hB2.out.trans (hb.mono hB2.out.size))
  have hS3 := hS2.next hb
  clear hb hS2 hX2
  have hA0 : ArAt (w2.alloc (.cells #[.bool false, .bool false, .bool false, .bool false, .bool false, .bool false, .bool false, .bool false, .bool false, .bool false, .bool false, .bool false, .bool false, .bool false] 53)) w2.heap.size (fun _ => false) := heap_alloc_new w2 _
  have hst := store_arr (fun i => decide (i ∈ xs)) hA0
  have hA4 := hA0.row (fun i => decide (i ∈ xs))
  have hB4 : Below w2.heap.size w2 ((w2.alloc (.cells #[.bool false, .bool false, .bool false, .bool false, .bool false, .bool false, .bool false, .bool false, .bool false, .bool false, .bool false, .bool false, .bool false, .bool false] 53)).setRow w2.heap.size (arr fun i => decide (i ∈ xs))) := below_setRow ((Below.refl _ w2).alloc (Nat.le_refl _) _) (Nat.le_refl _) _
  clear hA0
  generalize (w2.alloc (.cells #[.bool false, .bool false, .bool false, .bool false, .bool false, .bool false, .bool false, .bool false, .bool false, .bool false, .bool false, .bool false, .bool false, .bool false] 53)).setRow w2.heap.size (arr fun i => decide (i ∈ xs)) = W4 at *
  have hX4 := hX3.next hB4
  have hS4 := hS3.next hB4
  replace hB4 := Lib.hid (hB3.out.trans (hB4.mono hB3.out.size))
  have hbc := heap_lt hA4
  have hne : w.heap.size < w2.heap.size := hX3.lt
  clear hX3 hS3
  generalize hf : (fun i => decide (i ∈ xs)) = f at *
  have hHA4 := Lib.hid hA4
  have hTm : Hid (T = xs.length + (T - xs.length)) := Lib.hid (by have := hC.len; omega)
  have hHon := hon_len hC.asc
  generalize T - xs.length = m at *
  have htm : (T : Int) - (xs.length : Int) = (m : Int) := by have := hTm.out; omega
  have hmL : m ≤ (hon xs N).length := by have := hTm.out; have := hC.t3; omega
  have hm13 : m ≤ 13 := by have := hC.n13; omega
  have hN13 : N ≤ 13 := hC.n13
  have hLne : Hid (hon xs N ≠ []) := Lib.hid (fun e => by have := hC.len; have := hC.t3; rw [e, List.length_nil] at hHon; omega)
  have hfe : Hid (∀ i, f i = decide (i ∈ xs)) := Lib.hid (fun i => by rw [← hf])
  have hselE : Hid (sel (fun i => f i == false) N = hon xs N) := Lib.hid (by rw [← hf]; exact hon_sel xs N)
  clear hHon
  generalize hbd : w2.heap.size = bc at *
  obtain ⟨c0, c1, c2, hlt⟩ := hX4
  have e4 : W4.drew.rangeAt bc 0 (al f) := hA4.range
  have hinf := info_al f
  have hund := Try.underlying53
  have hpar2 := hpar f false
  change ∀ W, Calls Try.prog 35 #[.agg #[.int .u64 p, .int .i64 N, .int .i64 T], .agg (al f).toArray, .bool false] W _ at hpar2
  clear hA4 hf hC
  have hm0 : (0 : Int) ≤ m := by omega
  have hwm : IntKind.i64.wrap (m : Int) = m := IntWalk.i64_in _ (by omega)
  have hL0 : 0 < (hon xs N).length := List.length_pos_iff.2 hLne.out
  go_wp2_with fail
  go_region_held3 (fun w' => w'.cell? ⟨w.heap.size, 0, none⟩ = some (.int .u64 p) ∧ w'.cell? ⟨w.heap.size, 1, none⟩ = some (.int .i64 N) ∧ w'.cell? ⟨w.heap.size, 2, none⟩ = some (.int .i64 T) ∧ w'.rangeAt bc 0 (al f))
    (refine ⟨?_, ?_, ?_, ?_⟩ <;> assumption)
    (first
      | (go_at_call 35; (with_reducible refine (hpar2 _).mono ?_); rintro e w5 ⟨v, rfl, hO5, hb5⟩; have c05 := (hb5.cell (p := ⟨w.heap.size, 0, none⟩) hlt).trans c0; have c15 := (hb5.cell (p := ⟨w.heap.size, 1, none⟩) hlt).trans c1; have c25 := (hb5.cell (p := ⟨w.heap.size, 2, none⟩) hlt).trans c2; have hA5 := ArAt.next (w := W4.drew) hHA4.out hb5; have e5 := hA5.range; have hB5 := Lib.hid (hB4.out.drew.trans (hb5.mono hB4.out.size)); rw [hselE.out] at hO5; have hz5 := hb5.size; obtain ⟨g5, cap5, rfl, hg5, hgl5, hcap5, hcl5⟩ := hO5.open_ hLne.out; have hmc5 : (m : Int) ≤ cap5 := Int.ofNat_le.2 (Nat.le_trans hmL hcap5); have hcz5 : ¬ cap5 = 0 := Nat.ne_of_gt (Nat.lt_of_lt_of_le hL0 hcap5); clear hb5))
  all_goals
    have hA5H := Lib.hid hA5
    have hx0 : Bex bc w5 w5 := Bex.refl _ _
    have hgb : g5 ≠ bc := by have : bc < g5 := Nat.lt_of_lt_of_le hbc hg5; omega
    have hwl5 : w.heap.size < w5.heap.size := Nat.lt_of_lt_of_le hlt hz5
    have hbx5 : Bx w5 w.heap.size p N T := ⟨c05, c15, c25, hwl5⟩
    have hHbx := Lib.hid hbx5
    clear hbx5 c05 c15 c25 c0 c1 c2 e4 e5 hA5 hO5 hpar2 hinf hund hst
    go_wp2
    go_loopw [24] (fun i wr => ∃ k : Nat, k ≤ m ∧ i = .int .i64 k ∧ ArAt wr bc (fun i => f i || decide (i ∈ (hon xs N).take k)) ∧ Bex bc w5 wr) (fun i _ => m - (intOf i).toNat)
    case atStart => exact ⟨0, Nat.zero_le _, rfl, hA5H.out.same (fun j _ => by simp), hx0⟩
    case round =>
      obtain ⟨k, hk, rfl, hM, hX⟩ := hrel
      by_cases hlt2 : k < m
      · have hxk := List.getElem?_eq_getElem (show k < (hon xs N).length by omega)
        obtain ⟨x, hx⟩ : ∃ x, (hon xs N)[k]? = some x := ⟨_, hxk⟩
        clear hxk
        have hxb := (mem_hon.1 (List.mem_of_getElem? hx)).1
        obtain ⟨q, rfl⟩ : ∃ q : Nat, x = (q : Int) := ⟨x.toNat, by omega⟩
        have hc2 := (hX.cell (p := ⟨g5, k, none⟩) hgl5 hgb).trans (hcl5 k _ hx)
        have hq14 : q < 14 := by omega
        have hcq := hM.cell q hq14
        have hfq := hM.frozen q
        have hq13 : (q : Int) < 14 := by omega
        have hkm : (k : Int) < m := by omega
        have hM2 := Lib.hid ((hM.put q hq14 true).same (g := fun i => f i || decide (i ∈ (hon xs N).take (k + 1))) (fun j _ => by
          rw [List.take_add_one, hx]
          by_cases e : (j : Int) = (q : Int)
          · rw [if_pos e, e, decide_eq_true (show (q : Int) ∈ (hon xs N).take k ++ (some (q : Int)).toList from List.mem_append_right _ (List.mem_singleton.2 rfl)), Bool.or_true]
          · rw [if_neg e]
            congr 1
            rw [decide_eq_decide]
            constructor
            · exact fun h => List.mem_append_left _ h
            · intro h
              rcases List.mem_append.1 h with h | h
              · exact h
              · exact absurd (List.mem_singleton.1 h) e))
        have hX2 := Lib.hid (hX.setCell q (.bool true))
        clear hM hX hx hxb
        go_wp2
        go_roundw
        case rel => exact ⟨k + 1, by omega, by simp, hM2.out, hX2.out⟩
        case measure => simp [intOf]; omega
      · obtain rfl : k = m := by omega
        have hBr := hX.below (B := w.heap.size) (by omega) (by omega)
        have hB6 := hB5.out.trans hBr
        have c06 := (hX.cell (p := ⟨w.heap.size, 0, none⟩) hwl5 (by show w.heap.size ≠ bc; omega)).trans hHbx.out.c0
        have c16 := (hX.cell (p := ⟨w.heap.size, 1, none⟩) hwl5 (by show w.heap.size ≠ bc; omega)).trans hHbx.out.c1
        have c26 := (hX.cell (p := ⟨w.heap.size, 2, none⟩) hwl5 (by show w.heap.size ≠ bc; omega)).trans hHbx.out.c2
        have hfin : Hid (sel (fun i => (f i || decide (i ∈ (hon xs N).take k)) == true) N = ext xs N k) := Lib.hid (by
          rw [sel_true]
          unfold ext inE
          congr 1
          funext i
          rw [hfe.out i])
        have hpar3 := hpar (fun i => f i || decide (i ∈ (hon xs N).take k)) true
        rw [hfin.out] at hpar3
        generalize (fun i => f i || decide (i ∈ (hon xs N).take k)) = f2 at *
        go_wp2_with (first
          | (refine wpList_load_row rfl 53 (.tmp 5) rfl bc rfl 53 (arr f2) (0, 0) _ hM Try.underlying53 rfl info_mem ?_)
          | (go_at_call 35; (with_reducible refine (hpar3 _).mono ?_); rintro e w7 ⟨v, rfl, hO7, hb7⟩))
        go_ret
        have ek : T - xs.length = k := by have := hTm.out; omega
        exact ⟨v, rfl, by rw [ek]; exact hO7.weak hB6.size, hB6.trans (hb7.mono hB6.size)⟩
end Go.Proofs.Ytkkfkkicbgejaaa
