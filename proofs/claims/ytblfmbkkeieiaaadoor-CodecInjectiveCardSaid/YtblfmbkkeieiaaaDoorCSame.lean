/- Same, SameLists and Few of the reference of layer 3: equality of lists and of lists of lists, and whether a list of lists has at most so many lists and words; nothing that lay is changed. Conditions: lists of at most 1000000 elements for the first two. -/
import Derived.Test.YtblfmbkkeieiaaaDoorCMem
import Derived.Deep.RegionWith
namespace Go.Proofs.YtblfmbkkeieiaaaDoor
open Go.RowKit CodMath

theorem take_all {α : Type} {l : List α} {n : Nat} (h : l.length ≤ n) : l.take n = l := List.take_of_length_le h
theorem take_next {α : Type} {xs ys : List α} {k : Nat} {x : α} (hx : xs[k]? = some x) (hy : ys[k]? = some x) (h : xs.take k = ys.take k) : xs.take (k + 1) = ys.take (k + 1) := by
  rw [List.take_add_one, List.take_add_one, hx, hy, h]

theorem same_any (A A' : Option Addr) (xs ys : List Int) (c c' : Nat) (w : World) (h : Rd w.heap.size w A xs) (h' : Rd w.heap.size w A' ys) (hl : xs.length ≤ 1000000) :
    Calls Tryd.prog 16 #[.slice A xs.length c, .slice A' ys.length c'] w fun e w' => e = .returned (.bool (decide (xs = ys))) ∧ Below w.heap.size w w' := by
  by_cases hn : xs.length = ys.length
  · go_enter Tryd.func16, Tryd.ntmps16
    go_wp2
    go_loopw [5] (fun i wr => ∃ k : Nat, k ≤ xs.length ∧ i = .int .i64 k ∧ Hid (xs.take k = ys.take k) ∧ Below w.heap.size w wr) (fun i _ => xs.length - (intOf i).toNat)
    case atStart => exact ⟨0, Nat.zero_le _, rfl, Lib.hid rfl, Below.refl _ _⟩
    case round =>
      obtain ⟨k, hk, rfl, hE, hB⟩ := hrel
      by_cases hlt : k < xs.length
      · obtain ⟨b, off, x, rfl, _, hx, hc⟩ := (h.below hB).at_ hlt
        obtain ⟨b', off', y, rfl, _, hy, hc'⟩ := (h'.below hB).at_ (show k < ys.length by omega)
        have hX := Lib.hid hx
        have hY := Lib.hid hy
        have hi1 : (k : Int) < xs.length := by omega
        have hi2 : (k : Int) < ys.length := by omega
        clear hx hy
        by_cases hxy : x = y
        · subst hxy
          go_wp2
          go_quiet (fail)
          go_wp2
          go_roundw
          case rel => exact ⟨k + 1, by omega, by simp, Lib.hid (take_next hX.out hY.out hE.out), below_drewN hB _⟩
          case measure => simp [intOf]; omega
        · go_wp2
          go_quiet (fail)
          go_wp2
          go_ret
          exact ⟨by rw [decide_eq_false (fun e => hxy (by have h1 := hX.out; have h2 := hY.out; rw [e, h2] at h1; injection h1 with h1; exact h1.symm))]; rfl, below_drewN hB _⟩
      · obtain rfl : k = xs.length := by omega
        go_wp2
        go_ret
        exact ⟨by rw [decide_eq_true (by have := hE.out; rw [take_all (Nat.le_refl _), take_all (by omega)] at this; exact this)]; rfl, hB⟩
  · go_enter Tryd.func16, Tryd.ntmps16
    have hn' : ¬ (xs.length : Int) = ys.length := by omega
    go_wp2
    go_ret
    exact ⟨by rw [decide_eq_false (fun e => hn (by rw [e]))]; rfl, Below.refl _ _⟩

set_option maxHeartbeats 1000000 in
theorem sameLists_any (A A' : Option Addr) (xs ys : List (List Int)) (c c' : Nat) (w : World) (h : RdL w.heap.size w A xs) (h' : RdL w.heap.size w A' ys) (hl : xs.length ≤ 1000000) (hll : ∀ l ∈ xs, l.length ≤ 1000000) :
    Calls Tryd.prog 22 #[.slice A xs.length c, .slice A' ys.length c'] w fun e w' => e = .returned (.bool (decide (xs = ys))) ∧ Below w.heap.size w w' := by
  by_cases hn : xs.length = ys.length
  · go_enter Tryd.func22, Tryd.ntmps22
    go_wp2
    go_loopw [5] (fun i wr => ∃ k : Nat, k ≤ xs.length ∧ i = .int .i64 k ∧ Hid (xs.take k = ys.take k) ∧ Below w.heap.size w wr) (fun i _ => xs.length - (intOf i).toNat)
    case atStart => exact ⟨0, Nat.zero_le _, rfl, Lib.hid rfl, Below.refl _ _⟩
    case round =>
      obtain ⟨k, hk, rfl, hE, hB⟩ := hrel
      by_cases hlt : k < xs.length
      · obtain ⟨b, off, x, A1, c1, rfl, _, hx, hc, _, hr⟩ := (h.below hB).at_ hlt
        obtain ⟨b', off', y, A2, c2, rfl, _, hy, hc', _, hr'⟩ := (h'.below hB).at_ (show k < ys.length by omega)
        have hX := Lib.hid hx
        have hY := Lib.hid hy
        have hxl := hll x (List.mem_of_getElem? hx)
        have hsz := hB.size
        have hi1 : (k : Int) < xs.length := by omega
        have hi2 : (k : Int) < ys.length := by omega
        have hS := same_any A1 A2 x y c1 c2 wr.drew (hr.more hsz) (hr'.more hsz) hxl
        have mixed : Tryd.prog.follows .mixedOrders = true := by kernel_rfl
        have hNN := Lib.hid hn
        clear hx hy hn
        by_cases hxy : x = y
        · subst hxy
          rw [decide_eq_true rfl] at hS
          go_wp2
          go_region_with (go_at_call 16; refine hS.mono ?_; rintro e w2 ⟨rfl, hb2⟩)
          all_goals
            go_wp2
            go_roundw
            case rel => exact ⟨k + 1, by omega, by simp, Lib.hid (take_next hX.out hY.out hE.out), hB.drew.trans (hb2.mono hsz)⟩
            case measure => simp [intOf]; omega
        · rw [decide_eq_false hxy] at hS
          go_wp2
          go_region_with (go_at_call 16; refine hS.mono ?_; rintro e w2 ⟨rfl, hb2⟩)
          all_goals
            go_wp2
            go_ret
            exact ⟨by rw [decide_eq_false (fun e => hxy (by have h1 := hX.out; have h2 := hY.out; rw [e, h2] at h1; injection h1 with h1; exact h1.symm))]; rfl, hB.drew.trans (hb2.mono hsz)⟩
      · obtain rfl : k = xs.length := by omega
        go_wp2
        go_ret
        exact ⟨by rw [decide_eq_true (by have := hE.out; rw [take_all (Nat.le_refl _), take_all (by omega)] at this; exact this)]; rfl, hB⟩
  · go_enter Tryd.func22, Tryd.ntmps22
    have hn' : ¬ (xs.length : Int) = ys.length := by omega
    go_wp2
    go_ret
    exact ⟨by rw [decide_eq_false (fun e => hn (by rw [e]))]; rfl, Below.refl _ _⟩

/-- The number of lists, and of words in the first k. -/
def tot (ls : List (List Int)) (k : Nat) : Nat := ls.length + ((ls.take k).map List.length).sum
theorem rows_len : ∀ ls : List (List Int), (rows ls).length = ls.length + (ls.map List.length).sum
  | [] => rfl
  | l :: r => by simp only [rows, List.length_cons, List.length_append, rows_len r, List.map_cons, List.sum_cons]; omega
theorem tot_succ {ls : List (List Int)} {k : Nat} {l : List Int} (h : ls[k]? = some l) : tot ls (k + 1) = tot ls k + l.length := by
  unfold tot
  rw [List.take_add_one, h, Option.toList_some, List.map_append, List.sum_append]
  simp
  omega
theorem tot_all (ls : List (List Int)) : tot ls ls.length = (rows ls).length := by unfold tot; rw [take_all (Nat.le_refl _), rows_len]
theorem tot_le (ls : List (List Int)) (k : Nat) : tot ls k ≤ (rows ls).length := by
  rw [rows_len]
  unfold tot
  have h : (ls.map List.length).sum = ((ls.take k).map List.length).sum + ((ls.drop k).map List.length).sum := by rw [← List.sum_append, ← List.map_append, List.take_append_drop]
  omega

theorem few_any (A : Option Addr) (ls : List (List Int)) (c B m : Nat) (w : World) (h : RdL B w A ls) (hm : m ≤ 1000000) (hl : ls.length ≤ 1000000000000000000) (hll : ∀ l ∈ ls, l.length ≤ 1000000000000000000) :
    Calls Tryd.prog 18 #[.slice A ls.length c, .int .i64 m] w fun e w' => e = .returned (.bool (decide ((rows ls).length ≤ m))) ∧ w = w' := by
  go_enter Tryd.func18, Tryd.ntmps18
  go_wp2
  go_loop [5, 6] (fun v i => ∃ (k n : Nat), k ≤ ls.length ∧ i = .int .i64 k ∧ v = .int .i64 n ∧ Hid (n = tot ls k) ∧ n ≤ 2000000000000000000) (fun _ i => ls.length - (intOf i).toNat)
  case atStart => exact ⟨0, ls.length, Nat.zero_le _, rfl, rfl, Lib.hid (by simp [tot]), by omega⟩
  case round =>
    obtain ⟨k, n, hk, rfl, rfl, hN, hn2⟩ := hrel
    by_cases hlt : k < ls.length
    · obtain ⟨b, off, l, A', c', rfl, _, hx, hc, _, _⟩ := h.at_ hlt
      have hlx := hll l (List.mem_of_getElem? hx)
      have hX := Lib.hid hx
      clear hx
      by_cases hnm : (n : Int) ≤ m
      · go_wp2
        go_round
        case rel => exact ⟨k + 1, n + l.length, by omega, by simp, by simp, Lib.hid (by rw [tot_succ hX.out, hN.out]), by omega⟩
        case measure => simp [intOf]; omega
      · have hF : Hid (decide ((rows ls).length ≤ m) = false) := Lib.hid (decide_eq_false (by have := tot_le ls k; have := hN.out; omega))
        go_wp2
        go_ret
        exact ⟨by rw [hF.out]; rfl, rfl⟩
    · obtain rfl : k = ls.length := by omega
      have hF : Hid ((rows ls).length = n) := Lib.hid (by rw [hN.out, tot_all])
      go_wp2
      go_ret
      refine ⟨?_, rfl⟩
      rw [hF.out]
      congr 2
end Go.Proofs.YtblfmbkkeieiaaaDoor
