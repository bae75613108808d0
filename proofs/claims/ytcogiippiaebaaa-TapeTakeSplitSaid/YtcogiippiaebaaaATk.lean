/- New and Take of package tape and of the reference of layer 11, and the reference's Same. Conditions: at most 1000 words. -/
import Derived.Test.YtcogiippiaebaaaATp
namespace Go.Proofs.Ytcogiippiaebaaa
set_option maxRecDepth 100000
open Go.RowKit

theorem apart46 : (46 : Nat) ≠ 37 := by decide
theorem apart48 : (48 : Nat) ≠ 37 := by decide

/-- A call hands back a new tape. -/
def NewTp (T : Nat) (w : World) (e : Ending) (w' : World) (xs : List Int) : Prop :=
  ∃ b, e = .returned (.pointer (some ⟨b, 0, none⟩)) ∧ w.heap.size ≤ b ∧ Tp T w' b xs 0 ∧ Below w.heap.size w w'
theorem Tp.made {w : World} {A : Option Addr} {c : Nat} {xs : List Int} (T : Nat) (h : Sl w A c xs) (ht : Ty w A) : Tp T (w.alloc (.cells #[.slice A xs.length c, .int .i64 0] T)) w.heap.size xs 0 :=
  ⟨⟨A, c, heap_alloc_new w _, h.push _, ht.next ((Below.refl _ w).alloc (Nat.le_refl _) _)⟩, Nat.zero_le _⟩

theorem new_any (A : Option Addr) (c : Nat) (xs : List Int) (w : World) (h : Sl w A c xs) (hl : xs.length ≤ 1000) :
    Calls Try.prog 9 #[.slice A xs.length c] w fun e w' => NewTp 46 w e w' xs := by
  have hcl := clone_any A xs.length c xs w h (Nat.le_refl _) hl
  rw [List.take_length] at hcl
  go_enter Try.func9, Try.ntmps9
  go_wp2_with fail
  refine hcl.mono ?_
  rintro e w1 ⟨v, rfl, ho, hb⟩
  obtain ⟨B, d, rfl, hs⟩ := own_form ho
  have ht := Ty.of_own ho
  clear ho hcl
  go_wp2_with fail
  go_ret
  exact ⟨w1.heap.size, rfl, hb.size, Tp.made _ hs ht, hb.alloc hb.size _⟩

set_option maxHeartbeats 1000000 in
theorem rNew_any (A : Option Addr) (c : Nat) (xs : List Int) (w : World) (h : Sl w A c xs) (hl : xs.length ≤ 1000) :
    Calls Try.prog 10 #[.slice A xs.length c] w fun e w' => NewTp 48 w e w' xs := by
  obtain ⟨i0, hi, hz0, hz1, hz2⟩ := info_parts info_u64
  have hlit := own_lit0 w
  cases A with
  | none =>
    obtain ⟨rfl, rfl⟩ := h.empty rfl
    clear h
    have hs : Hid (Sl (w.alloc (.cells #[] 37)) (some ⟨w.heap.size, 0, none⟩) 0 []) := Lib.hid (Sl.blank _ _ _)
    have ht : Hid (Ty (w.alloc (.cells #[] 37)) (some ⟨w.heap.size, 0, none⟩)) := Lib.hid (Ty.of_own hlit.out)
    have hb := (Below.refl _ w).alloc (Nat.le_refl _) (.cells #[] 37)
    go_enter Try.func10, Try.ntmps10
    go_wp2_with (at_builtin; refine wpList_append_own_none rfl _ _ 22 rfl w.heap.size 37 i0 1 Try.underlying22 hi _ _ _ rfl hlit.out rfl ?_)
    go_ret
    exact ⟨w.heap.size + 1, rfl, by omega, by have h := Tp.made 48 hs.out ht.out; rw [World.size_alloc] at h; exact h, hb.alloc hb.size _⟩
  | some ad =>
    have hnw := Lib.hid (h.news (.cells #[] 37) xs.length)
    have hln := Lib.hid (take_len (Nat.le_refl xs.length))
    have hon := Lib.hid (one_cells (xs.take xs.length))
    have hc := h.cap
    clear h
    go_enter Try.func10, Try.ntmps10
    go_wp2_with (at_builtin; refine wpList_append_own _ rfl _ _ 22 rfl w.heap.size 37 i0 (.int .u64 0) 1 8 Try.underlying22 hi hz0 hz1 hz2 rfl (by decide) _ _ _ rfl hlit.out ad xs.length c ((xs.take xs.length).map (Value.int .u64)) rfl hln.out hnw.out hon.out (by simp only [maxLen]; omega) (by omega) (by simp) ?_; intro v' w1 hown hgrow _; (have hb : Hid (Below w.heap.size w w1) := Lib.hid (((Below.refl _ w).alloc (Nat.le_refl _) _).grown hgrow (by simp) (fun k e => (hlit.out.lt k e).1))); rw [List.take_length] at hown; (have hown2 : w1.ownsRow w.heap.size 37 1 v' xs.length (xs.map (Value.int .u64)) := by simpa using hown); clear hown hgrow; obtain ⟨B, d, rfl, hs⟩ := own_form hown2; have ht := Ty.of_own hown2; clear hown2)
    go_ret
    exact ⟨_, rfl, hb.out.size, Tp.made _ hs ht, hb.out.alloc hb.out.size _⟩

theorem same_any (A A' : Option Addr) (xs ys : List Int) (c c' : Nat) (w : World) (h : Sl w A c xs) (h' : Sl w A' c' ys) (hl : xs.length ≤ 1000) :
    Calls Try.prog 13 #[.slice A xs.length c, .slice A' ys.length c'] w fun e w' => e = .returned (.bool (decide (xs = ys))) ∧ Below w.heap.size w w' := by
  by_cases hn : xs.length = ys.length
  · go_enter Try.func13, Try.ntmps13
    go_wp2
    go_loopw [5] (fun i wr => ∃ k : Nat, k ≤ xs.length ∧ i = .int .i64 k ∧ Hid (xs.take k = ys.take k) ∧ Below w.heap.size w wr) (fun i _ => xs.length - (intOf i).toNat)
    case atStart => exact ⟨0, Nat.zero_le _, rfl, Lib.hid rfl, Below.refl _ _⟩
    case round =>
      obtain ⟨k, hk, rfl, hE, hB⟩ := hrel
      by_cases hlt : k < xs.length
      · obtain ⟨b, off, x, hA, _, hx, hc⟩ := (h.next hB).at_ hlt
        obtain ⟨b', off', y, hA', _, hy, hc'⟩ := (h'.next hB).at_ (show k < ys.length by omega)
        subst hA hA'
        have hX := Lib.hid hx
        have hY := Lib.hid hy
        have hi1 : (k : Int) < xs.length := by omega
        have hi2 : (k : Int) < ys.length := by omega
        clear hx hy
        by_cases hxy : x = y
        · subst hxy
          go_wp2
          go_quiet (fail)
          go_wp2
          go_roundw
          case rel => exact ⟨k + 1, by omega, by simp, Lib.hid (take_next hX.out hY.out hE.out), below_drewN hB _⟩
          case measure => simp [intOf]; omega
        · go_wp2
          go_quiet (fail)
          go_wp2
          go_ret
          exact ⟨by rw [decide_eq_false (fun e => hxy (by have h1 := hX.out; have h2 := hY.out; rw [e, h2] at h1; injection h1 with h1; exact h1.symm))]; rfl, below_drewN hB _⟩
      · obtain rfl : k = xs.length := by omega
        go_wp2
        go_ret
        exact ⟨by rw [decide_eq_true (by have := hE.out; rw [take_all (Nat.le_refl _), take_all (by omega)] at this; exact this)]; rfl, hB⟩
  · go_enter Try.func13, Try.ntmps13
    have hn' : ¬ (xs.length : Int) = ys.length := by omega
    go_wp2
    go_ret
    exact ⟨by rw [decide_eq_false (fun e => hn (by rw [e]))]; rfl, Below.refl _ _⟩
theorem same_is (A A' : Option Addr) (xs ys : List Int) (c c' : Nat) (w : World) (h : Sl w A c xs) (h' : Sl w A' c' ys) (hl : xs.length ≤ 1000) (e : xs = ys) :
    Calls Try.prog 13 #[.slice A xs.length c, .slice A' ys.length c'] w fun e w' => e = .returned (.bool true) ∧ Below w.heap.size w w' := by
  have := same_any A A' xs ys c c' w h h' hl
  rwa [decide_eq_true e] at this
end Go.Proofs.Ytcogiippiaebaaa
