/- Lists of numbers that a call makes by append; the parties outside a coalition and its extension, of the reference of layer 12. Conditions: at most 13 parties. -/
import Derived.Test.YtkkfkkicbgejaaaFCoal
namespace Go.Proofs.Ytkkfkkicbgejaaa
set_option maxRecDepth 100000
open Go.RowKit PolyMath FieldMath PartyMath

theorem info_int : (Try.prog.info? 3).map (fun i => (i.zero, i.size, i.bytes)) = some (some (.int .i64 0), 1, 8) := by kernel_rfl
theorem own_belowN {w w' : World} {base t size n : Nat} {v : Value} {xs : List Value} (h : w.ownsRow base t size v n xs) (hb : Below w.heap.size w w') : w'.ownsRow base t size v n xs := by
  refine ⟨h.1, h.2.imp id ?_⟩
  rintro ⟨g, cap, cur, hv, h1, hh, r⟩
  exact ⟨g, cap, cur, hv, h1, (hb.block g (Array.getElem?_eq_some_iff.1 hh).1).trans hh, r⟩
theorem own_tagN {w : World} {base t size n : Nat} {v : Value} {xs : List Value} (h : w.ownsRow base t size v n xs) : ∀ g, v.ownBlock = some g → ∃ cur fz, w.heap[g]? = some (.cells cur t fz) := by
  intro g hg
  rcases h.2 with ⟨rfl, _⟩ | ⟨g', cap, cur, rfl, _, hh, _⟩
  · cases hg
  · cases hg
    exact ⟨cur, _, hh⟩
/-- Rows of two types lie in two blocks. -/
theorem own_apart {w : World} {base base' t t' size size' n n' : Nat} {v v' : Value} {xs xs' : List Value} (h : w.ownsRow base t size v n xs) (h' : w.ownsRow base' t' size' v' n' xs') (hne : t ≠ t') : v.ownBlock = none ∨ v'.ownBlock ≠ v.ownBlock := by
  cases hv : v.ownBlock with
  | none => exact .inl rfl
  | some g =>
    refine .inr fun e => hne ?_
    obtain ⟨c1, f1, e1⟩ := own_tagN h g hv
    obtain ⟨c2, f2, e2⟩ := own_tagN h' g e
    rw [e1] at e2
    injection e2 with e2
    injection e2
theorem Si.of_own {w : World} {base : Nat} {A : Option Addr} {n c : Nat} {xs : List Int} (h : w.ownsRow base 3 1 (.slice A n c) n (xs.map (Value.int .i64))) : Si w A c xs := by
  have hl : xs.length = n := by simpa using h.1
  rcases h.2 with ⟨hv, h0⟩ | ⟨g, cap, cur, hv, _, hh, h1, h2, h3, h4⟩
  · injection hv with hA hn hc
    subst hA hc
    exact ⟨by omega, (fun _ => rfl), (fun _ h => absurd h (by simp))⟩
  · injection hv with hA hn hc
    subst hA hc
    refine ⟨by omega, (fun h => absurd h (by simp)), (fun ad hA _ => ?_)⟩
    injection hA with hA
    subst hA
    refine ⟨g, 0, rfl, (Array.getElem?_eq_some_iff.1 hh).1, fun j x hx => ?_⟩
    have hj := (List.getElem?_eq_some_iff.1 hx).1
    have h5 : (cur.toList.take (n * 1))[j]? = some (.int .i64 x) := by rw [h4, List.getElem?_map, hx]; rfl
    rw [List.getElem?_take, if_pos (by omega), Array.getElem?_toList] at h5
    rw [cell_of_row w g (0 + j) cur 3 (0, 0) hh, Nat.zero_add]
    exact h5
theorem iown_form {w : World} {base n : Nat} {v : Value} {xs : List Int} (h : w.ownsRow base 3 1 v n (xs.map (Value.int .i64))) : ∃ A c, v = .slice A xs.length c ∧ Si w A c xs := by
  have hl : xs.length = n := by simpa using h.1
  rcases h.2 with ⟨rfl, h0⟩ | ⟨g, cap, cur, rfl, _, _, hc, _⟩
  · subst h0; exact ⟨none, 0, by rw [hl], Si.of_own h⟩
  · exact ⟨some ⟨g, 0, none⟩, cap, by rw [hl], Si.of_own h⟩
/-- The numbers xs lie in a slice of the call's own, from block B on. -/
def OI (w : World) (B : Nat) (v : Value) (xs : List Int) : Prop := w.ownsRow B 3 1 v xs.length (xs.map (Value.int .i64))
theorem OI.next {w w' : World} {B : Nat} {v : Value} {xs : List Int} (h : OI w B v xs) (hb : Below w.heap.size w w') : OI w' B v xs := own_belowN h hb
theorem OI.form {w : World} {B : Nat} {v : Value} {xs : List Int} (h : OI w B v xs) : ∃ A c, v = .slice A xs.length c ∧ Si w A c xs := iown_form h
theorem OI.nil (w : World) (B : Nat) : OI w B (.slice none 0 0) [] := World.ownsRow_nil _ _ _ _
theorem OI.open_ {w : World} {B : Nat} {v : Value} {xs : List Int} (h : OI w B v xs) (hn : xs ≠ []) : ∃ g c, v = .slice (some ⟨g, 0, none⟩) xs.length c ∧ B ≤ g ∧ g < w.heap.size ∧ xs.length ≤ c ∧ ∀ j x, xs[j]? = some x → w.cell? ⟨g, j, none⟩ = some (.int .i64 x) := by
  obtain ⟨A, c, rfl, hs⟩ := h.form
  cases A with
  | none =>
    have := hs.nil rfl
    have := hs.cap
    exact absurd (List.eq_nil_of_length_eq_zero (by omega)) hn
  | some ad =>
    obtain ⟨b, off, rfl, hb, hc⟩ := hs.rd ad rfl hn
    rcases h.2 with ⟨h1, _⟩ | ⟨g, cap, cur, h1, h2, _⟩
    · cases h1
    · injection h1 with h1
      injection h1 with h1
      injection h1 with h3 h4
      subst h3 h4
      exact ⟨b, c, rfl, h2, hb, hs.cap, fun j x hj => by have := hc j x hj; rwa [Nat.zero_add] at this⟩
/-- A call hands back numbers in a slice of its own. -/
def RowO (w : World) (e : Ending) (w' : World) (ys : List Int) : Prop := ∃ v, e = .returned v ∧ OI w' w.heap.size v ys ∧ Below w.heap.size w w'
theorem OI.snoc {w : World} {B k : Nat} {v : Value} {xs : List Int} {x : Int} (hk : xs.length = k) (h : w.ownsRow B 3 1 v (k + 1) ((xs.map (Value.int .i64)) ++ [.int .i64 x])) : OI w B v (xs ++ [x]) := by
  unfold OI
  rw [List.map_append, List.length_append, hk]
  exact h

/-- One number more at the end of an own list. -/
theorem OI.weak {w : World} {B B' : Nat} {v : Value} {xs : List Int} (h : OI w B v xs) (hB : B' ≤ B) : OI w B' v xs := by
  refine ⟨h.1, h.2.imp id ?_⟩
  rintro ⟨g, cap, cur, hv, h1, r⟩
  exact ⟨g, cap, cur, hv, Nat.le_trans hB h1, r⟩

set_option maxHeartbeats 1000000 in
theorem rHon_any (p t : Int) (N : Nat) (hN : N ≤ 13) (A : Option Addr) (c : Nat) (xs : List Int) (hl : xs.length ≤ 1000) (w : World) (h : Si w A c xs) :
    Calls Try.prog 20 #[pv p N t, .slice A xs.length c] w fun e w' => RowO w e w' (hon xs N) := by
  obtain ⟨i0, hi0, hz0, hz1, hz2⟩ := info_parts info_int
  have hB1 := Lib.hid ((Below.refl _ w).alloc (Nat.le_refl _) (.cells #[.int .u64 p, .int .i64 N, .int .i64 t] 24))
  have hX1 := Lib.hid (Bx.made w p N t)
  have hS := h.push (.cells #[.int .u64 p, .int .i64 N, .int .i64 t] 24)
  have hN' : (N : Int) ≤ 13 := by omega
  unfold pv
  go_enter Try.func20, Try.ntmps20
  go_wp2
  have hs1 : w.heap.size ≤ (w.alloc (.cells #[.int .u64 p, .int .i64 N, .int .i64 t] 24)).heap.size := by simp
  generalize w.alloc (.cells #[.int .u64 p, .int .i64 N, .int .i64 t] 24) = W1 at *
  go_loopw [5, 6] (fun v i wr => ∃ k : Nat, k ≤ N ∧ i = .int .i64 ((k : Int) + 1) ∧ Hid (OI wr W1.heap.size v (hon xs k)) ∧ Below W1.heap.size W1 wr) (fun _ i _ => N + 1 - (intOf i).toNat)
  case atStart => exact ⟨0, Nat.zero_le _, rfl, Lib.hid (OI.nil _ _), Below.refl _ _⟩
  case round =>
    obtain ⟨k, hk, rfl, hO, hB⟩ := hrel
    obtain ⟨c0, c1, c2, hblt⟩ := hX1.out.next hB
    have hsz := hB.size
    by_cases hlt : k < N
    · have hkN : (k : Int) + 1 ≤ N := by omega
      have hin := in_any A c xs ((k : Int) + 1) hl wr (hS.next hB)
      have hkl := sel_len (fun i => decide (i ∉ xs)) k
      by_cases hm : ((k : Int) + 1) ∈ xs
      · rw [decide_eq_true hm] at hin
        have hnx := Lib.hid (show hon xs (k + 1) = hon xs k from sel_no (decide_eq_false (fun h => h hm)))
        clear hm
        go_wp2_with fail
        refine hin.mono ?_; rintro e w2 ⟨rfl, m, rfl⟩
        have hd := below_drewN (Below.refl wr.heap.size wr) m
        go_wp2_with fail
        go_roundw
        case rel => exact ⟨k + 1, by omega, by simp, by rw [hnx.out]; exact Lib.hid (hO.out.next hd), below_drewN hB m⟩
        case measure => simp [intOf]; omega
      · rw [decide_eq_false hm] at hin
        have hnx := Lib.hid (show hon xs (k + 1) = hon xs k ++ [(k : Int) + 1] from sel_yes (decide_eq_true hm))
        have hrow := hO.out
        unfold OI at hrow
        have hHL : (hon xs k).length ≤ k := hkl
        generalize hHe : hon xs k = H at *
        have hrow' := Lib.hid hrow
        clear hm hHe hO hkl hrow
        go_wp2_with fail
        refine hin.mono ?_; rintro e w2 ⟨rfl, m, rfl⟩
        have hd := below_drewN hB m
        have hrow2 := own_belowN hrow'.out (below_drewN (Below.refl wr.heap.size wr) m)
        have hrow3 := hrow2.alloc (.cells #[.int .i64 ((k : Int) + 1)] 3)
        clear hrow2
        go_wp2_with (at_builtin; refine wpList_append_own _ rfl _ _ 25 rfl W1.heap.size 3 i0 (.int .i64 0) 1 8 Try.underlying25 hi0 hz0 hz1 hz2 rfl (by decide) _ _ _ rfl hrow3 ⟨wr.heap.size, 0, none⟩ 1 1 [.int .i64 ((k : Int) + 1)] rfl rfl (cell_one_new _ _ _) (by simp [Value.oneCell']) (by simp only [maxLen]; omega) (by omega) (by simp; omega) ?_; intro v' w3 hown hgrow _)
        have hB3 : Below W1.heap.size W1 w3 := (hd.alloc (Nat.le_trans hsz (Nat.le_refl _)) _).grown hgrow (by simp; omega) (fun q e => (hrow3.lt q e).1)
        go_roundw
        case rel => exact ⟨k + 1, by omega, by simp, by rw [hnx.out]; exact Lib.hid (OI.snoc rfl hown), hB3⟩
        case measure => simp [intOf]; omega
    · obtain rfl : k = N := by omega
      go_wp2
      go_ret
      exact ⟨_, rfl, hO.out.weak hs1, hB1.out.trans (hB.mono hs1)⟩
set_option maxHeartbeats 1000000 in
theorem rExt_any (p t : Int) (N m : Nat) (hN : N ≤ 13) (A : Option Addr) (c : Nat) (xs : List Int) (hl : xs.length ≤ 1000) (hm1000 : m ≤ 1000) (ht : t = (xs.length : Int) + m) (w : World) (h : Si w A c xs) :
    Calls Try.prog 19 #[pv p N t, .slice A xs.length c] w fun e w' => RowO w e w' (ext xs N m) := by
  obtain ⟨i0, hi0, hz0, hz1, hz2⟩ := info_parts info_int
  have hB1 := Lib.hid ((Below.refl _ w).alloc (Nat.le_refl _) (.cells #[.int .u64 p, .int .i64 N, .int .i64 t] 24))
  have hX1 := Lib.hid (Bx.made w p N t)
  have hS := h.push (.cells #[.int .u64 p, .int .i64 N, .int .i64 t] 24)
  have hN' : (N : Int) ≤ 13 := by omega
  have htm : t - (xs.length : Int) = (m : Int) := by omega
  have hHT := Lib.hid ht
  have hh0 : Hid ((hon xs 0).length = 0) := Lib.hid rfl
  clear ht
  unfold pv
  go_enter Try.func19, Try.ntmps19
  go_wp2
  have hs1 : w.heap.size ≤ (w.alloc (.cells #[.int .u64 p, .int .i64 N, .int .i64 t] 24)).heap.size := by simp
  generalize w.alloc (.cells #[.int .u64 p, .int .i64 N, .int .i64 t] 24) = W1 at *
  go_loopw [5, 6, 7] (fun q v i wr => ∃ k : Nat, k ≤ N ∧ i = .int .i64 ((k : Int) + 1) ∧ (∃ d : Nat, q = .int .i64 d ∧ Hid (d = m - (hon xs k).length)) ∧ Hid (OI wr W1.heap.size v (sel (inE xs N m) k)) ∧ Below W1.heap.size W1 wr) (fun _ _ i _ => N + 1 - (intOf i).toNat)
  case atStart => exact ⟨0, Nat.zero_le _, rfl, ⟨m, rfl, Lib.hid (by rw [hh0.out]; rfl)⟩, Lib.hid (OI.nil _ _), Below.refl _ _⟩
  case round =>
    obtain ⟨k, hk, rfl, ⟨d, rfl, hd⟩, hO, hB⟩ := hrel
    obtain ⟨c0, c1, c2, hblt⟩ := hX1.out.next hB
    have hsz := hB.size
    by_cases hlt : k < N
    · have hkN : (k : Int) + 1 ≤ N := by omega
      have hin := in_any A c xs ((k : Int) + 1) hl wr (hS.next hB)
      have hkl := sel_len (inE xs N m) k
      have hdm : d ≤ m := by have := hd.out; omega
      by_cases hm : ((k : Int) + 1) ∈ xs
      · rw [decide_eq_true hm] at hin
        have hnx := Lib.hid (show sel (inE xs N m) (k + 1) = sel (inE xs N m) k ++ [(k : Int) + 1] from sel_yes (inE_has hm))
        have hhx := Lib.hid (show hon xs (k + 1) = hon xs k from sel_no (decide_eq_false (fun h => h hm)))
        have hrow := hO.out
        unfold OI at hrow
        have hHL : (sel (inE xs N m) k).length ≤ k := hkl
        generalize hHe : sel (inE xs N m) k = H at *
        have hrow' := Lib.hid hrow
        clear hm hHe hO hkl hrow
        go_wp2_with fail
        refine hin.mono ?_; rintro e w2 ⟨rfl, j, rfl⟩
        have hd2 := below_drewN hB j
        have hrow2 := own_belowN hrow'.out (below_drewN (Below.refl wr.heap.size wr) j)
        have hrow3 := hrow2.alloc (.cells #[.int .i64 ((k : Int) + 1)] 3)
        clear hrow2
        go_wp2_with (at_builtin; refine wpList_append_own _ rfl _ _ 25 rfl W1.heap.size 3 i0 (.int .i64 0) 1 8 Try.underlying25 hi0 hz0 hz1 hz2 rfl (by decide) _ _ _ rfl hrow3 ⟨wr.heap.size, 0, none⟩ 1 1 [.int .i64 ((k : Int) + 1)] rfl rfl (cell_one_new _ _ _) (by simp [Value.oneCell']) (by simp only [maxLen]; omega) (by omega) (by simp; omega) ?_; intro v' w3 hown hgrow _)
        have hB3 : Below W1.heap.size W1 w3 := (hd2.alloc (Nat.le_trans hsz (Nat.le_refl _)) _).grown hgrow (by simp; omega) (fun q e => (hrow3.lt q e).1)
        go_roundw
        case rel => exact ⟨k + 1, by omega, by simp, ⟨d, rfl, by rw [hhx.out]; exact hd⟩, by rw [hnx.out]; exact Lib.hid (OI.snoc rfl hown), hB3⟩
        case measure => simp [intOf]; omega
      · rw [decide_eq_false hm] at hin
        have hhx := Lib.hid (show (hon xs (k + 1)).length = (hon xs k).length + 1 by rw [show hon xs (k + 1) = hon xs k ++ [(k : Int) + 1] from sel_yes (decide_eq_true hm)]; simp)
        have hie := inE_next (m := m) hlt hm
        by_cases hd0 : 0 < d
        · have hd0' : (0 : Int) < d := by omega
          have hnx := Lib.hid (show sel (inE xs N m) (k + 1) = sel (inE xs N m) k ++ [(k : Int) + 1] from sel_yes (by rw [hie]; exact decide_eq_true (by have := hd.out; omega)))
          have hrow := hO.out
          unfold OI at hrow
          have hHL : (sel (inE xs N m) k).length ≤ k := hkl
          generalize hHe : sel (inE xs N m) k = H at *
          have hrow' := Lib.hid hrow
          clear hm hHe hO hkl hrow hie
          go_wp2_with fail
          refine hin.mono ?_; rintro e w2 ⟨rfl, j, rfl⟩
          have hd2 := below_drewN hB j
          have hrow2 := own_belowN hrow'.out (below_drewN (Below.refl wr.heap.size wr) j)
          have hrow3 := hrow2.alloc (.cells #[.int .i64 ((k : Int) + 1)] 3)
          clear hrow2
          go_wp2_with (at_builtin; refine wpList_append_own _ rfl _ _ 25 rfl W1.heap.size 3 i0 (.int .i64 0) 1 8 Try.underlying25 hi0 hz0 hz1 hz2 rfl (by decide) _ _ _ rfl hrow3 ⟨wr.heap.size, 0, none⟩ 1 1 [.int .i64 ((k : Int) + 1)] rfl rfl (cell_one_new _ _ _) (by simp [Value.oneCell']) (by simp only [maxLen]; omega) (by omega) (by simp; omega) ?_; intro v' w3 hown hgrow _)
          have hB3 : Below W1.heap.size W1 w3 := (hd2.alloc (Nat.le_trans hsz (Nat.le_refl _)) _).grown hgrow (by simp; omega) (fun q e => (hrow3.lt q e).1)
          go_roundw
          case rel => exact ⟨k + 1, by omega, by simp, ⟨d - 1, by congr 1; omega, Lib.hid (by rw [hhx.out]; have := hd.out; omega)⟩, by rw [hnx.out]; exact Lib.hid (OI.snoc rfl hown), hB3⟩
          case measure => simp [intOf]; omega
        · obtain rfl : d = 0 := by omega
          have hnx := Lib.hid (show sel (inE xs N m) (k + 1) = sel (inE xs N m) k from sel_no (by rw [hie]; exact decide_eq_false (by have := hd.out; omega)))
          clear hm hie
          go_wp2_with fail
          refine hin.mono ?_; rintro e w2 ⟨rfl, j, rfl⟩
          have hd2 := below_drewN (Below.refl wr.heap.size wr) j
          go_wp2_with fail
          go_roundw
          case rel => exact ⟨k + 1, by omega, by simp, ⟨0, rfl, Lib.hid (by rw [hhx.out]; have := hd.out; omega)⟩, by rw [hnx.out]; exact Lib.hid (hO.out.next hd2), below_drewN hB j⟩
          case measure => simp [intOf]; omega
    · obtain rfl : k = N := by omega
      go_wp2
      go_ret
      exact ⟨_, rfl, hO.out.weak hs1, hB1.out.trans (hB.mono hs1)⟩
end Go.Proofs.Ytkkfkkicbgejaaa
