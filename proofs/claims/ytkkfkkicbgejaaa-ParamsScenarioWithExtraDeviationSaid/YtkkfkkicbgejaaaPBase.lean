/- Degree, Coefficient, trimmed, Trim of package poly (and slices.Clone, which Trim calls); Trim, Degree, Coefficient, Equal of the reference of layer 4. They read a list of words; nothing that lay is changed. Conditions: lists of at most 1000 words. -/
import Derived.Test.YtkkfkkicbgejaaaPMem
import Derived.Test.YtkkfkkicbgejaaaPStep
import Derived.Test.YtkkfkkicbgejaaaRef01
import Derived.Lib.SliceRun
namespace Go.Proofs.Ytkkfkkicbgejaaa
set_option maxRecDepth 100000
open Go.RowKit PolyMath

/-- A call hands back the words ys in memory of its own. -/
def Fresh (w : World) (e : Ending) (w' : World) (ys : List Int) : Prop :=
  ∃ v, e = .returned v ∧ w'.ownsRow w.heap.size 22 1 v ys.length (ys.map (Value.int .u64)) ∧ Below w.heap.size w w'
theorem Fresh.row {w w' : World} {e : Ending} {ys : List Int} (h : Fresh w e w' ys) : Row w e w' ys := by
  obtain ⟨v, rfl, ho, hb⟩ := h
  obtain ⟨A, c, rfl, hs⟩ := own_form ho
  exact ⟨A, c, rfl, hs, hb⟩

theorem degree_any (A : Option Addr) (c : Nat) (xs : List Int) (w : World) (h : Sl w A c xs) (hl : xs.length ≤ 1000) :
    Calls Try.prog 74 #[.slice A xs.length c] w fun e w' => e = .returned (.int .i64 ((tn xs : Int) - 1)) ∧ w = w' := by
  go_enter Try.func74, Try.ntmps74
  go_wp2
  go_loop [3] (fun i => ∃ k : Nat, k ≤ xs.length ∧ i = .int .i64 ((k : Int) - 1) ∧ Hid (Fin (co xs) k)) (fun i => (intOf i + 1).toNat)
  case atStart => exact ⟨xs.length, Nat.le_refl _, rfl, Lib.hid (co_fin xs)⟩
  case round =>
    obtain ⟨k, hk, rfl, hF⟩ := hrel
    cases k with
    | zero =>
      have hT := Lib.hid (tn_eq hF.out (fun h => absurd h (by omega)))
      clear hF
      go_wp2
      go_ret
      exact ⟨by rw [hT.out]; rfl, rfl⟩
    | succ m =>
      obtain ⟨b, off, x, hA, _, hx, hc⟩ := h.at_ (k := m) (by omega)
      subst hA
      rw [show (((m + 1 : Nat) : Int) - 1) = (m : Int) from by omega]
      have hm : (m : Int) < xs.length := by omega
      by_cases hz : x = 0
      · subst hz
        have hN : Hid (Fin (co xs) m) := Lib.hid fun n hn => by
          by_cases e : n = m
          · subst e; exact co_at hx
          · exact hF.out n (by omega)
        clear hF hx
        go_wp2
        go_round
        case rel => exact ⟨m, by omega, rfl, hN⟩
        case measure => simp [intOf]
      · have hT := Lib.hid (tn_eq hF.out (fun _ => by rw [Nat.add_sub_cancel, co_at hx]; exact hz))
        have hne : (x == 0) = false := beq_eq_false_iff_ne.2 hz
        clear hF hx hz
        go_wp2
        go_ret
        exact ⟨by rw [hT.out, show (((m + 1 : Nat) : Int) - 1) = (m : Int) from by omega]; rfl, rfl⟩

/-- The coefficient at any index. -/
def coI (xs : List Int) (i : Int) : Int := if 0 ≤ i then co xs i.toNat else 0
theorem coI_nat (xs : List Int) (n : Nat) : coI xs n = co xs n := by unfold coI; rw [if_pos (by omega)]; rfl

theorem coef_any (A : Option Addr) (c : Nat) (xs : List Int) (i : Int) (w : World) (h : Sl w A c xs) :
    Calls Try.prog 75 #[.slice A xs.length c, .int .i64 i] w fun e w' => e = .returned (.int .u64 (coI xs i)) ∧ w = w' := by
  by_cases h0 : i < 0
  · rw [show coI xs i = 0 from if_neg (by omega)]
    go_enter Try.func75, Try.ntmps75
    go_wp2
    go_ret
    exact ⟨rfl, rfl⟩
  · obtain ⟨n, rfl⟩ : ∃ n : Nat, i = n := ⟨i.toNat, by omega⟩
    rw [coI_nat]
    by_cases h1 : n < xs.length
    · obtain ⟨b, off, x, hA, _, hx, hc⟩ := h.at_ h1
      subst hA
      rw [co_at hx]
      have hi : (n : Int) < xs.length := by omega
      clear hx
      go_enter Try.func75, Try.ntmps75
      go_wp2
      go_ret
      exact ⟨rfl, rfl⟩
    · rw [co_fin xs n (by omega)]
      have hi : (xs.length : Int) ≤ n := by omega
      go_enter Try.func75, Try.ntmps75
      go_wp2
      go_ret
      exact ⟨rfl, rfl⟩

theorem trimmed_any (A : Option Addr) (c : Nat) (xs : List Int) (w : World) (h : Sl w A c xs) (hl : xs.length ≤ 1000) :
    Calls Try.prog 78 #[.slice A xs.length c] w fun e w' => e = .returned (.slice A (trim xs).length c) ∧ w = w' := by
  rw [trim_length]
  have h1 := tn_le xs
  have h2 := h.cap
  have hdeg := degree_any A c xs w h hl
  have hn := h.nil
  generalize tn xs = n at *
  have hcap : (n : Int) ≤ c := by omega
  cases A with
  | none =>
    obtain rfl := hn rfl
    obtain rfl : n = 0 := by omega
    go_enter Try.func78, Try.ntmps78
    go_wp2_with (go_at_call 74; refine hdeg.mono ?_; rintro e w' ⟨rfl, rfl⟩)
    go_ret
    exact ⟨rfl, rfl⟩
  | some ad =>
    go_enter Try.func78, Try.ntmps78
    go_wp2_with (go_at_call 74; refine hdeg.mono ?_; rintro e w' ⟨rfl, rfl⟩)
    go_ret
    exact ⟨rfl, rfl⟩

/-- What is appended: the first n words of what is read. -/
theorem Sl.news {w : World} {ad : Addr} {c : Nat} {xs : List Int} (h : Sl w (some ad) c xs) (o : Obj) (n : Nat) :
    ∀ j u, ((xs.take n).map (Value.int .u64))[j]? = some u → (w.alloc o).cell? (ad.add j) = some u := by
  intro j u hj
  rw [List.getElem?_map] at hj
  obtain ⟨x, hx, rfl⟩ := Option.map_eq_some_iff.1 hj
  obtain ⟨b', off', rfl, hb, hc⟩ := (h.push o).rd _ rfl (fun e => by rw [e] at hx; simp at hx)
  rw [Addr.add_lit]
  exact hc j x (by rw [List.getElem?_take] at hx; split at hx <;> first | exact hx | cases hx)
theorem take_len {xs : List Int} {n : Nat} (h : n ≤ xs.length) : ((xs.take n).map (Value.int .u64)).length = n * 1 := by
  rw [List.length_map, List.length_take]; omega
theorem one_cells (xs : List Int) : ∀ u ∈ xs.map (Value.int .u64), u.oneCell' = true := by
  intro u hu; obtain ⟨x, _, rfl⟩ := List.mem_map.1 hu; rfl

theorem own_lit0 (w : World) : Hid ((w.alloc (.cells #[] 22)).ownsRow w.heap.size 22 1 (.slice (some ⟨w.heap.size, 0, none⟩) 0 0) 0 []) := Lib.hid (World.ownsRow_lit w #[] 0 (Nat.le_refl _) (Nat.zero_le _) rfl)

set_option maxHeartbeats 1000000 in
theorem clone_any (A : Option Addr) (n c : Nat) (xs : List Int) (w : World) (h : Sl w A c xs) (hn : n ≤ xs.length) (hl : xs.length ≤ 1000) :
    Calls Try.prog 86 #[.slice A n c] w fun e w' => Fresh w e w' (xs.take n) := by
  obtain ⟨i0, hi, hz0, hz1, hz2⟩ := info_parts info_u64
  have hlit := own_lit0 w
  have q22 : ∀ (w : World) (a : Option Addr) (n c n' c' : Nat), (binOp .eql 33 (.slice a n c) (.slice none n' c')).run Try.prog w = .ok (.bool a.isNone) w := fun w a n c n' c' => Lib.run_eql_slice_nil w _ _ a n c n' c' Try.underlying33
  cases A with
  | none =>
    obtain ⟨rfl, rfl⟩ := h.empty rfl
    obtain rfl : n = 0 := by simpa using hn
    clear h
    go_enter Try.func86, Try.ntmps86
    go_wp2
    go_ret
    exact ⟨_, rfl, World.ownsRow_nil _ _ _ _, Below.refl _ _⟩
  | some ad =>
    have hnw := Lib.hid (h.news (.cells #[] 22) n)
    have hln := Lib.hid (take_len hn)
    have hon := Lib.hid (one_cells (xs.take n))
    clear h
    go_enter Try.func86, Try.ntmps86
    go_wp2_with (at_builtin; refine wpList_append_own _ rfl _ _ 33 rfl w.heap.size 22 i0 (.int .u64 0) 1 8 Try.underlying33 hi hz0 hz1 hz2 rfl (by decide) _ _ _ rfl hlit.out ad n c ((xs.take n).map (Value.int .u64)) rfl hln.out hnw.out hon.out (by simp only [maxLen]; omega) (by omega) (by simp) ?_; intro v' w1 hown hgrow _)
    go_ret
    refine ⟨v', rfl, ?_, ((Below.refl _ w).alloc (Nat.le_refl _) _).grown hgrow (by simp) (fun k e => (hlit.out.lt k e).1)⟩
    rw [List.length_take, Nat.min_eq_left hn]
    simpa using hown

theorem trim_any (A : Option Addr) (c : Nat) (xs : List Int) (w : World) (h : Sl w A c xs) (hl : xs.length ≤ 1000) :
    Calls Try.prog 76 #[.slice A xs.length c] w fun e w' => Fresh w e w' (trim xs) := by
  have h1 := tn_le xs
  have htr := trimmed_any A c xs w h hl
  have hcl := clone_any A (trim xs).length c xs w h (by rw [trim_length]; exact h1) hl
  rw [show xs.take (trim xs).length = trim xs from by rw [trim_length]; rfl] at hcl
  go_enter Try.func76, Try.ntmps76
  go_wp2_with fail
  refine htr.mono ?_; rintro e w' ⟨rfl, rfl⟩
  go_wp2_with fail
  refine hcl.mono ?_; rintro e w' ⟨v, rfl, ho, hb⟩
  go_wp2_with fail
  go_ret
  exact ⟨v, rfl, ho, hb⟩

set_option maxHeartbeats 1000000 in
theorem rTrim_any (A : Option Addr) (c : Nat) (xs : List Int) (w : World) (h : Sl w A c xs) (hl : xs.length ≤ 1000) :
    Calls Try.prog 62 #[.slice A xs.length c] w fun e w' => Row w e w' (trim xs) := by
  obtain ⟨i0, hi, hz0, hz1, hz2⟩ := info_parts info_u64
  have hcap := h.cap
  have hlit := own_lit0 w
  go_enter Try.func62, Try.ntmps62
  go_wp2
  go_loop [3] (fun i => ∃ k : Nat, k ≤ xs.length ∧ i = .int .i64 k ∧ Hid (Fin (co xs) k)) (fun i => (intOf i).toNat)
  case atStart => exact ⟨xs.length, Nat.le_refl _, rfl, Lib.hid (co_fin xs)⟩
  case round =>
    obtain ⟨k, hk, rfl, hF⟩ := hrel
    cases k with
    | zero =>
      have hT := Lib.hid (tn_eq hF.out (fun h => absurd h (by omega)))
      clear hF
      have hend := Lib.hid ((trim_nil_iff xs).2 hT.out)
      cases A with
      | none =>
        obtain ⟨rfl, rfl⟩ := h.empty rfl
        go_wp2_with (at_builtin; refine wpList_append_own_none rfl _ _ 33 rfl w.heap.size 22 i0 1 Try.underlying33 hi _ _ _ rfl hlit.out rfl ?_)
        go_ret
        rw [hend.out]
        exact (Fresh.row ⟨_, rfl, hlit.out, (Below.refl _ w).alloc (Nat.le_refl _) _⟩)
      | some ad =>
        have hnw := Lib.hid (h.news (.cells #[] 22) 0)
        clear h
        go_wp2_with (at_builtin; refine wpList_append_own _ rfl _ _ 33 rfl w.heap.size 22 i0 (.int .u64 0) 1 8 Try.underlying33 hi hz0 hz1 hz2 rfl (by decide) _ _ _ rfl hlit.out ad 0 c [] rfl rfl hnw.out (fun _ h => absurd h (by simp)) (by simp only [maxLen]; omega) (by omega) (by simp) ?_; intro v' w1 hown hgrow _)
        go_ret
        rw [hend.out]
        exact Fresh.row ⟨v', rfl, by simpa using hown, ((Below.refl _ w).alloc (Nat.le_refl _) _).grown hgrow (by simp) (fun k e => (hlit.out.lt k e).1)⟩
    | succ m =>
      obtain ⟨b, off, x, hA, _, hx, hc⟩ := h.at_ (k := m) (by omega)
      subst hA
      have hm : (m : Int) < xs.length := by omega
      by_cases hz : x = 0
      · subst hz
        have hN : Hid (Fin (co xs) m) := Lib.hid fun n hn => by
          by_cases e : n = m
          · subst e; exact co_at hx
          · exact hF.out n (by omega)
        clear hF hx
        go_wp2
        go_round
        case rel => exact ⟨m, by omega, by simp, hN⟩
        case measure => simp [intOf]
      · have ht : tn xs = m + 1 := tn_eq hF.out (fun _ => by rw [Nat.add_sub_cancel, co_at hx]; exact hz)
        have hT : Hid (trim xs = xs.take (m + 1)) := Lib.hid (by unfold trim; rw [ht])
        have hne : (x == 0) = false := beq_eq_false_iff_ne.2 hz
        have hnw := Lib.hid (h.news (.cells #[] 22) (m + 1))
        have hln := Lib.hid (take_len hk)
        have hon := Lib.hid (one_cells (xs.take (m + 1)))
        clear hF hx hz ht h
        go_wp2_with (at_builtin; refine wpList_append_own _ rfl _ _ 33 rfl w.heap.size 22 i0 (.int .u64 0) 1 8 Try.underlying33 hi hz0 hz1 hz2 rfl (by decide) _ _ _ rfl hlit.out ⟨b, off, none⟩ (m + 1) c ((xs.take (m + 1)).map (Value.int .u64)) rfl hln.out hnw.out hon.out (by simp only [maxLen]; omega) (by omega) (by simp) ?_; intro v' w1 hown hgrow _)
        go_ret
        refine Fresh.row ⟨v', rfl, ?_, ((Below.refl _ w).alloc (Nat.le_refl _) _).grown hgrow (by simp) (fun k e => (hlit.out.lt k e).1)⟩
        rw [hT.out, List.length_take, Nat.min_eq_left hk]
        simpa using hown

end Go.Proofs.Ytkkfkkicbgejaaa
