/- Degree, Coefficient, trimmed, Trim of package poly (and slices.Clone, which Trim calls); Trim, Degree, Coefficient, Equal of the reference of layer 4. They read a list of words; nothing that lay is changed. Conditions: lists of at most 1000 words. -/
import Derived.Test.YtbhphamfkhccpaaPMem
import Derived.Test.YtbhphamfkhccpaaPStep
import Derived.Test.YtbhphamfkhccpaaRef01
import Derived.Lib.SliceRun
namespace Go.Proofs.Ytbhphamfkhccpaa
set_option maxRecDepth 100000
open Go.RowKit PolyMath

/-- A call hands back the words ys in memory of its own. -/
def Fresh (w : World) (e : Ending) (w' : World) (ys : List Int) : Prop :=
  ∃ v, e = .returned v ∧ w'.ownsRow w.heap.size 22 1 v ys.length (ys.map (Value.int .u64)) ∧ Below w.heap.size w w'
theorem Fresh.row {w w' : World} {e : Ending} {ys : List Int} (h : Fresh w e w' ys) : Row w e w' ys := by
  obtain ⟨v, rfl, ho, hb⟩ := h
  obtain ⟨A, c, rfl, hs⟩ := own_form ho
  exact ⟨A, c, rfl, hs, hb⟩

/-- The coefficient at any index. -/
def coI (xs : List Int) (i : Int) : Int := if 0 ≤ i then co xs i.toNat else 0
theorem coI_nat (xs : List Int) (n : Nat) : coI xs n = co xs n := by unfold coI; rw [if_pos (by omega)]; rfl

/-- What is appended: the first n words of what is read. -/
theorem Sl.news {w : World} {ad : Addr} {c : Nat} {xs : List Int} (h : Sl w (some ad) c xs) (o : Obj) (n : Nat) :
    ∀ j u, ((xs.take n).map (Value.int .u64))[j]? = some u → (w.alloc o).cell? (ad.add j) = some u := by
  intro j u hj
  rw [List.getElem?_map] at hj
  obtain ⟨x, hx, rfl⟩ := Option.map_eq_some_iff.1 hj
  obtain ⟨b', off', rfl, hb, hc⟩ := (h.push o).rd _ rfl (fun e => by rw [e] at hx; simp at hx)
  rw [Addr.add_lit]
  exact hc j x (by rw [List.getElem?_take] at hx; split at hx <;> first | exact hx | cases hx)
theorem take_len {xs : List Int} {n : Nat} (h : n ≤ xs.length) : ((xs.take n).map (Value.int .u64)).length = n * 1 := by
  rw [List.length_map, List.length_take]; omega
theorem one_cells (xs : List Int) : ∀ u ∈ xs.map (Value.int .u64), u.oneCell' = true := by
  intro u hu; obtain ⟨x, _, rfl⟩ := List.mem_map.1 hu; rfl

theorem own_lit0 (w : World) : Hid ((w.alloc (.cells #[] 22)).ownsRow w.heap.size 22 1 (.slice (some ⟨w.heap.size, 0, none⟩) 0 0) 0 []) := Lib.hid (World.ownsRow_lit w #[] 0 (Nat.le_refl _) (Nat.zero_le _) rfl)

set_option maxHeartbeats 1000000 in
theorem clone_any (A : Option Addr) (n c : Nat) (xs : List Int) (w : World) (h : Sl w A c xs) (hn : n ≤ xs.length) (hl : xs.length ≤ 1000) :
    Calls Try.prog 40 #[.slice A n c] w fun e w' => Fresh w e w' (xs.take n) := by
  obtain ⟨i0, hi, hz0, hz1, hz2⟩ := info_parts info_u64
  have hlit := own_lit0 w
  have q22 : ∀ (w : World) (a : Option Addr) (n c n' c' : Nat), (binOp .eql 42 (.slice a n c) (.slice none n' c')).run Try.prog w = .ok (.bool a.isNone) w := fun w a n c n' c' => Lib.run_eql_slice_nil w _ _ a n c n' c' Try.underlying42
  cases A with
  | none =>
    obtain ⟨rfl, rfl⟩ := h.empty rfl
    obtain rfl : n = 0 := by simpa using hn
    clear h
    go_enter Try.func40, Try.ntmps40
    go_wp2
    go_ret
    exact ⟨_, rfl, World.ownsRow_nil _ _ _ _, Below.refl _ _⟩
  | some ad =>
    have hnw := Lib.hid (h.news (.cells #[] 22) n)
    have hln := Lib.hid (take_len hn)
    have hon := Lib.hid (one_cells (xs.take n))
    clear h
    go_enter Try.func40, Try.ntmps40
    go_wp2_with (at_builtin; refine wpList_append_own _ rfl _ _ 42 rfl w.heap.size 22 i0 (.int .u64 0) 1 8 Try.underlying42 hi hz0 hz1 hz2 rfl (by decide) _ _ _ rfl hlit.out ad n c ((xs.take n).map (Value.int .u64)) rfl hln.out hnw.out hon.out (by simp only [maxLen]; omega) (by omega) (by simp) ?_; intro v' w1 hown hgrow _)
    go_ret
    refine ⟨v', rfl, ?_, ((Below.refl _ w).alloc (Nat.le_refl _) _).grown hgrow (by simp) (fun k e => (hlit.out.lt k e).1)⟩
    rw [List.length_take, Nat.min_eq_left hn]
    simpa using hown

end Go.Proofs.Ytbhphamfkhccpaa
