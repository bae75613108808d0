/- grow of strings.Builder at this program: the bytes go over into a new row; nothing else that lay is changed. Conditions: at most 10000000 bytes. -/
import Derived.Test.YtblfmbkkeieiaaaDoorCBuild
namespace Go.Proofs.YtblfmbkkeieiaaaDoor
open Go.RowKit CodMath

/-- The new row of a builder that grows. -/
theorem grown_row {B b cap : Nat} {A : Option Addr} {l : List UInt8} {p : Value} {w w2 : World} {cs : Array Value} (hB : B ≤ b) (hBw : B ≤ w.heap.size)
    (hbk : w2.heap[b]? = some (.cells #[p, .slice A l.length cap] 48 (0, 0))) (hg : w2.heap[w.heap.size]? = some (.cells cs 5 (0, 0))) (hm : cs.size ≤ maxLen) (hl : l.length ≤ cs.size)
    (htake : cs.toList.take l.length = Lib.byteCells l) : Lib.BuilderAt 48 5 B b p (Lib.byteCells l) (w2.setCell ⟨b, 1, none⟩ (.slice (some ⟨w.heap.size, 0, none⟩) l.length cs.size)) :=
  Lib.BuilderAt.put (T := 48) (e := 5) hB hbk (bs' := Lib.byteCells l) (by
    rw [Lib.byteCells_length]
    exact ⟨by rw [Lib.byteCells_length, Nat.mul_one], .inr ⟨_, _, cs, rfl, hBw, hg, hl, hm, by rw [Nat.mul_one], by rw [Nat.mul_one]; exact htake⟩⟩) bNe

theorem size_u8 : (Tryd.prog.info? 5).map (·.size) = some 1 := by kernel_rfl

set_option maxHeartbeats 2000000 in
set_option maxRecDepth 1000000 in
theorem grow_any (B b n cap : Nat) (A : Option Addr) (l : List UInt8) (w : World) (hB : B ≤ b) (hBw : B ≤ w.heap.size) (hn : n ≤ 10000000) (hl : l.length ≤ 10000000) (hcap : cap ≤ 20000000) (hlc : l.length ≤ cap)
    (hbk : w.heap[b]? = some (.cells #[.pointer (some ⟨b, 0, none⟩), .slice A l.length cap] 48 (0, 0)))
    (hsrc : l ≠ [] → ∃ g cur, A = some ⟨g, 0, none⟩ ∧ w.heap[g]? = some (.cells cur 5 (0, 0)) ∧ cur.toList.take l.length = Lib.byteCells l) :
    Calls Tryd.prog 42 #[.pointer (some ⟨b, 0, none⟩), .int .i64 n] w fun e w' => e = .returned (.tuple #[]) ∧ BldU B b l w' ∧ BKeeps B b w w' := by
  obtain ⟨cs, hrun, hle, hmax⟩ := Lib.run_makeNoZero (P := Tryd.prog) w.drew #[3] 46 5 Tryd.underlying46 (2 * cap + n) (by omega)
  have hw : IntKind.i64.wrap (IntKind.i64.wrap (2 * (cap : Int)) + (n : Int)) = ((2 * cap + n : Nat) : Int) := by
    rw [IntKind.wrap_i64, IntKind.wrap_i64]
    omega
  have hcall : (callFunc 55 #[.int .i64 (IntKind.i64.wrap (IntKind.i64.wrap (2 * (cap : Int)) + (n : Int)))]).run Tryd.prog w.drew = .ok (.value (.slice (some ⟨w.drew.heap.size, 0, none⟩) (2 * cap + n) cs.size)) (w.drew.drew.drew.alloc (.cells cs 5)) := by
    rw [hw, run_callFunc_extern Tryd.func55 (by kernel_rfl) (by kernel_rfl) (by kernel_rfl) (e := Extern.BytealgMakeNoZero.makeNoZero #[3] #[46]) (by kernel_rfl), hrun]
    rfl
  have hlt := lt_of_block hbk
  have c1 : w.drew.cell? ⟨b, 1, none⟩ = some (.slice A l.length cap) := by
    have : w.drew.heap[b]? = _ := hbk
    rw [Lib.cell_of_heap this]; rfl
  have hbk2 : (w.alloc (.cells cs 5)).heap[b]? = some (.cells #[.pointer (some ⟨b, 0, none⟩), .slice A l.length cap] 48 (0, 0)) := (Lib.alloc_old w _ b hlt).trans hbk
  have c2 : (w.alloc (.cells cs 5)).cell? ⟨b, 1, none⟩ = some (.slice A l.length cap) := by rw [Lib.cell_of_heap hbk2]; rfl
  have f2 : (w.alloc (.cells cs 5)).frozen? ⟨b, 1, none⟩ = false := Lib.frozen_of_heap hbk2 1
  have hlcs : l.length ≤ cs.size := by omega
  have mixed : Tryd.prog.follows .mixedOrders = true := by kernel_rfl
  obtain ⟨X, hX⟩ : ∃ X, X = Lib.byteCells l := ⟨_, rfl⟩
  have hXl : X.length = l.length := by rw [hX, Lib.byteCells_length]
  have hXL := Lib.hid hXl
  have hone : ∀ v ∈ X, v.oneCell' = true := by
    rw [hX]
    intro v hv
    obtain ⟨y, _, rfl⟩ := List.mem_map.1 hv
    rfl
  have hM : Hid (X.length = Nat.min l.length l.length) := Lib.hid (by rw [hXl]; exact (Nat.min_self _).symm)
  have hG0 : Hid ((w.alloc (.cells cs 5)).drew.drew.drew.heap[w.heap.size]? = some (.cells cs.toList.toArray 5 (0, 0))) := Lib.hid (by rw [Array.toArray_toList]; exact World.alloc_heap_new w _)
  have hbel : Below w.heap.size w (w.alloc (.cells cs 5)).drew.drew.drew := ((Below.refl _ w).alloc (Nat.le_refl _) _).drew.drew.drew
  have hcopy : Hid (0 < X.length → ∃ ad, A = some ad ∧ ∀ (j : Nat) (v : Value), X[j]? = some v → (w.alloc (.cells cs 5)).drew.drew.drew.cell? (ad.add j) = some v) := Lib.hid (fun hpos => by
    obtain ⟨g, cur, e, hg, htk⟩ := hsrc (fun e => by rw [hXl, e] at hpos; exact absurd hpos (Nat.lt_irrefl 0))
    refine ⟨⟨g, 0, none⟩, e, fun j v hv => ?_⟩
    have hj := (List.getElem?_eq_some_iff.1 hv).1
    have hg2 : (w.alloc (.cells cs 5)).drew.drew.drew.heap[g]? = some (.cells cur 5 (0, 0)) := (Lib.alloc_old w _ g (lt_of_block hg)).trans hg
    rw [show (⟨g, 0, none⟩ : Addr).add j = ⟨g, j, none⟩ from by unfold Addr.add; split <;> simp_all, Lib.cell_of_heap hg2]
    rw [hX, ← htk, List.getElem?_take, if_pos (by omega), Array.getElem?_toList] at hv
    exact hv)
  have hfin : ∀ w2 : World, w2.heap[w.heap.size]? = some (.cells (splice cs.toList 0 X).toArray 5 (0, 0)) → Below w.heap.size w w2 →
      BldU B b l (w2.setCell ⟨b, 1, none⟩ (.slice (some ⟨w.heap.size, 0, none⟩) l.length cs.size)) ∧ BKeeps B b w (w2.setCell ⟨b, 1, none⟩ (.slice (some ⟨w.heap.size, 0, none⟩) l.length cs.size)) := fun w2 hG hb2 => by
    have hsl : (splice cs.toList 0 X).length = cs.size := by
      have e := Array.length_toList (xs := cs)
      rw [length_splice _ _ _ (by omega), e]
    have hsz : (splice cs.toList 0 X).toArray.size = cs.size := by rw [List.size_toArray]; exact hsl
    refine ⟨?_, (hb2.mono hBw).setCell (p := ⟨b, 1, none⟩) hB _, ?_⟩
    · have := grown_row (B := B) (b := b) (A := A) (cap := cap) (l := l) (p := .pointer (some ⟨b, 0, none⟩)) (w := w) (w2 := w2) (cs := (splice cs.toList 0 X).toArray) hB hBw ((hb2.block b hlt).trans hbk) hG (by rw [hsz]; exact hmax (by unfold maxLen; omega)) (by rw [hsz]; exact hlcs)
        (by rw [splice, List.take_zero, List.nil_append, ← hX, ← hXl, List.take_left])
      rw [hsz] at this
      exact this
    · refine Lib.OthersKept.setCell ?_ ⟨b, 1, none⟩ rfl _
      intro k o hk _ _
      rw [hb2.block k (lt_of_block hk)]
      exact hk
  obtain ⟨W2, hcp, hG2, hB2⟩ : ∃ W2, (Builtin.copy_ #[46, 46] 3 #[.slice (some ⟨w.heap.size, 0, none⟩) l.length cs.size, .slice A l.length cap]).run Tryd.prog (w.alloc (.cells cs 5)).drew.drew.drew = .ok (goInt l.length) W2 ∧
      W2.heap[w.heap.size]? = some (.cells (splice cs.toList 0 X).toArray 5 (0, 0)) ∧ Below w.heap.size w W2 := by
    by_cases h0 : X.length = 0
    · obtain rfl : X = [] := List.eq_nil_of_length_eq_zero h0
      have hl0 : l.length = 0 := hXl.symm
      refine ⟨_, ?_, ?_, hbel⟩
      · rw [hl0]
        exact run_copy_none _ 46 46 3 5 _ _ 0 cs.size 0 cap Tryd.underlying46 size_u8 rfl
      · rw [show splice cs.toList 0 ([] : List Value) = cs.toList from by simp [splice]]
        exact hG0.out
    · obtain ⟨ad, rfl, hc⟩ := hcopy.out (by omega)
      have e := Array.length_toList (xs := cs)
      have hr := run_copy_row (P := Tryd.prog) (w.alloc (.cells cs 5)).drew.drew.drew 46 46 3 5 w.heap.size 0 l.length cs.size ad l.length cap cs.toList.toArray 5 X Tryd.underlying46 size_u8 hG0.out hM.out hc (by rw [List.size_toArray]; omega) hone
      rw [hXl] at hr
      exact ⟨_, hr, by simpa [splice, hXl] using setRow_heap _ w.heap.size _ _ 5 _ hG0.out, below_setRow hbel (Nat.le_refl _) _⟩
  have hbk3 := (hB2.block b hlt).trans hbk
  have c3 : W2.cell? ⟨b, 1, none⟩ = some (.slice A l.length cap) := by rw [Lib.cell_of_heap hbk3]; rfl
  have f3 := Lib.frozen_of_heap hbk3 1
  have hF := hfin W2 hG2 hB2
  clear hw hX hXl hsrc hrun hbk3 hB2 hG2 hfin hcopy hone hbel hG0 hM hXL
  go_enter Tryd.func42, Tryd.ntmps42
  go_wp2
  go_region_o
  all_goals
    go_wp2
    go_end0
    exact ⟨rfl, hF⟩
end Go.Proofs.YtblfmbkkeieiaaaDoor
