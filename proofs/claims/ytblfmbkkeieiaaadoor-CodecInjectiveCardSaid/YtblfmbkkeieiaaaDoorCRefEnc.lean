/- EncodeWords and EncodeLists of the reference of layer 3: the encoding; nothing that lay is changed. Conditions: words; at most 100000 of them. -/
import Derived.Test.YtblfmbkkeieiaaaDoorCBytes
import Derived.Lib.UnsafeStr
import Derived.Laws.IdiomStrings
import Derived.Laws.BytesArg
import Derived.Laws.OwnMore
import Derived.Laws.AppendOwnNone
import Derived.Test.YtblfmbkkeieiaaaDoorCSame
namespace Go.Proofs.YtblfmbkkeieiaaaDoor
open Go.RowKit CodMath

/-- A row of bytes that the call itself has made. -/
def OB (w wr : World) (v : Value) (L : List UInt8) : Prop := wr.ownsRow w.heap.size 5 1 v L.length (Lib.byteCells L) ∧ Below w.heap.size w wr
theorem OB.string {w wr : World} {v : Value} {L : List UInt8} (h : OB w wr v L) : (convert 46 9 v).run Tryd.prog wr = .ok (.string ⟨L.toArray⟩) wr := by
  rcases h.1.2 with ⟨rfl, h0⟩ | ⟨g, cap, cur, rfl, _, hh, _⟩
  · have : L = [] := List.eq_nil_of_length_eq_zero h0
    subst this
    exact run_convert_bytes_nil wr 46 5 Tryd.underlying46 Tryd.underlying5 0 0 _ Tryd.underlying9
  · refine run_convert_bytes_back wr 46 9 5 ⟨g, 0, none⟩ cap L Tryd.underlying46 Tryd.underlying5 Tryd.underlying9 (fun j hj => ?_)
    exact h.1.cells (g := g) rfl j _ (by simp [Lib.byteCells, List.getElem?_eq_getElem hj])

set_option maxRecDepth 100000 in
set_option maxHeartbeats 1000000 in
theorem rEncodeWords_any (A : Option Addr) (c : Nat) (xs : List Int) (w : World) (h : Rd w.heap.size w A xs) (hw : Words xs) (hl : xs.length ≤ 100000) :
    Calls Tryd.prog 15 #[.slice A xs.length c] w fun e w' => e = .returned (.string ⟨(enc xs).toArray⟩) ∧ Below w.heap.size w w' := by
  obtain ⟨i0, hi, hz0, hz1, hz2⟩ := info_parts info_u8
  go_enter Tryd.func15, Tryd.ntmps15
  go_wp2
  go_loopw [3, 4] (fun v i wr => ∃ (j : Nat), j ≤ xs.length ∧ i = .int .i64 j ∧ OB w wr v (enc (xs.take j))) (fun _ i _ => xs.length - (intOf i).toNat)
  case atStart => exact ⟨0, Nat.zero_le _, rfl, World.ownsRow_nil _ _ _ _, Below.refl _ _⟩
  case round =>
    obtain ⟨j, hj, rfl, hO⟩ := hrel
    by_cases hlt : j < xs.length
    · obtain ⟨x, hx⟩ : ∃ x, xs[j]? = some x := ⟨_, List.getElem?_eq_getElem hlt⟩
      have hxw := hw x (List.mem_of_getElem? hx)
      have hst : Hid (enc (xs.take j) ++ wb x = enc (xs.take (j + 1))) := Lib.hid (by rw [List.take_add_one, hx, Option.toList_some, enc_append, enc, enc, List.append_nil])
      have hel : Hid ((enc (xs.take j)).length ≤ 800000) := Lib.hid (by rw [enc_length, List.length_take]; omega)
      have hX := Lib.hid hx
      clear hx
      generalize enc (xs.take j) = L at hO hst hel
      go_wp2
      go_loopw [3, 5] (fun v i wr => ∃ (k : Nat), k ≤ 8 ∧ i = .int .i64 k ∧ OB w wr v (L ++ (wb x).take k)) (fun _ i _ => 8 - (intOf i).toNat)
      case atStart => exact ⟨0, Nat.zero_le _, rfl, by rw [List.take_zero, List.append_nil]; exact hO⟩
      case round =>
        obtain ⟨k, hk, rfl, hrow, hB⟩ := hrel
        by_cases hkl : k < 8
        · obtain ⟨b, off, y, rfl, _, hy, hc⟩ := (h.below hB).at_ hlt
          obtain rfl : x = y := by have := hX.out; rw [hy] at this; injection this with this; exact this.symm
          have hbyte := byte_wrap hxw.1 k
          have hstep := Lib.hid (wb_take_succ x k hkl)
          have hsz := hB.size
          have hll : Hid ((L ++ (wb x).take k).length ≤ 800008) := Lib.hid (by rw [List.length_append, List.length_take]; have := hel.out; omega)
          clear hy
          go_wp2_with (at_builtin; refine wpList_append_own _ rfl _ _ 46 rfl w.heap.size 5 i0 (.int .u8 0) 1 1 Tryd.underlying46 hi hz0 hz1 hz2 rfl (by decide) _ _ _ rfl (hrow.alloc _) ⟨wr.heap.size, 0, none⟩ 1 1 [.int .u8 ((byteAt x k).toNat : Int)] rfl rfl (cell_one_new _ _ _) (by simp [Value.oneCell']) (by have := hll.out; unfold maxLen; omega) (by have := hll.out; omega) (by simp; omega) ?_; intro v' w2 hown' hgrow _)
          have hB2 : Below w.heap.size w w2 := (hB.alloc hsz _).grown hgrow (by simp; omega) (fun k e => (hrow.lt k e).1)
          go_roundw
          case rel =>
            refine ⟨k + 1, by omega, by simp, ?_, hB2⟩
            rw [hstep.out, ← List.append_assoc]
            have e : Lib.byteCells (L ++ (wb x).take k ++ [byteAt x k]) = Lib.byteCells (L ++ (wb x).take k) ++ [.int .u8 ((byteAt x k).toNat : Int)] := by simp [Lib.byteCells]
            have el : (L ++ (wb x).take k ++ [byteAt x k]).length = (L ++ (wb x).take k).length + 1 := by rw [List.length_append, List.length_singleton]
            rw [e, el]
            exact hown'
          case measure => simp [intOf]; omega
        · obtain rfl : k = 8 := by omega
          have hO2 : OB w wr u3 (L ++ wb x) := ⟨hrow, hB⟩
          rw [hst.out] at hO2
          go_wp2
          go_roundw
          case rel => exact ⟨j + 1, by omega, by simp, hO2⟩
          case measure => simp [intOf]; omega
    · obtain rfl : j = xs.length := by omega
      have hs := hO.string
      rw [take_all (Nat.le_refl _)] at hs
      go_wp2
      go_ret
      exact ⟨rfl, hO.2⟩

/-- A row of words that the call itself has made. -/
def OW (w wr : World) (v : Value) (l : List Int) : Prop := wr.ownsRow w.heap.size 40 1 v l.length (l.map (Value.int .u64)) ∧ Below w.heap.size w wr

theorem cells_many {w : World} {B : Nat} {ad : Addr} {l : List Int} (h : Rd B w (some ad) l) : ∀ j u, (l.map (Value.int .u64))[j]? = some u → w.cell? (ad.add j) = some u := by
  intro j u hu
  rw [List.getElem?_map] at hu
  obtain ⟨y, hy, rfl⟩ := Option.map_eq_some_iff.1 hu
  obtain ⟨b, o, e, _, hc⟩ := h (fun e => by rw [e] at hy; simp at hy)
  cases e
  rw [show (⟨b, o, none⟩ : Addr).add j = ⟨b, o + j, none⟩ from by simp [Addr.add]]
  exact hc j y hy

set_option maxRecDepth 100000 in
set_option maxHeartbeats 1000000 in
theorem rEncodeLists_any (A : Option Addr) (c : Nat) (ls : List (List Int)) (w : World) (h : RdL w.heap.size w A ls) (hw : WordsL ls) (hl : ls.length + (rows ls).length ≤ 90000) :
    Calls Tryd.prog 21 #[.slice A ls.length c] w fun e w' => e = .returned (.string ⟨(encL ls).toArray⟩) ∧ Below w.heap.size w w' := by
  obtain ⟨i0, hi, hz0, hz1, hz2⟩ := info_parts info_u64
  go_enter Tryd.func21, Tryd.ntmps21
  go_wp2
  go_loopw [3, 4] (fun v i wr => ∃ (j : Nat), j ≤ ls.length ∧ i = .int .i64 j ∧ OW w wr v ((ls.length : Int) :: rows (ls.take j))) (fun _ i _ => ls.length - (intOf i).toNat)
  case atStart => exact ⟨0, Nat.zero_le _, rfl, World.ownsRow_lit w #[.int .u64 ls.length] 1 (Nat.le_refl _) (by unfold maxLen; omega) rfl, (Below.refl _ w).alloc (Nat.le_refl _) _⟩
  case round =>
    obtain ⟨j, hj, rfl, hrow, hB⟩ := hrel
    have hsz := hB.size
    by_cases hlt : j < ls.length
    · obtain ⟨bk, off, l, A', c', rfl, _, hx, hcx, hc0, hrl⟩ := (h.below hB).at_ hlt
      have hrs := rows_succ hx
      have hsp := rows_split ls (j + 1)
      have hlen : (rows (ls.take j)).length + 1 + l.length ≤ (rows ls).length := by
        rw [hsp, hrs, List.length_append, List.length_append, List.length_cons]; omega
      have hst : Hid ((ls.length : Int) :: rows (ls.take (j + 1)) = (ls.length : Int) :: rows (ls.take j) ++ [(l.length : Int)] ++ l) := Lib.hid (by rw [hrs]; simp)
      have hel : Hid (((ls.length : Int) :: rows (ls.take j)).length = (rows (ls.take j)).length + 1) := Lib.hid rfl
      clear hrs hsp hx
      generalize (ls.length : Int) :: rows (ls.take j) = L at hrow hst hel
      have hLL : L.length + 1 + l.length ≤ 100000 := by have := hel.out; omega
      have h1 : ∀ u ∈ l.map (Value.int .u64), u.oneCell' = true := fun u hu => by obtain ⟨y, _, rfl⟩ := List.mem_map.1 hu; rfl
      have hml : (l.map (Value.int .u64)).length = l.length * 1 := by rw [List.length_map, Nat.mul_one]
      have hML := Lib.hid hml
      clear hml
      go_wp2_with (at_builtin; refine wpList_append_own _ rfl _ _ 22 rfl w.heap.size 40 i0 (.int .u64 0) 1 8 Tryd.underlying22 hi hz0 hz1 hz2 rfl (by decide) _ _ _ rfl (hrow.alloc _) ⟨wr.heap.size, 0, none⟩ 1 1 [.int .u64 l.length] rfl rfl (cell_one_new _ _ _) (by simp [Value.oneCell']) (by unfold maxLen; omega) (by omega) (by simp; omega) ?_; intro v2 w2 hown2 hgrow2 _; refine Hid.out ?_)
      refine Lib.hid ?_
      have hB2 : Below w.heap.size wr w2 := ((Below.refl _ wr).alloc hsz _).grown hgrow2 (by simp; omega) (fun k e => (hrow.lt k e).1)
      have hsz2 := hB2.size
      have hcx2 : w2.cell? ⟨bk, off + j, none⟩ = some (.slice A' l.length c') := (hB2.cell (p := ⟨bk, off + j, none⟩) (by assumption)).trans hcx
      have hr2 := hrl.below hB2
      cases A' with
      | none =>
        have hl0 : l = [] := Classical.byContradiction fun hn => by obtain ⟨_, _, e, _⟩ := hrl hn; cases e
        subst hl0
        obtain rfl := hc0 rfl
        go_wp2_with (at_builtin; refine wpList_append_own_none rfl _ _ 22 rfl w.heap.size 40 i0 1 Tryd.underlying22 hi _ _ _ rfl hown2 rfl ?_)
        go_roundw
        case rel => exact ⟨j + 1, by omega, by simp, by rw [hst.out]; simpa using hown2, hB.trans hB2⟩
        case measure => simp [intOf]; omega
      | some ad =>
        go_wp2_with (at_builtin; refine wpList_append_own _ rfl _ _ 22 rfl w.heap.size 40 i0 (.int .u64 0) 1 8 Tryd.underlying22 hi hz0 hz1 hz2 rfl (by decide) _ _ _ rfl hown2 ad l.length c' (l.map (Value.int .u64)) rfl hML.out (cells_many hr2) h1 (by unfold maxLen; omega) (by omega) (by omega) ?_; intro v3 w3 hown3 hgrow3 _)
        have hB3 : Below w.heap.size wr w3 := hB2.grown hgrow3 (by omega) (fun k e => (hown2.lt k e).1)
        go_roundw
        case rel => exact ⟨j + 1, by omega, by simp, by rw [hst.out, List.map_append, List.map_append, List.length_append, List.length_append]; exact hown3, hB.trans hB3⟩
        case measure => simp [intOf]; omega
    · obtain rfl : j = ls.length := by omega
      rw [take_all (Nat.le_refl _)] at hrow
      obtain ⟨A3, c3, rfl, _, hR3⟩ := own_form hrow
      have hE := rEncodeWords_any A3 c3 (flat ls) wr hR3.rd (flat_words hw) (by rw [flat, List.length_cons]; omega)
      go_wp2_with (go_at_call 15; refine hE.mono ?_; rintro e w2 ⟨rfl, hb2⟩)
      go_ret
      exact ⟨rfl, hB.trans (hb2.mono hsz)⟩
end Go.Proofs.YtblfmbkkeieiaaaDoor
