/- EncodeWords and EncodeLists of package codec: the encoding; nothing that lay is changed. Conditions: words; at most 100000 of them. -/
import Derived.Test.YtblfmbkkeieiaaaDoorCWrite
import Derived.Test.YtblfmbkkeieiaaaDoorShelf
namespace Go.Proofs.YtblfmbkkeieiaaaDoor
open Go.RowKit CodMath

theorem fresh_bld (w : World) : Bld w.heap.size w.heap.size [] (w.alloc (.cells #[.pointer none, .slice none 0 0] 48)) := Lib.fresh_isBuilder _ _ w

set_option maxRecDepth 100000 in
theorem encodeWords_any (A : Option Addr) (c : Nat) (xs : List Int) (w : World) (h : Rd w.heap.size w A xs) (hw : Words xs) (hl : xs.length ≤ 100000) :
    Calls Tryd.prog 13 #[.slice A xs.length c] w fun e w' => e = .returned (.string ⟨(enc xs).toArray⟩) ∧ Below w.heap.size w w' := by
  have hb0 : Below w.heap.size w (w.alloc (.cells #[.pointer none, .slice none 0 0] 48)) := (Below.refl _ w).alloc (Nat.le_refl _) _
  have hW := writeWords_any w.heap.size w.heap.size c A [] xs (w.alloc (.cells #[.pointer none, .slice none 0 0] 48)) (fresh_bld w) (by simp) hw (by simp; omega) (fun W' hk => h.next (hb0.trans hk.1))
  go_enter Tryd.func13, Tryd.ntmps13
  go_wp2_with (first
    | (go_at_call 28; refine hW.mono ?_; rintro e w1 ⟨rfl, hU, hb1⟩; have hs1 := (hb0.trans hb1).size)
    | (go_at_call 29; refine (Tryd.Builder_String_any _ _ _ _ (.inr hU) hs1).mono ?_; rintro e w2 ⟨rfl, hb2⟩))
  go_ret
  exact ⟨rfl, (hb0.trans hb1).trans hb2⟩

theorem rd_lit {B b : Nat} {w W' : World} (n : Int) (hb : b < w.heap.size) (hk : BKeeps B b (w.alloc (.cells #[.int .u64 n] 40)) W') : Rd W'.heap.size W' (some ⟨w.heap.size, 0, none⟩) [n] := by
  have hbx := hk.box (Boxed.new w 40 (.int .u64 n)) (by omega) (by decide)
  refine fun _ => ⟨w.heap.size, 0, rfl, hbx.lt, fun j x hx => ?_⟩
  obtain ⟨hj, e⟩ := List.getElem?_eq_some_iff.1 hx
  simp only [List.length_singleton] at hj
  obtain rfl : j = 0 := by omega
  simp only [List.getElem_cons_zero] at e
  subst e
  exact hbx.cell

/-- writeWords of one word that the call itself lays. -/
theorem writeOne (B b : Nat) (l : List UInt8) (n : Int) (w : World) (h : Bld B b l w) (hBw : B ≤ w.heap.size) (h0 : 0 ≤ n) (h1 : n ≤ 18446744073709551615) (hl : l.length ≤ 4000000) :
    Calls Tryd.prog 28 #[.pointer (some ⟨b, 0, none⟩), .slice (some ⟨w.heap.size, 0, none⟩) 1 1] (w.alloc (.cells #[.int .u64 n] 40)) fun e w' => e = .returned (.tuple #[]) ∧ BldU B b (l ++ wb n) w' ∧ Below B w w' := by
  have hb : b < w.heap.size := by rcases h with h | h <;> exact h.lt
  refine (writeWords_any B b 1 (some ⟨w.heap.size, 0, none⟩) l [n] _ (h.alloc _) (by simp; omega) (fun x hx => by rw [List.mem_singleton.1 hx]; exact ⟨h0, h1⟩) (by simp; omega) (fun W' hk => rd_lit n hb hk)).mono ?_
  rintro e w' ⟨rfl, hU, hb'⟩
  refine ⟨rfl, by simpa [enc] using hU, ((Below.refl B w).alloc hBw _).trans hb'⟩


set_option maxRecDepth 100000 in
set_option maxHeartbeats 1000000 in
theorem encodeLists_any (A : Option Addr) (c : Nat) (ls : List (List Int)) (w : World) (h : RdL w.heap.size w A ls) (hw : WordsL ls) (hl : ls.length + (rows ls).length ≤ 100000) :
    Calls Tryd.prog 19 #[.slice A ls.length c] w fun e w' => e = .returned (.string ⟨(encL ls).toArray⟩) ∧ Below w.heap.size w w' := by
  have hb0 : Below w.heap.size w (w.alloc (.cells #[.pointer none, .slice none 0 0] 48)) := (Below.refl _ w).alloc (Nat.le_refl _) _
  have hW := writeOne w.heap.size w.heap.size [] ls.length (w.alloc (.cells #[.pointer none, .slice none 0 0] 48)) (fresh_bld w) (by simp) (by omega) (by omega) (by simp)
  simp only [World.size_alloc, List.nil_append] at hW
  go_enter Tryd.func19, Tryd.ntmps19
  go_wp2_with (go_at_call 28; refine hW.mono ?_; rintro e w1 ⟨rfl, hU, hb1⟩; replace hb1 := hb0.trans hb1)
  clear hW hb0
  go_loopw [13] (fun i wr => ∃ j : Nat, j ≤ ls.length ∧ i = .int .i64 j ∧ BldU w.heap.size w.heap.size (enc ((ls.length : Int) :: rows (ls.take j))) wr ∧ Below w.heap.size w wr) (fun i _ => ls.length - (intOf i).toNat)
  case atStart => exact ⟨0, Nat.zero_le _, rfl, by simpa [enc, rows] using hU, hb1⟩
  case round =>
    obtain ⟨j, hj, rfl, hbU, hB⟩ := hrel
    have hsz := hB.size
    by_cases hlt : j < ls.length
    · obtain ⟨bk, off, l, A', c', rfl, _, hx, hcx, _, hrl⟩ := (h.below hB).at_ hlt
      have hlw := hw.2 l (List.mem_of_getElem? hx)
      have hrs := rows_succ hx
      have hsp := rows_split ls (j + 1)
      have hlen : (rows (ls.take j)).length + 1 + l.length ≤ (rows ls).length := by
        rw [hsp, hrs, List.length_append, List.length_append, List.length_cons]; omega
      have hel : (enc ((ls.length : Int) :: rows (ls.take j))).length = 8 * ((rows (ls.take j)).length + 1) := by rw [enc_length, List.length_cons]
      have hst : Hid (enc ((ls.length : Int) :: rows (ls.take j)) ++ wb l.length ++ enc l = enc ((ls.length : Int) :: rows (ls.take (j + 1)))) := Lib.hid (by
        rw [hrs, ← List.cons_append, enc_append, List.append_assoc]; rfl)
      clear hrs hsp hx
      generalize enc ((ls.length : Int) :: rows (ls.take j)) = L at hbU hel hst
      have hEL := Lib.hid hel
      clear hel
      have hW := writeOne w.heap.size w.heap.size L l.length wr (.inr hbU) hsz (by omega) (by omega) (by rw [hEL.out]; omega)
      have hll : l.length ≤ 100000 := by omega
      go_wp2_with (first
        | (go_at_call 28; refine hW.mono ?_; clear hW; rintro e w2 ⟨rfl, hU2, hb2⟩; have hW2 := writeWords_any w.heap.size w.heap.size c' A' (L ++ wb l.length) l w2 (.inr hU2) (by have := hb2.size; omega) hlw.2 (by rw [List.length_append, hEL.out, wb_length]; omega) (fun W' hk => (hrl.below (hb2.trans hk.1)).more (by have := (hb2.trans hk.1).size; omega)))
        | (go_at_call 28; refine hW2.mono ?_; clear hW2; rintro e w3 ⟨rfl, hU3, hb3⟩))
      go_roundw
      case rel => exact ⟨j + 1, by omega, by simp, by rw [← hst.out]; exact hU3, (hB.trans hb2).trans hb3⟩
      case measure => simp [intOf]; omega
    · obtain rfl : j = ls.length := by omega
      rw [List.take_of_length_le (Nat.le_refl _)] at hbU
      go_wp2_with (go_at_call 29; refine (Tryd.Builder_String_any _ _ _ _ (.inr hbU) hsz).mono ?_; rintro e w2 ⟨rfl, hb2⟩)
      go_ret
      exact ⟨rfl, hB.trans hb2⟩
end Go.Proofs.YtblfmbkkeieiaaaDoor
