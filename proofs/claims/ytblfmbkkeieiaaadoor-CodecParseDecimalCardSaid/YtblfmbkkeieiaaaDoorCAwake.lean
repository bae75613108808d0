/- The examples of the document for layer 3 hold: awake returns true, and nothing that lay is changed. Conditions: the library's table of powers of ten and its error for numbers too great lie as their initialisers lay them. -/
import Derived.Test.YtblfmbkkeieiaaaDoorCEnc
import Derived.Test.YtblfmbkkeieiaaaDoorCDecL
import Derived.Test.YtblfmbkkeieiaaaDoorCParse
import Derived.Test.YtblfmbkkeieiaaaDoorCSame
import Derived.Lib.SmallJoins
namespace Go.Proofs.YtblfmbkkeieiaaaDoor
open Go.RowKit CodMath

/-- What the library's variables must be. -/
def Env (w : World) : Prop := Tab w ∧ ErrR w
theorem gTab : Tryd.prog.globalNamed "internal/strconv.uint64pow10" = some 0 := by kernel_rfl
theorem lt_of_cell {w : World} {b o : Nat} {v : Value} (h : w.cell? ⟨b, o, none⟩ = some v) : b < w.heap.size := by
  rcases Nat.lt_or_ge b w.heap.size with h' | h'
  · exact h'
  · simp [World.cell?, Array.getElem?_eq_none h'] at h
theorem Env.next {w w' : World} (h : Env w) (hb : Below w.heap.size w w') : Env w' := by
  obtain ⟨ht, ev, hv, hev⟩ := h
  exact ⟨Joins.tab_stays gTab ht hb (Nat.le_refl _), ev, (hb.cell (p := ⟨2, 0, none⟩) (lt_of_cell hv)).trans hv, hev⟩

def e2170 : ByteArray := ⟨(enc [2, 1, 7, 0]).toArray⟩
theorem enc_2170 (w : World) : Calls Tryd.prog 13 #[.slice (some ⟨w.heap.size, 0, none⟩) 4 4] (w.alloc (.cells #[.int .u64 2, .int .u64 1, .int .u64 7, .int .u64 0] 40)) fun e w' => e = .returned (.string e2170) ∧ Below w.heap.size w w' := by
  refine (encodeWords_any (some ⟨w.heap.size, 0, none⟩) 4 [2, 1, 7, 0] _ (Rd.l4 w 2 1 7 0) (fun x hx => by simp at hx; omega) (by decide)).mono ?_
  rintro e w' ⟨rfl, hb⟩
  exact ⟨rfl, ((Below.refl _ w).alloc (Nat.le_refl _) _).trans (hb.mono (by simp))⟩
theorem dec_2170 (w : World) : Calls Tryd.prog 20 #[.string e2170] w fun e w' => LRowOK w e w' [[7], []] := by
  have h := decodeLists_any e2170 (by decide) w
  rw [show decL e2170.data.toList = some [[7], []] from decL_encL (ls := [[7], []]) ⟨by decide, fun l hl => by simp at hl; rcases hl with rfl | rfl <;> exact ⟨by decide, fun x hx => by simp at hx; try omega⟩⟩] at h
  exact h
theorem dec_1234567 (w : World) : Calls Tryd.prog 14 #[.string ⟨#[49, 50, 51, 52, 53, 54, 55]⟩] w fun e w' => e = .returned (.tuple #[.slice none 0 0, .int .i64 7]) ∧ w = w' := decodeWords_bad _ (by decide) w
theorem parse_1616 (w : World) (h : Env w) : Calls Tryd.prog 25 #[.string ⟨#[49, 56, 52, 52, 54, 55, 52, 52, 48, 55, 51, 55, 48, 57, 53, 53, 49, 54, 49, 54]⟩] w fun e w' => e = .returned (.tuple #[.int .u64 0, .int .i64 2]) ∧ Below w.heap.size w w' := by
  have h := parse_any ⟨#[49, 56, 52, 52, 54, 55, 52, 52, 48, 55, 51, 55, 48, 57, 53, 53, 49, 54, 49, 54]⟩ (by decide) w h.2
  rw [show pdec (ByteArray.mk #[49, 56, 52, 52, 54, 55, 52, 52, 48, 55, 51, 55, 48, 57, 53, 53, 49, 54, 49, 54]).data.toList = (0, 2) from by decide +kernel] at h
  exact h
theorem parse_1615 (w : World) (h : Env w) : Calls Tryd.prog 25 #[.string ⟨#[49, 56, 52, 52, 54, 55, 52, 52, 48, 55, 51, 55, 48, 57, 53, 53, 49, 54, 49, 53]⟩] w fun e w' => e = .returned (.tuple #[.int .u64 18446744073709551615, .int .i64 0]) ∧ Below w.heap.size w w' := by
  have h := parse_any ⟨#[49, 56, 52, 52, 54, 55, 52, 52, 48, 55, 51, 55, 48, 57, 53, 53, 49, 54, 49, 53]⟩ (by decide) w h.2
  rw [show pdec (ByteArray.mk #[49, 56, 52, 52, 54, 55, 52, 52, 48, 55, 51, 55, 48, 57, 53, 53, 49, 54, 49, 53]).data.toList = (18446744073709551615, 0) from by decide +kernel] at h
  exact h
theorem parse_01 (w : World) (h : Env w) : Calls Tryd.prog 25 #[.string ⟨#[48, 49]⟩] w fun e w' => e = .returned (.tuple #[.int .u64 0, .int .i64 3]) ∧ Below w.heap.size w w' := by
  have h := parse_any ⟨#[48, 49]⟩ (by decide) w h.2
  rw [show pdec (ByteArray.mk #[48, 49]).data.toList = (0, 3) from by decide +kernel] at h
  exact h
theorem enc_258 (w : World) : Calls Tryd.prog 13 #[.slice (some ⟨w.heap.size, 0, none⟩) 1 1] (w.alloc (.cells #[.int .u64 258] 40)) fun e w' => e = .returned (.string ⟨#[2, 1, 0, 0, 0, 0, 0, 0]⟩) ∧ Below w.heap.size w w' := by
  have h := encodeWords_any (some ⟨w.heap.size, 0, none⟩) 1 [258] _ (Rd.l1 w 258) (fun x hx => by simp at hx; omega) (by decide)
  rw [show (enc [258]).toArray = #[2, 1, 0, 0, 0, 0, 0, 0] from by decide +kernel] at h
  refine h.mono ?_
  rintro e w' ⟨rfl, hb⟩
  exact ⟨rfl, ((Below.refl _ w).alloc (Nat.le_refl _) _).trans (hb.mono (by simp))⟩
theorem format_0 (w : World) (h : Env w) : Calls Tryd.prog 24 #[.int .u64 0] w fun e w' => e = .returned (.string ⟨#[48]⟩) ∧ Below w.heap.size w w' := by
  have h := format_any 0 (by decide) (by decide) w h.1
  rw [show Lib.decDigits (0 : Int).toNat = [48] from by rw [show (0 : Int).toNat = 0 from rfl, decDigits_small (by decide)]; decide] at h
  exact h
theorem format_120 (w : World) (h : Env w) : Calls Tryd.prog 24 #[.int .u64 120] w fun e w' => e = .returned (.string ⟨#[49, 50, 48]⟩) ∧ Below w.heap.size w w' := by
  have h := format_any 120 (by decide) (by decide) w h.1
  rw [show Lib.decDigits (120 : Int).toNat = [49, 50, 48] from by
    rw [show (120 : Int).toNat = 120 from rfl, decDigits_big (by decide), decDigits_big (by decide), decDigits_small (by decide)]
    decide] at h
  exact h

theorem rdl_lit (w : World) (o1 : Nat) (h : o1 = w.heap.size) : RdL ((w.alloc (.cells #[.int .u64 7] 40)).alloc (.cells #[.slice (some ⟨o1, 0, none⟩) 1 1, .slice none 0 0] 22)).heap.size
    ((w.alloc (.cells #[.int .u64 7] 40)).alloc (.cells #[.slice (some ⟨o1, 0, none⟩) 1 1, .slice none 0 0] 22)) (some ⟨w.heap.size + 1, 0, none⟩) [[7], []] := by
  subst h
  have hc := World.alloc_heap_new (w.alloc (.cells #[.int .u64 7] 40)) (.cells #[.slice (some ⟨w.heap.size, 0, none⟩) 1 1, .slice none 0 0] 22)
  rw [World.size_alloc] at hc
  have hR := (Rd.l1 w 7).push (.cells #[.slice (some ⟨w.heap.size, 0, none⟩) 1 1, .slice none 0 0] 22)
  refine fun _ => ⟨w.heap.size + 1, 0, rfl, lt_of_block hc, fun j l hl => ?_⟩
  rw [cell_of_row _ (w.heap.size + 1) (0 + j) _ 22 (0, 0) hc]
  match j, hl with
  | 0, hl => cases hl; exact ⟨some ⟨w.heap.size, 0, none⟩, 1, rfl, fun h => (by cases h), hR⟩
  | 1, hl => cases hl; exact ⟨none, 0, rfl, fun _ => rfl, Rd.nil⟩
  | j + 2, hl => simp at hl

set_option maxRecDepth 100000 in
set_option maxHeartbeats 4000000 in
theorem awake_any (w : World) (h : Env w) : Calls Tryd.prog 12 #[] w fun e w' => e = .returned (.bool true) ∧ Below w.heap.size w w' := by
  go_enter Tryd.func12, Tryd.ntmps12
  go_wp2_with fail
  refine (enc_2170 w).mono ?_; rintro e w1 ⟨rfl, hB⟩
  go_wp2_with fail
  refine (dec_2170 _).mono ?_; rintro e w2 ⟨A1, c1, rfl, hR, hb⟩
  replace hB := hB.trans (hb.mono hB.size)
  clear hb
  go_wp2_with fail
  refine (dec_1234567 _).mono ?_; rintro e w3 ⟨rfl, rfl⟩
  go_wp2_with fail
  refine (parse_1616 _ (h.next hB)).mono ?_; rintro e w3 ⟨rfl, hb⟩
  replace hR := hR.next hb
  replace hB := hB.trans (hb.mono hB.size)
  clear hb
  go_wp2_with fail
  refine (parse_1615 _ (h.next hB)).mono ?_; rintro e w4 ⟨rfl, hb⟩
  replace hR := hR.next hb
  replace hB := hB.trans (hb.mono hB.size)
  clear hb
  go_wp2_with fail
  refine (parse_01 _ (h.next hB)).mono ?_; rintro e w5 ⟨rfl, hb⟩
  replace hR := hR.next hb
  replace hB := hB.trans (hb.mono hB.size)
  clear hb
  go_wp2_with fail
  refine (enc_258 _).mono ?_; rintro e w6 ⟨rfl, hb⟩
  replace hR := hR.next hb
  replace hB := hB.trans (hb.mono hB.size)
  clear hb
  go_wp2_with fail
  have hb0 := bnew (bnew hB (.cells #[.int .u64 7] 40) (Nat.le_refl _)) (.cells #[.slice (some ⟨w6.heap.size, 0, none⟩) 1 1, .slice none 0 0] 22) (Nat.le_refl _)
  have hS := sameLists_any A1 (some ⟨w6.heap.size + 1, 0, none⟩) [[7], []] [[7], []] c1 2 _ ((hR.push (.cells #[.int .u64 7] 40)).push (.cells #[.slice (some ⟨w6.heap.size, 0, none⟩) 1 1, .slice none 0 0] 22)) (rdl_lit w6 _ rfl) (by decide) (fun l hl => by simp at hl; rcases hl with rfl | rfl <;> decide)
  rw [decide_eq_true rfl] at hS
  refine hS.mono ?_; clear hS; rintro e w7 ⟨rfl, hb⟩
  replace hB := hb0.trans (hb.mono hb0.size)
  clear hb hb0 hR
  go_wp2_with fail
  refine (format_0 _ (h.next hB)).mono ?_; rintro e w8 ⟨rfl, hb⟩
  replace hB := hB.trans (hb.mono hB.size)
  clear hb
  go_wp2_with fail
  refine (format_120 _ (h.next hB)).mono ?_; rintro e w9 ⟨rfl, hb⟩
  replace hB := hB.trans (hb.mono hB.size)
  clear hb
  go_wp2_with fail
  go_ret
  exact ⟨rfl, hB⟩
end Go.Proofs.YtblfmbkkeieiaaaDoor
