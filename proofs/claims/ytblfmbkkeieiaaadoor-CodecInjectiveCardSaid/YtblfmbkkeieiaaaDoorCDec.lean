/- DecodeWords of package codec: the words that the bytes spell, in memory of its own, or nothing and ErrFormat; nothing that lay is changed. Conditions: strings of at most 1000000 bytes. -/
import Derived.Test.YtblfmbkkeieiaaaDoorCMem
import Derived.Laws.CopyOwn
namespace Go.Proofs.YtblfmbkkeieiaaaDoor
open Go.RowKit CodMath

theorem or_byte {V b k : Nat} (h1 : V < 2 ^ (8 * k)) (hb : b < 256) (hk : k < 8) : bits BinOp.or IntKind.u64 V (IntKind.u64.wrap (IntKind.u64.wrap (b : Int) * 2 ^ (8 * k))) = ((V + b * 2 ^ (8 * k) : Nat) : Int) := by
  have hp : (2 : Nat) ^ (8 * k) ≤ 2 ^ 56 := Nat.pow_le_pow_right (by omega) (by omega)
  have hp' : (2 : Nat) ^ 56 = 72057594037927936 := by decide
  have hm : b * 2 ^ (8 * k) ≤ 255 * 72057594037927936 := Nat.mul_le_mul (by omega) (by omega)
  have e1 : IntKind.u64.wrap (b : Int) = b := by rw [IntKind.wrap_u64]; omega
  have e2 : (b : Int) * 2 ^ (8 * k) = ((b * 2 ^ (8 * k) : Nat) : Int) := by rw [Int.natCast_mul, Int.natCast_pow]; rfl
  rw [e1, e2]
  have e := Nat.two_pow_add_eq_or_of_lt h1 b
  rw [Nat.mul_comm] at e
  generalize b * 2 ^ (8 * k) = m at hm e
  have e3 : IntKind.u64.wrap (m : Int) = m := by rw [IntKind.wrap_u64]; omega
  rw [e3, bits_or_u64_nat V m (by omega) (by omega), Nat.or_comm, ← e, Nat.add_comm]

theorem word_push : ∀ (l : List UInt8) (b : UInt8), word (l ++ [b]) = word l + b.toNat * 256 ^ l.length
  | [], b => by simp [word]
  | a :: l, b => by
    rw [List.cons_append, word, word_push l b, word, List.length_cons, Int.pow_succ]
    generalize (256 : Int) ^ l.length = p
    rw [Int.mul_add, Int.mul_left_comm 256, Int.mul_comm 256 p]
    omega
theorem word_lt : ∀ l : List UInt8, word l < 256 ^ l.length
  | [] => by simp [word]
  | a :: l => by
    have h := word_lt l
    have := a.toNat_lt
    rw [word, List.length_cons, Int.pow_succ]
    generalize (256 : Int) ^ l.length = p at h
    omega
theorem word_take {l : List UInt8} {k : Nat} (hk : k < l.length) (hl : l.length = 8) : bits BinOp.or IntKind.u64 (word (l.take k)) (IntKind.u64.wrap (IntKind.u64.wrap ((l[k].toNat : Nat) : Int) * 2 ^ (8 * k))) = word (l.take (k + 1)) := by
  have h0 := word_nonneg (l.take k)
  have h1 := word_lt (l.take k)
  have e1 : (l.take k).length = k := by rw [List.length_take]; omega
  rw [List.take_add_one, List.getElem?_eq_getElem hk, Option.toList_some, word_push, e1]
  rw [e1] at h1
  have e2 : (256 : Int) ^ k = ((2 ^ (8 * k) : Nat) : Int) := by rw [Int.natCast_pow, Int.pow_mul]; rfl
  rw [e2] at h1 ⊢
  obtain ⟨V, hV⟩ : ∃ V : Nat, word (l.take k) = V := ⟨(word (l.take k)).toNat, by omega⟩
  rw [hV] at h1 ⊢
  have h2 : V < 2 ^ (8 * k) := by omega
  rw [or_byte h2 l[k].toNat_lt (by omega), Int.natCast_add, Int.natCast_mul]

set_option maxHeartbeats 1000000 in
theorem wordOf_any (s : ByteArray) (hs : s.size = 8) (w : World) :
    Calls Tryd.prog 30 #[.string s] w fun e w' => e = .returned (.int .u64 (word s.data.toList)) ∧ w = w' := by
  have hl : s.data.toList.length = 8 := hs
  have hL := Lib.hid hl
  clear hl
  go_enter Tryd.func30, Tryd.ntmps30
  go_wp2
  go_loop [3, 7] (fun v i => ∃ k : Nat, k ≤ 8 ∧ i = .int .i64 k ∧ v = .int .u64 (word (s.data.toList.take k))) (fun _ i => 8 - (intOf i).toNat)
  case atStart => exact ⟨0, Nat.zero_le _, rfl, rfl⟩
  case round =>
    obtain ⟨k, hk, rfl, rfl⟩ := hrel
    by_cases hlt : k < 8
    · have hT := Lib.hid (word_take (l := s.data.toList) (k := k) (by rw [hL.out]; exact hlt) hL.out)
      go_wp2
      go_round
      case rel => exact ⟨k + 1, by omega, by simp, congrArg _ hT.out⟩
      case measure => simp [intOf]; omega
    · obtain rfl : k = 8 := by omega
      have hT := Lib.hid (List.take_of_length_le (l := s.data.toList) (i := 8) (by rw [hL.out]; exact Nat.le_refl _))
      go_wp2
      go_ret
      exact ⟨by rw [hT.out]; rfl, rfl⟩

theorem cut_word (s : ByteArray) (j : Nat) (h : j * 8 + 8 ≤ s.size) : ∃ t : ByteArray, t.size = 8 ∧ t.data.toList = (s.data.toList.drop (8 * j)).take 8 ∧
    ∀ W, (Instr.slice 9 (.string s) (some (.int .i64 ((j : Int) * 8))) (some (.int .i64 (((j : Int) + 1) * 8))) none).run Tryd.prog W = .ok (.string t) W := by
  refine ⟨s.extract (j * 8) (j * 8 + 8), by rw [ByteArray.size_extract]; omega, ?_, fun W => ?_⟩
  · rw [ByteArray.data_extract, Array.toList_extract, List.extract_eq_take_drop, Nat.mul_comm, show 8 * j + 8 - 8 * j = 8 from by omega]
  · rw [run_slice_string W _ _ _ _ _ _ Tryd.underlying9 (by omega) (by omega) (by omega), show ((j : Int) * 8).toNat = j * 8 from by omega, show (((j : Int) + 1) * 8).toNat = j * 8 + 8 from by omega]

theorem decodeWords_bad (s : ByteArray) (h : s.size % 8 ≠ 0) (w : World) :
    Calls Tryd.prog 14 #[.string s] w fun e w' => e = .returned (.tuple #[.slice none 0 0, .int .i64 7]) ∧ w = w' := by
  have h' : (s.size : Int) % 8 ≠ 0 := by omega
  go_enter Tryd.func14, Tryd.ntmps14
  go_wp2
  go_ret2
  exact ⟨rfl, rfl⟩

set_option maxRecDepth 100000 in
set_option maxHeartbeats 1000000 in
theorem decodeWords_good (s : ByteArray) (h : s.size % 8 = 0) (hb : s.size ≤ 1000000) (w : World) :
    Calls Tryd.prog 14 #[.string s] w fun e w' => RowOK w e w' (dec s.data.toList) := by
  obtain ⟨n, hn⟩ : ∃ n, s.size = 8 * n := ⟨s.size / 8, by omega⟩
  have hl : s.data.toList.length = 8 * n := hn
  obtain ⟨i0, hi, hz0, hz1, hz2⟩ := info_parts info_u64
  have hb8 : i0.bytes * n ≤ 281474976710656 := by rw [hz2]; omega
  have hB8 := Lib.hid hb8
  have hL := Lib.hid hl
  have hlen : Hid ((dec s.data.toList).length = n) := Lib.hid (by rw [dec_length (by rw [hl]; omega), hl]; omega)
  have h' : (s.size : Int) % 8 = 0 := by omega
  have hq : (s.size : Int) / 8 = n := by omega
  clear hb8 hl
  go_enter Tryd.func14, Tryd.ntmps14
  go_wp2_with (at_make; refine wpList_make_full _ rfl _ _ 22 rfl w.heap.size 40 i0 (.int .u64 0) 1 Tryd.underlying22 hi hz0 hz1 .i64 .i64 _ _ n rfl rfl rfl rfl hB8.out (by simp only [maxLen]; omega) (Nat.le_refl _) ?_; intro w1 hown1 hgrow1)
  have hb1 : Below w.heap.size w w1 := (Below.refl _ w).grown hgrow1 (Nat.le_refl _) (fun k e => by cases e)
  simp only [Value.cells, toList_madeCells_one, Nat.mul_one] at hown1
  have hN := Lib.hid hn
  clear h h' hq hn
  go_loopw [16] (fun i wr => ∃ j : Nat, j ≤ n ∧ i = .int .i64 j ∧ wr.ownsRow w.heap.size 40 1 (.slice (some ⟨w.heap.size, 0, none⟩) n n) n (((dec s.data.toList).take j ++ List.replicate (n - j) 0).map (Value.int .u64)) ∧ Below w.heap.size w wr) (fun i _ => n - (intOf i).toNat)
  case atStart => exact ⟨0, Nat.zero_le _, rfl, by simpa using hown1, hb1⟩
  case round =>
    obtain ⟨j, hj, rfl, hrow, hB⟩ := hrel
    by_cases hlt : j < n
    · have hle : j * 8 + 8 ≤ s.size := by have := hN.out; omega
      obtain ⟨t, hts, htl, hsl⟩ := cut_word s j hle
      have hword := dec_at j s.data.toList (by rw [hL.out]; omega)
      rw [← htl] at hword
      have hW := Lib.hid hword
      clear htl hword
      have hcell : wr.cell? ⟨w.heap.size, j, none⟩ = some (.int .u64 0) := by
        rw [hrow.cellAt j (by omega), List.getElem?_map, List.getElem?_append_right (by rw [List.length_take]; omega), List.getElem?_replicate, if_pos (by rw [List.length_take, hlen.out]; omega)]; rfl
      have hfz := hrow.frozenAt j
      have hst := hrow.stored j (.int .u64 (word t.data.toList))
      rw [← List.map_set] at hst
      have e0 : ((dec s.data.toList).take j).length = j := by rw [List.length_take, hlen.out]; omega
      have e1 := set_here ((dec s.data.toList).take j) (n - (j + 1)) (word t.data.toList)
      rw [e0, show n - (j + 1) + 1 = n - j from by omega] at e1
      have e2 : (dec s.data.toList).take (j + 1) = (dec s.data.toList).take j ++ [word t.data.toList] := by rw [List.take_add_one, hW.out]; rfl
      rw [e1, ← e2] at hst
      have hST := Lib.hid hst
      clear hst e0 e1 e2
      go_wp2_with (go_at_call 30; refine (wordOf_any t hts _).mono ?_; rintro e w' ⟨rfl, rfl⟩)
      go_roundw
      case rel => exact ⟨j + 1, by omega, by simp, hST.out.1, hB.setCell (p := ⟨w.heap.size, j, none⟩) (Nat.le_refl _) _⟩
      case measure => simp [intOf]; omega
    · obtain rfl : j = n := by omega
      have hAll := Lib.hid (List.take_of_length_le (l := dec s.data.toList) (i := j) (by rw [hlen.out]; exact Nat.le_refl _))
      go_wp2
      go_ret2
      refine ⟨some ⟨w.heap.size, 0, none⟩, j, by rw [hlen.out]; rfl, ?_, by rw [hlen.out]; exact Nat.le_refl _, hB⟩
      rw [hAll.out] at hrow
      exact RdT.of_own (base := w.heap.size) (n := j) (c := j) (by simpa using hrow)
end Go.Proofs.YtblfmbkkeieiaaaDoor
