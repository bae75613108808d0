/- DecodeLists of package codec: the list of lists whose encoding the string is, in memory of its own, or nothing and ErrFormat; nothing that lay is changed. Conditions: strings of at most 1000000 bytes. -/
import Derived.Test.YtblfmbkkeieiaaaDoorCDec
namespace Go.Proofs.YtblfmbkkeieiaaaDoor
open Go.RowKit CodMath

theorem addr_add (b o j : Nat) : (⟨b, o, none⟩ : Addr).add j = ⟨b, o + j, none⟩ := by simp [Addr.add]
theorem elem_words : Tryd.prog.elem 22 = 40 := by kernel_rfl
theorem slice_words : Tryd.prog.underlying 22 = some (.slice (Tryd.prog.elem 22)) := by rw [elem_words]; exact Tryd.underlying22
theorem size_words : (Tryd.prog.info? 40).map (·.size) = some 1 := by kernel_rfl
/-- A slice from place k on. -/
theorem cut_from {B b off c : Nat} {w : World} {xs : List Int} (h : RdT B w (some ⟨b, off, none⟩) xs) (hc : xs.length ≤ c) (k : Nat) (i : Int) (hi : i = k) (hk : k ≤ xs.length) :
    ∃ A1 c1, RdT B w A1 (xs.drop k) ∧ xs.length - k ≤ c1 ∧ ∀ W, (Instr.slice 22 (.slice (some ⟨b, off, none⟩) xs.length c) (some (.int .i64 i)) none none).run Tryd.prog W = .ok (.slice A1 (xs.length - k) c1) W := by
  subst hi
  have hrun : ∀ W, (Instr.slice 22 (.slice (some ⟨b, off, none⟩) xs.length c) (some (.int .i64 k)) none none).run Tryd.prog W = .ok (sliced (some ⟨b, off, none⟩) k xs.length c 1) W := fun W => by
    rw [run_slice_l W 22 _ _ _ slice_words .i64 k (by omega) (by omega), Int.toNat_natCast, elem_words, Tryd.sizeOf40, Result.andThen]
  by_cases e : c = k
  · refine ⟨some ⟨b, off, none⟩, c - k, ?_, by omega, fun W => by rw [hrun, sliced, if_pos e]⟩
    rw [List.drop_eq_nil_of_le (by omega)]
    exact RdT.nil
  · refine ⟨some ⟨b, off + k, none⟩, c - k, h.drop k, by omega, fun W => by rw [hrun, sliced, if_neg e, Nat.mul_one]; simp [Addr.add]⟩
theorem RdT.at_ {B : Nat} {w : World} {A : Option Addr} {x : Int} {xs : List Int} (h : RdT B w A (x :: xs)) : ∃ b off, A = some ⟨b, off, none⟩ ∧ b < B ∧ w.cell? ⟨b, off, none⟩ = some (.int .u64 x) := by
  obtain ⟨b, off, y, e, hb, hy, hc⟩ := h.rd.at_ (k := 0) (by simp)
  simp only [List.getElem?_cons_zero, Option.some.injEq] at hy
  subst hy
  exact ⟨b, off, e, hb, by simpa using hc⟩

set_option maxRecDepth 100000 in
set_option maxHeartbeats 1000000 in
theorem firstList_good (A : Option Addr) (c k B : Nat) (ws : List Int) (w : World) (h : RdT B w A ((k : Int) :: ws)) (hcap : ws.length + 1 ≤ c) (hk : k ≤ ws.length) (hl : ws.length ≤ 1000000) (hB : B ≤ w.heap.size) :
    Calls Tryd.prog 31 #[.slice A (ws.length + 1) c] w fun e w' => ∃ A' c', e = .returned (.tuple #[.slice A' k c', .bool true]) ∧ (A' = none → c' = 0) ∧ RdT w'.heap.size w' A' (ws.take k) ∧ Below w.heap.size w w' := by
  obtain ⟨b, off, rfl, hb, hc⟩ := h.at_
  obtain ⟨A1, c1, hR1, hc1, hsl⟩ := cut_from h hcap 1 1 rfl (by simp)
  simp only [List.length_cons, Nat.add_sub_cancel, List.drop_succ_cons, List.drop_zero] at hR1 hc1 hsl
  obtain ⟨i0, hi, hz0, hz1, hz2⟩ := info_parts info_u64
  have hb8 : i0.bytes * k ≤ 281474976710656 := by rw [hz2]; omega
  have hB8 := Lib.hid hb8
  obtain ⟨X, hX⟩ : ∃ X, X = (ws.take k).map (Value.int .u64) := ⟨_, rfl⟩
  have hXl : X.length = k := by rw [hX, List.length_map, List.length_take]; omega
  have hH := Lib.hid hX
  have hHl := Lib.hid hXl
  have hone : ∀ v ∈ X, v.oneCell' = true := by
    rw [hX]
    intro v hv
    obtain ⟨y, _, rfl⟩ := List.mem_map.1 hv
    rfl
  have hmk : X.length = Nat.min ws.length k := by rw [hXl]; exact (Nat.min_eq_right hk).symm
  have hM := Lib.hid hmk
  clear hb8 hX hXl hmk
  go_enter Tryd.func31, Tryd.ntmps31
  go_wp2_with (first
    | (at_make; refine wpList_make_full _ rfl _ _ 22 rfl w.heap.size 40 i0 (.int .u64 0) 1 Tryd.underlying22 hi hz0 hz1 .u64 .u64 _ _ k rfl rfl rfl rfl hB8.out (by simp only [maxLen]; omega) (Nat.le_refl _) ?_; intro w1 hown1 hgrow1; simp only [Value.cells, toList_madeCells_one, Nat.mul_one] at hown1; have hrow1 := row_of_own hown1; have hb1 : Below w.heap.size w w1 := (Below.refl _ w).grown hgrow1 (Nat.le_refl _) (fun k e => by cases e); have hR2 := hR1.more hB; have hR3 := Lib.hid (hR2.below hb1).rd; clear hown1 hgrow1 hR2; have HR := Lib.hid hrow1; clear hrow1)
    | (with_reducible refine wpList_copy_splice rfl (.tmp 21) (.tmp 22) 22 22 rfl 40 Tryd.underlying22 size_words _ _ k k ws.length c1 rfl rfl w.heap.size 0 (List.replicate k (.int .u64 0)) 40 HR.out X hM.out ?c1 (by rw [hHl.out, List.length_replicate]; omega) hone w.heap.size w hb1 (Nat.le_refl _) ?_; rotate_left; intro w2 hG2 hB2))
  case c1 =>
    intro hpos
    obtain ⟨b1, o1, y, e1, _, _, _⟩ := hR3.out.at_ (k := 0) (by rw [hHl.out] at hpos; omega)
    subst e1
    refine ⟨⟨b1, o1, none⟩, rfl, fun j v hv => ?_⟩
    rw [hH.out, List.getElem?_map, List.getElem?_take] at hv
    split at hv
    · obtain ⟨y, hy, rfl⟩ := Option.map_eq_some_iff.1 hv
      obtain ⟨b2, o2, e2, _, hc2⟩ := hR3.out (fun e => by rw [e] at hy; simp at hy)
      cases e2
      rw [addr_add]
      exact hc2 j y hy
    · cases hv
  go_wp2
  go_ret2
  refine ⟨some ⟨w.heap.size, 0, none⟩, k, rfl, fun h => (by cases h), fun hn => ?_, hB2⟩
  have hG := hG2.out
  rw [show splice (List.replicate k (Value.int .u64 0)) 0 X = X from by simp [splice, hHl.out], hH.out] at hG
  refine ⟨w.heap.size, 0, _, _, rfl, (Array.getElem?_eq_some_iff.1 hG).1, hG, fun j x hx => ?_⟩
  rw [Nat.zero_add, List.getElem?_toArray, List.getElem?_map, hx]
  rfl

theorem firstList_none (A : Option Addr) (c : Nat) (w : World) : Calls Tryd.prog 31 #[.slice A 0 c] w fun e w' => e = .returned (.tuple #[.slice none 0 0, .bool false]) ∧ w = w' := by
  go_enter Tryd.func31, Tryd.ntmps31
  go_wp2
  go_ret2
  exact ⟨rfl, rfl⟩
theorem firstList_short (A : Option Addr) (c B : Nat) (k : Int) (ws : List Int) (w : World) (h : RdT B w A (k :: ws)) (hcap : ws.length + 1 ≤ c) (hk : (ws.length : Int) < k) (hl : ws.length ≤ 1000000) :
    Calls Tryd.prog 31 #[.slice A (ws.length + 1) c] w fun e w' => e = .returned (.tuple #[.slice none 0 0, .bool false]) ∧ w = w' := by
  obtain ⟨b, off, rfl, hb, hc⟩ := h.at_
  obtain ⟨A1, c1, _, _, hsl⟩ := cut_from h hcap 1 1 rfl (by simp)
  simp only [List.length_cons, Nat.add_sub_cancel] at hsl
  go_enter Tryd.func31, Tryd.ntmps31
  go_wp2
  go_ret2
  exact ⟨rfl, rfl⟩

/-- What a call of DecodeLists hands back. -/
def LAns (w : World) (e : Ending) (w' : World) (r : Option (List (List Int))) : Prop :=
  match r with
  | some ls => LRowOK w e w' ls
  | none => e = .returned (.tuple #[.slice none 0 0, .int .i64 7]) ∧ Below w.heap.size w w'

theorem decodeLists_bad (s : ByteArray) (h : s.size % 8 ≠ 0) (w : World) :
    Calls Tryd.prog 20 #[.string s] w fun e w' => e = .returned (.tuple #[.slice none 0 0, .int .i64 7]) ∧ Below w.heap.size w w' := by
  go_enter Tryd.func20, Tryd.ntmps20
  go_wp2_with (go_at_call 14; refine (decodeWords_bad s h _).mono ?_; rintro e w' ⟨rfl, rfl⟩)
  go_ret2
  exact ⟨rfl, Below.refl _ _⟩
theorem decodeLists_empty (s : ByteArray) (h : s.size = 0) (w : World) :
    Calls Tryd.prog 20 #[.string s] w fun e w' => e = .returned (.tuple #[.slice none 0 0, .int .i64 7]) ∧ Below w.heap.size w w' := by
  have hl : s.data.toList = [] := List.eq_nil_of_length_eq_zero h
  have hd := fun w => decodeWords_good s (by omega) (by omega) w
  rw [hl] at hd
  go_enter Tryd.func20, Tryd.ntmps20
  go_wp2_with (go_at_call 14; refine (hd _).mono ?_; rintro e w' ⟨A, c, rfl, hR, hc, hB⟩; simp only [dec, List.length_nil])
  go_ret2
  exact ⟨rfl, hB⟩

/-- Where the loop of DecodeLists stands. -/
structure LLoop (w wr : World) (ws : List Int) (n k : Int) (r v : Value) (ds : List (List Int)) (rest : List Int) (A : Option Addr) (c : Nat) : Prop where
  rest_is : r = .slice A rest.length c
  rd : RdT wr.heap.size wr A rest
  cap : rest.length ≤ c
  own : LOwn w.heap.size wr v ds
  low : 0 ≤ k
  high : k ≤ n
  below : Below w.heap.size w wr
  words : Words rest
  room : ds.length + rest.length ≤ ws.length
  ans : par n.toNat ws = (par (n - k).toNat rest).map (ds ++ ·)

set_option maxRecDepth 100000 in
set_option maxHeartbeats 2000000 in
theorem decodeLists_some (s : ByteArray) (n : Int) (ws : List Int) (h8 : s.size % 8 = 0) (hb : s.size ≤ 1000000) (hd : dec s.data.toList = n :: ws) (w : World) :
    Calls Tryd.prog 20 #[.string s] w fun e w' => LAns w e w' (par n.toNat ws) := by
  have hl8 : s.data.toList.length % 8 = 0 := h8
  have hlen := dec_length hl8
  have hw := dec_words hl8
  rw [hd, List.length_cons] at hlen
  rw [hd] at hw
  have hls : s.data.toList.length = s.size := rfl
  have hl : ws.length ≤ 1000000 := by omega
  have hn := hw n (by simp)
  have hws : Words ws := fun x hx => hw x (by simp [hx])
  have hD := fun w => decodeWords_good s h8 hb w
  rw [hd] at hD
  simp only [List.length_cons, RowOK] at hD
  clear hls hlen hl8 hd hw h8 hb
  obtain ⟨i0, hi, hz0, hz1, hz2⟩ := info_parts info_row
  go_enter Tryd.func20, Tryd.ntmps20
  go_wp2_with fail
  refine (hD _).mono ?_; clear hD; rintro e w1 ⟨A, c, rfl, hR, hc, hB⟩
  obtain ⟨b, off, rfl, hb, hcl⟩ := hR.at_
  obtain ⟨A1, c1, hR1, hc1, hsl⟩ := cut_from hR hc 1 1 rfl (by simp)
  simp only [List.length_cons, Nat.add_sub_cancel, List.drop_succ_cons, List.drop_zero] at hR1 hc1 hsl
  have hne : ((ws.length : Int) + 1 == 0) = false := beq_false_of_ne (by omega)
  go_wp2_with fail
  go_loopw [4, 7, 28] (fun r v i wr => ∃ (k : Int) (ds : List (List Int)) (rest : List Int) (A : Option Addr) (c : Nat), i = .int .u64 k ∧ LLoop w wr ws n k r v ds rest A c) (fun _ _ i _ => n.toNat - (intOf i).toNat)
  case atStart => exact ⟨0, [], ws, A1, c1, rfl, rfl, hR1, hc1, LOwn.nil _ _, Int.le_refl _, hn.1, hB, hws, by simp, by rw [Int.sub_zero]; cases par n.toNat ws <;> simp⟩
  case round =>
    obtain ⟨k, ds, rest, A, c, rfl, H⟩ := hrel
    obtain ⟨rfl, hrd, hcap, hown, hk0, hkn, hBw, hwd, hroom, hans⟩ := H
    clear hsl hcl hR hc hB hR1 hc1
    by_cases hlt : k < n
    · cases rest with
      | nil =>
        rw [show (n - k).toNat = (n - k - 1).toNat + 1 from by omega] at hans
        have hA : par n.toNat ws = none := hans
        have hH := Lib.hid hA
        clear hA hans
        simp only [List.length_nil]
        go_wp2_with (go_at_call 31; refine (firstList_none _ _ _).mono ?_; rintro e w' ⟨rfl, rfl⟩)
        go_ret2
        rw [hH.out]
        exact ⟨rfl, hBw⟩
      | cons x r =>
        have hx := hwd x (by simp)
        have hrl : r.length ≤ 1000000 := by simp only [List.length_cons] at hroom; omega
        by_cases hle : x ≤ r.length
        · obtain ⟨m, rfl⟩ : ∃ m : Nat, x = m := ⟨x.toNat, by omega⟩
          have hml : m ≤ r.length := by omega
          obtain ⟨b, off, rfl, _, _⟩ := hrd.at_
          obtain ⟨A2, c2, hR2, hc2, hsl⟩ := cut_from hrd hcap (m + 1) (1 + m) (by omega) (by simp only [List.length_cons]; omega)
          simp only [List.length_cons, List.drop_succ_cons, Nat.add_sub_add_right] at hcap hroom hR2 hc2 hsl ⊢
          have hst : par n.toNat ws = (par (n - (k + 1)).toNat (r.drop m)).map ((ds ++ [r.take m]) ++ ·) := by
            rw [hans, show (n - k).toNat = (n - (k + 1)).toNat + 1 from by omega]
            simp only [par, first, if_pos hle, Int.toNat_natCast]
            cases par (n - (k + 1)).toNat (r.drop m) <;> simp
          have hST := Lib.hid hst
          have htk : (r.take m).length = m := by rw [List.length_take]; omega
          have hTK := Lib.hid htk
          have hsz := hBw.size
          obtain ⟨vs, hv1, hv2⟩ := hown
          clear hst hans htk
          go_wp2_with (first
            | (go_at_call 31; refine (firstList_good _ _ m _ r _ hrd hcap hml hrl (Nat.le_refl _)).mono ?_; rintro e w2 ⟨A3, c3, rfl, hA3, hR3, hb3⟩; have hrow := own_below hv1 hb3; have hsz3 := hb3.size)
            | (at_builtin; refine wpList_append_own _ rfl _ _ 31 rfl w.heap.size 22 i0 (.slice none 0 0) 1 24 Tryd.underlying31 hi hz0 hz1 hz2 rfl (by decide) _ _ _ rfl (hrow.alloc _) ⟨w2.heap.size, 0, none⟩ 1 1 [.slice A3 m c3] rfl rfl (cell_one_new _ _ _) (by simp [Value.oneCell']) (by simp only [maxLen]; omega) (by omega) (by simp; omega) ?_; intro v' w3 hown' hgrow _))
          have hB3 : Below w.heap.size w w2 := hBw.trans (hb3.mono hsz)
          have hB4 : Below w.heap.size w w3 := (hB3.alloc (by omega) _).grown hgrow (by simp; omega) (fun k e => (hrow.lt k e).1)
          go_roundw
          case rel =>
            refine ⟨k + 1, ds ++ [r.take m], r.drop m, A2, c2, rfl, by rw [List.length_drop], ?_, by rw [List.length_drop]; exact hc2, ?_, by omega, by omega, hB4, fun x hx => hwd x (List.mem_cons_of_mem _ (List.mem_of_mem_drop hx)), by simp only [List.length_append, List.length_cons, List.length_nil, List.length_drop]; omega, hST.out⟩
            · exact ((hR2.next hb3).push _).grown hgrow (own_tag (hrow.alloc _)) hgrow.size
            · refine LOwn.add (hrow.alloc _) (fun j l hj => ?_) hA3 (hR3.push _) (by rw [hTK.out]; exact hown') hgrow
              obtain ⟨A', c', h1, h0, h2⟩ := hv2 j l hj
              exact ⟨A', c', h1, h0, (h2.next hb3).push _⟩
          case measure => simp [intOf]; omega
        · have hgt : (r.length : Int) < x := by omega
          have hH : Hid (par n.toNat ws = none) := Lib.hid (by
            rw [hans, show (n - k).toNat = (n - k - 1).toNat + 1 from by omega]
            simp only [par, first, if_neg hle, Option.map_none])
          clear hans
          simp only [List.length_cons] at hcap ⊢
          go_wp2_with (go_at_call 31; refine (firstList_short _ _ _ x r _ hrd hcap hgt hrl).mono ?_; rintro e w' ⟨rfl, rfl⟩)
          go_ret2
          rw [hH.out]
          exact ⟨rfl, hBw⟩
    · obtain rfl : k = n := by omega
      rw [Int.sub_self] at hans
      cases rest with
      | nil =>
        have hH : Hid (par k.toNat ws = some ds) := Lib.hid (by rw [hans]; simp [par])
        clear hans
        obtain ⟨A4, c4, rfl, hR4⟩ := hown.form
        simp only [List.length_nil]
        go_wp2_with fail
        go_ret2
        rw [hH.out]
        exact ⟨A4, c4, rfl, hR4, hBw⟩
      | cons x r =>
        have hH : Hid (par k.toNat ws = none) := Lib.hid (by rw [hans]; simp [par])
        have hne2 : ((r.length : Int) + 1 == 0) = false := beq_false_of_ne (by omega)
        clear hans
        simp only [List.length_cons]
        go_wp2_with fail
        go_ret2
        rw [hH.out]
        exact ⟨rfl, hBw⟩

theorem decodeLists_any (s : ByteArray) (hb : s.size ≤ 1000000) (w : World) :
    Calls Tryd.prog 20 #[.string s] w fun e w' => LAns w e w' (decL s.data.toList) := by
  by_cases h8 : s.size % 8 = 0
  · have hl8 : s.data.toList.length % 8 = 0 := h8
    rw [decL, if_pos hl8]
    cases hd : dec s.data.toList with
    | nil =>
      have hlen := dec_length hl8
      have hls : s.data.toList.length = s.size := rfl
      rw [hd, List.length_nil] at hlen
      exact decodeLists_empty s (by omega) w
    | cons n ws => exact decodeLists_some s n ws h8 hb hd w
  · have hl8 : ¬ s.data.toList.length % 8 = 0 := h8
    rw [decL, if_neg hl8]
    exact decodeLists_bad s h8 w
end Go.Proofs.YtblfmbkkeieiaaaDoor
