/- DecodeWords and DecodeLists of the reference of layer 3: what the string encodes, in memory of its own, or nothing and ErrFormat; nothing that lay is changed. Conditions: strings of at most 1000000 bytes. -/
import Derived.Test.YtblfmbkkeieiaaaDoorCDecL
import Derived.Test.YtblfmbkkeieiaaaDoorCSame
import Derived.Laws.OwnMore
namespace Go.Proofs.YtblfmbkkeieiaaaDoor
open Go.RowKit CodMath

theorem rDecodeWords_bad (s : ByteArray) (h : s.size % 8 ≠ 0) (w : World) :
    Calls Tryd.prog 17 #[.string s] w fun e w' => e = .returned (.tuple #[.slice none 0 0, .int .i64 7]) ∧ w = w' := by
  have h' : (s.size : Int) % 8 ≠ 0 := by omega
  go_enter Tryd.func17, Tryd.ntmps17
  go_wp2
  go_ret2
  exact ⟨rfl, rfl⟩

theorem word_lt7 {l : List UInt8} (h : l.length ≤ 7) : word l < 72057594037927936 := by
  have h1 := word_lt l
  have e : (256 : Int) ^ l.length = ((256 ^ l.length : Nat) : Int) := by rw [Int.natCast_pow]; rfl
  have h2 : (256 : Nat) ^ l.length ≤ 256 ^ 7 := Nat.pow_le_pow_right (by decide) h
  have h3 : (256 : Nat) ^ 7 = 72057594037927936 := by decide
  omega
/-- From the upper end: one byte more. -/
theorem word_down {s : ByteArray} {i k : Nat} (hk : i * 8 + k < s.size) (hk8 : k < 8) :
    bits BinOp.or IntKind.u64 (IntKind.u64.wrap (word ((s.data.toList.drop (8 * i + (k + 1))).take (7 - k)) * 256)) (IntKind.u64.wrap ((s[i * 8 + k].toNat : Nat) : Int)) = word ((s.data.toList.drop (8 * i + k)).take (8 - k)) := by
  have hl : s.data.toList.length = s.size := rfl
  have hd : s.data.toList.drop (8 * i + k) = s[i * 8 + k] :: s.data.toList.drop (8 * i + (k + 1)) := by
    rw [List.drop_eq_getElem_cons (by omega)]
    congr 1
    show s.data.toList[8 * i + k] = s[i * 8 + k]
    simp only [Nat.mul_comm 8 i]
    rfl
  rw [hd, show 8 - k = (7 - k) + 1 from by omega, List.take_succ_cons, word]
  generalize hV : word ((s.data.toList.drop (8 * i + (k + 1))).take (7 - k)) = V
  have h0 : 0 ≤ V := by rw [← hV]; exact word_nonneg _
  have h1 : V < 72057594037927936 := by rw [← hV]; exact word_lt7 (by rw [List.length_take]; omega)
  obtain ⟨m, rfl⟩ : ∃ m : Nat, V = m := ⟨V.toNat, by omega⟩
  have hb := s[i * 8 + k].toNat_lt
  generalize s[i * 8 + k].toNat = b at hb
  have e1 : IntKind.u64.wrap ((m : Int) * 256) = ((256 * m : Nat) : Int) := by rw [IntKind.wrap_u64]; omega
  have e2 : IntKind.u64.wrap (b : Int) = b := by rw [IntKind.wrap_u64]; omega
  have e := Nat.two_pow_add_eq_or_of_lt (i := 8) (b := b) (by omega) m
  rw [e1, e2, bits_or_u64_nat (256 * m) b (by omega) (by omega), show (256 : Nat) * m = 2 ^ 8 * m from rfl, ← e]
  omega

set_option maxRecDepth 100000 in
set_option maxHeartbeats 1000000 in
theorem rDecodeWords_good (s : ByteArray) (h : s.size % 8 = 0) (hb : s.size ≤ 1000000) (w : World) :
    Calls Tryd.prog 17 #[.string s] w fun e w' => RowOK w e w' (dec s.data.toList) := by
  obtain ⟨n, hn⟩ : ∃ n, s.size = 8 * n := ⟨s.size / 8, by omega⟩
  have hl : s.data.toList.length = 8 * n := hn
  obtain ⟨i0, hi, hz0, hz1, hz2⟩ := info_parts info_u64
  have hL := Lib.hid hl
  have hlen : Hid ((dec s.data.toList).length = n) := Lib.hid (by rw [dec_length (by rw [hl]; omega), hl]; omega)
  have h' : (s.size : Int) % 8 = 0 := by omega
  have hN := Lib.hid hn
  clear hl hn h
  go_enter Tryd.func17, Tryd.ntmps17
  go_wp2
  clear h'
  go_loopw [4, 5] (fun v i wr => ∃ j : Nat, j ≤ n ∧ i = .int .i64 (j * 8) ∧ wr.ownsRow w.heap.size 40 1 v j (((dec s.data.toList).take j).map (Value.int .u64)) ∧ Below w.heap.size w wr) (fun _ i _ => s.size - (intOf i).toNat)
  case atStart => exact ⟨0, Nat.zero_le _, rfl, World.ownsRow_nil _ _ _ _, Below.refl _ _⟩
  case round =>
    obtain ⟨j, hj, rfl, hrow, hB⟩ := hrel
    by_cases hlt : j < n
    · have hle : j * 8 + 8 ≤ s.size := by have := hN.out; omega
      have hlt' : (j : Int) * 8 < s.size := by omega
      go_wp2
      go_loopw [6, 7] (fun v i wr' => ∃ k : Nat, k ≤ 8 ∧ i = .int .i64 ((k : Int) - 1) ∧ v = .int .u64 (word ((s.data.toList.drop (8 * j + k)).take (8 - k))) ∧ wr' = wr) (fun _ i _ => (intOf i + 1).toNat)
      case atStart => exact ⟨8, Nat.le_refl _, rfl, rfl, rfl⟩
      case round =>
        obtain ⟨k, hk, rfl, rfl, rfl⟩ := hrel
        cases k with
        | zero =>
          have hword := dec_at j s.data.toList (by rw [hL.out]; omega)
          have e2 : Hid ((dec s.data.toList).take (j + 1) = (dec s.data.toList).take j ++ [word ((s.data.toList.drop (8 * j + 0)).take (8 - 0))]) := Lib.hid (by rw [List.take_add_one, hword]; rfl)
          clear hword
          generalize word ((s.data.toList.drop (8 * j + 0)).take (8 - 0)) = x at e2
          have hsz := hB.size
          go_wp2_with (at_builtin; refine wpList_append_own _ rfl _ _ 22 rfl w.heap.size 40 i0 (.int .u64 0) 1 8 Tryd.underlying22 hi hz0 hz1 hz2 rfl (by decide) _ _ _ rfl (hrow.alloc _) ⟨wr.heap.size, 0, none⟩ 1 1 [.int .u64 x] rfl rfl (cell_one_new _ _ _) (by simp [Value.oneCell']) (by unfold maxLen; omega) (by omega) (by simp; omega) ?_; intro v' w2 hown' hgrow _)
          have hB2 : Below w.heap.size w w2 := (hB.alloc hsz _).grown hgrow (by simp; omega) (fun k e => (hrow.lt k e).1)
          go_roundw
          case rel => exact ⟨j + 1, by omega, by congr 1; omega, by rw [e2.out, List.map_append]; exact hown', hB2⟩
          case measure => simp [intOf]; omega
        | succ k =>
          have hd := Lib.hid (word_down (s := s) (i := j) (k := k) (by omega) (by omega))
          go_wp2
          go_roundw
          case rel => exact ⟨k, by omega, by simp, congrArg _ hd.out, trivial⟩
          case measure => simp [intOf]
    · obtain rfl : j = n := by omega
      have hAll := Lib.hid (take_all (l := dec s.data.toList) (n := j) (by rw [hlen.out]; exact Nat.le_refl _))
      have hge : (s.size : Int) ≤ j * 8 := by have := hN.out; omega
      rw [hAll.out] at hrow
      obtain ⟨A, c, rfl, hc, hR⟩ := own_form hrow
      go_wp2
      go_ret2
      exact ⟨A, c, rfl, hR, hc, hB⟩

/-- The length of a slice. -/
def lenOf : Value → Nat
  | .slice _ n _ => n
  | _ => 0
/-- A slice from place 1 on, of k elements. -/
theorem cut_mid {B b off c : Nat} {w : World} {xs : List Int} (h : RdT B w (some ⟨b, off, none⟩) xs) (hc : xs.length ≤ c) (k : Nat) (hk : k + 1 ≤ xs.length) :
    ∃ A1 c1, RdT B w A1 ((xs.drop 1).take k) ∧ (A1 = none → c1 = 0) ∧ ∀ W, (Instr.slice 22 (.slice (some ⟨b, off, none⟩) xs.length c) (some (.int .i64 1)) (some (.int .i64 (1 + (k : Int)))) none).run Tryd.prog W = .ok (.slice A1 k c1) W := by
  have hrun : ∀ W, (Instr.slice 22 (.slice (some ⟨b, off, none⟩) xs.length c) (some (.int .i64 1)) (some (.int .i64 (1 + (k : Int)))) none).run Tryd.prog W = .ok (sliced (some ⟨b, off, none⟩) 1 (1 + k) c 1) W := fun W => by
    rw [run_slice_lh W 22 _ _ _ slice_words .i64 .i64 1 (1 + (k : Int)) (by omega) (by omega) (by omega), elem_words, Tryd.sizeOf40, Result.andThen, show (1 + (k : Int)).toNat = 1 + k from by omega]
    rfl
  by_cases e : c = 1
  · refine ⟨some ⟨b, off, none⟩, c - 1, ?_, fun h => (by cases h), fun W => by rw [hrun, sliced, if_pos e, Nat.add_sub_cancel_left]⟩
    rw [show k = 0 from by omega, List.take_zero]
    exact RdT.nil
  · exact ⟨some ⟨b, off + 1, none⟩, c - 1, (h.drop 1).take k, fun h => (by cases h), fun W => by rw [hrun, sliced, if_neg e, Nat.mul_one, Nat.add_sub_cancel_left]; simp [Addr.add]⟩

theorem rDecodeLists_bad (s : ByteArray) (h : s.size % 8 ≠ 0) (w : World) :
    Calls Tryd.prog 23 #[.string s] w fun e w' => e = .returned (.tuple #[.slice none 0 0, .int .i64 7]) ∧ Below w.heap.size w w' := by
  go_enter Tryd.func23, Tryd.ntmps23
  go_wp2_with (go_at_call 17; refine (rDecodeWords_bad s h _).mono ?_; rintro e w' ⟨rfl, rfl⟩)
  go_ret2
  exact ⟨rfl, Below.refl _ _⟩
theorem rDecodeLists_empty (s : ByteArray) (h : s.size = 0) (w : World) :
    Calls Tryd.prog 23 #[.string s] w fun e w' => e = .returned (.tuple #[.slice none 0 0, .int .i64 7]) ∧ Below w.heap.size w w' := by
  have hl : s.data.toList = [] := List.eq_nil_of_length_eq_zero h
  have hd := fun w => rDecodeWords_good s (by omega) (by omega) w
  rw [hl] at hd
  go_enter Tryd.func23, Tryd.ntmps23
  go_wp2_with (go_at_call 17; refine (hd _).mono ?_; rintro e w' ⟨A, c, rfl, hR, hc, hB⟩; simp only [dec, List.length_nil])
  go_ret2
  exact ⟨rfl, hB⟩

set_option maxRecDepth 100000 in
set_option maxHeartbeats 2000000 in
theorem rDecodeLists_some (s : ByteArray) (n : Int) (ws : List Int) (h8 : s.size % 8 = 0) (hb : s.size ≤ 1000000) (hd : dec s.data.toList = n :: ws) (w : World) :
    Calls Tryd.prog 23 #[.string s] w fun e w' => LAns w e w' (par n.toNat ws) := by
  have hl8 : s.data.toList.length % 8 = 0 := h8
  have hlen := dec_length hl8
  have hw := dec_words hl8
  rw [hd, List.length_cons] at hlen
  rw [hd] at hw
  have hls : s.data.toList.length = s.size := rfl
  have hl : ws.length ≤ 1000000 := by omega
  have hn := hw n (by simp)
  have hws : Words ws := fun x hx => hw x (by simp [hx])
  have hD := fun w => rDecodeWords_good s h8 hb w
  rw [hd] at hD
  simp only [List.length_cons, RowOK] at hD
  clear hls hlen hl8 hd hw h8 hb
  obtain ⟨i0, hi, hz0, hz1, hz2⟩ := info_parts info_row
  go_enter Tryd.func23, Tryd.ntmps23
  go_wp2_with fail
  refine (hD _).mono ?_; clear hD; rintro e w1 ⟨A, c, rfl, hR, hc, hB⟩
  obtain ⟨b, off, rfl, hb, hcl⟩ := hR.at_
  obtain ⟨A1, c1, hR1, hc1, hsl⟩ := cut_from hR hc 1 1 rfl (by simp)
  simp only [List.length_cons, Nat.add_sub_cancel, List.drop_succ_cons, List.drop_zero] at hR1 hc1 hsl
  have hne : ((ws.length : Int) + 1 == 0) = false := beq_false_of_ne (by omega)
  go_wp2_with fail
  go_loopw [4, 7] (fun r v wr => ∃ (ds : List (List Int)) (rest : List Int) (A : Option Addr) (c : Nat), LLoop w wr ws n ds.length r v ds rest A c) (fun r _ _ => lenOf r)
  case atStart => exact ⟨[], ws, A1, c1, rfl, hR1, hc1, LOwn.nil _ _, Int.le_refl _, hn.1, hB, hws, by simp, by rw [List.length_nil, Int.natCast_zero, Int.sub_zero]; cases par n.toNat ws <;> simp⟩
  case round =>
    obtain ⟨ds, rest, A, c, H⟩ := hrel
    obtain ⟨rfl, hrd, hcap, hown, hk0, hkn, hBw, hwd, hroom, hans⟩ := H
    obtain ⟨vs, hv1, hv2⟩ := hown
    obtain ⟨A4, c4, rfl⟩ : ∃ A4 c4, u7 = .slice A4 ds.length c4 := by
      rcases hv1.2 with ⟨hv, h0⟩ | ⟨g, cap, cur, hv, _⟩
      · exact ⟨none, 0, by rw [hv, h0]⟩
      · exact ⟨_, _, hv⟩
    clear hsl hcl hR hc hB hR1 hc1
    by_cases hlt : (ds.length : Int) < n
    · cases rest with
      | nil =>
        have hH : Hid (par n.toNat ws = none) := Lib.hid (by
          rw [hans, show (n - (ds.length : Int)).toNat = (n - ds.length - 1).toNat + 1 from by omega]
          rfl)
        clear hans
        simp only [List.length_nil]
        go_wp2_with fail
        go_ret2
        rw [hH.out]
        exact ⟨rfl, hBw⟩
      | cons x r =>
        have hx := hwd x (by simp)
        have hrl : r.length ≤ 1000000 := by simp only [List.length_cons] at hroom; omega
        have hne2 : ((r.length : Int) + 1 == 0) = false := beq_false_of_ne (by omega)
        obtain ⟨b, off, rfl, _, hcx⟩ := hrd.at_
        by_cases hle : x ≤ r.length
        · obtain ⟨m, rfl⟩ : ∃ m : Nat, x = m := ⟨x.toNat, by omega⟩
          have hml : m ≤ r.length := by omega
          obtain ⟨A2, c2, hR2, hc2, hsl⟩ := cut_from hrd hcap (m + 1) (1 + m) (by omega) (by simp only [List.length_cons]; omega)
          obtain ⟨A3, c3, hR3, hA3, hsl3⟩ := cut_mid hrd hcap m (by simp only [List.length_cons]; omega)
          simp only [List.length_cons, List.drop_succ_cons, Nat.add_sub_add_right, List.drop_zero] at hcap hroom hR2 hc2 hsl hR3 hsl3 ⊢
          have hst : par n.toNat ws = (par (n - ((ds.length : Int) + 1)).toNat (r.drop m)).map ((ds ++ [r.take m]) ++ ·) := by
            rw [hans, show (n - (ds.length : Int)).toNat = (n - ((ds.length : Int) + 1)).toNat + 1 from by omega]
            simp only [par, first, if_pos hle, Int.toNat_natCast]
            cases par (n - ((ds.length : Int) + 1)).toNat (r.drop m) <;> simp
          have hST := Lib.hid hst
          have htk : (r.take m).length = m := by rw [List.length_take]; omega
          have hTK := Lib.hid htk
          have hsz := hBw.size
          clear hst hans htk
          go_wp2_with (at_builtin; refine wpList_append_own _ rfl _ _ 31 rfl w.heap.size 22 i0 (.slice none 0 0) 1 24 Tryd.underlying31 hi hz0 hz1 hz2 rfl (by decide) _ _ _ rfl (hv1.alloc _) ⟨wr.heap.size, 0, none⟩ 1 1 [.slice A3 m c3] rfl rfl (cell_one_new _ _ _) (by simp [Value.oneCell']) (by simp only [maxLen]; omega) (by omega) (by simp; omega) ?_; intro v' w3 hown' hgrow _)
          have hB4 : Below w.heap.size w w3 := (hBw.alloc (by omega) _).grown hgrow (by simp; omega) (fun k e => (hv1.lt k e).1)
          go_roundw
          case rel =>
            refine ⟨ds ++ [r.take m], r.drop m, A2, c2, by rw [List.length_drop], ?_, by rw [List.length_drop]; exact hc2, ?_, by omega, by rw [List.length_append]; simp; omega, hB4, fun x hx => hwd x (List.mem_cons_of_mem _ (List.mem_of_mem_drop hx)), by simp only [List.length_append, List.length_cons, List.length_nil, List.length_drop]; omega, by rw [List.length_append]; exact hST.out⟩
            · exact (hR2.push _).grown hgrow (own_tag (hv1.alloc _)) hgrow.size
            · refine LOwn.add (hv1.alloc _) (fun j l hj => ?_) hA3 (hR3.push _) (by rw [hTK.out]; exact hown') hgrow
              obtain ⟨A', c', h1, h0, h2⟩ := hv2 j l hj
              exact ⟨A', c', h1, h0, h2.push _⟩
          case measure => simp [lenOf]; omega
        · have hgt : (r.length : Int) < x := by omega
          have hH : Hid (par n.toNat ws = none) := Lib.hid (by
            rw [hans, show (n - (ds.length : Int)).toNat = (n - ds.length - 1).toNat + 1 from by omega]
            simp only [par, first, if_neg hle, Option.map_none])
          clear hans
          simp only [List.length_cons] at hcap ⊢
          go_wp2_with fail
          go_ret2
          rw [hH.out]
          exact ⟨rfl, hBw⟩
    · have hdn : (ds.length : Int) = n := by omega
      rw [hdn, Int.sub_self] at hans
      have hge : n ≤ (ds.length : Int) := by omega
      clear hdn hlt
      cases rest with
      | nil =>
        have hH : Hid (par n.toNat ws = some ds) := Lib.hid (by rw [hans]; simp [par])
        clear hans
        have hR4 : ∃ A c, Value.slice A4 ds.length c4 = .slice A ds.length c ∧ RdL wr.heap.size wr A ds := LOwn.form ⟨vs, hv1, hv2⟩
        obtain ⟨A5, c5, e5, hR5⟩ := hR4
        injection e5 with e6 e7 e8
        subst e6
        simp only [List.length_nil]
        go_wp2_with fail
        go_ret2
        rw [hH.out]
        exact ⟨A4, _, rfl, hR5, hBw⟩
      | cons x r =>
        have hH : Hid (par n.toNat ws = none) := Lib.hid (by rw [hans]; simp [par])
        have hpos : (0 : Int) < (r.length : Int) + 1 := by omega
        clear hans
        simp only [List.length_cons]
        go_wp2_with fail
        go_ret2
        rw [hH.out]
        exact ⟨rfl, hBw⟩

theorem rDecodeLists_any (s : ByteArray) (hb : s.size ≤ 1000000) (w : World) :
    Calls Tryd.prog 23 #[.string s] w fun e w' => LAns w e w' (decL s.data.toList) := by
  by_cases h8 : s.size % 8 = 0
  · have hl8 : s.data.toList.length % 8 = 0 := h8
    rw [decL, if_pos hl8]
    cases hd : dec s.data.toList with
    | nil =>
      have hlen := dec_length hl8
      have hls : s.data.toList.length = s.size := rfl
      rw [hd, List.length_nil] at hlen
      exact rDecodeLists_empty s (by omega) w
    | cons n ws => exact rDecodeLists_some s n ws h8 hb hd w
  · have hl8 : ¬ s.data.toList.length % 8 = 0 := h8
    rw [decL, if_neg hl8]
    exact rDecodeLists_bad s h8 w
end Go.Proofs.YtblfmbkkeieiaaaDoor
