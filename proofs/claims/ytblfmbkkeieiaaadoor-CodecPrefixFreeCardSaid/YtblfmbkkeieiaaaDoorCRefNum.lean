/- FormatDecimal and ParseDecimal of the reference of layer 3: the decimal form, and the number or the error; nothing that lay is changed. Conditions: a word; strings of at most 1000000 bytes. -/
import Derived.Test.YtblfmbkkeieiaaaDoorCParse
import Derived.Lib.SlBytesConst
namespace Go.Proofs.YtblfmbkkeieiaaaDoor
open Go.RowKit CodMath

theorem dec_short_len {u : Nat} (hu : u < 18446744073709551616) : (Lib.decDigits u).length ≤ 20 := by
  by_cases h : 1 ≤ u
  · rw [Lib.decDigits_length]
    have := Lib.numDigits_eq u h hu
    split at this <;> omega
  · rw [decDigits_small (by omega), List.length_singleton]
    omega
/-- The digits ahead of the last. -/
def lead (q : Nat) : List UInt8 := if q < 10 then [] else Lib.decDigits (q / 10)
def dch (q : Nat) : UInt8 := UInt8.ofNat (48 + q % 10)
theorem dec_lead (q : Nat) : Lib.decDigits q = lead q ++ [dch q] := by
  unfold lead dch
  by_cases h : q < 10
  · rw [if_pos h, decDigits_small h, Nat.mod_eq_of_lt h]; rfl
  · rw [if_neg h, decDigits_big h]
theorem lead_big {q : Nat} (h : ¬ q < 10) : lead q = lead (q / 10) ++ [dch (q / 10)] := by rw [← dec_lead, lead, if_neg h]

theorem digit_str (q : Int) (h0 : 0 ≤ q) (W : World) : (convert 46 9 (.slice (some ⟨W.heap.size, 0, none⟩) 1 1)).run Tryd.prog (W.alloc (.cells #[.int .u8 (48 + q % 10)] 5)) = .ok (.string ⟨#[dch q.toNat]⟩) (W.alloc (.cells #[.int .u8 (48 + q % 10)] 5)) := by
  refine run_convert_bytes_back (W.alloc (.cells #[.int .u8 (48 + q % 10)] 5)) 46 9 5 ⟨W.heap.size, 0, none⟩ 1 [dch q.toNat] Tryd.underlying46 Tryd.underlying5 Tryd.underlying9 (fun j hj => ?_)
  simp only [List.length_singleton] at hj
  obtain rfl : j = 0 := by omega
  have e : (dch q.toNat).toNat = 48 + q.toNat % 10 := dig_toNat (by omega)
  rw [show (⟨W.heap.size, 0, none⟩ : Addr).add 0 = ⟨W.heap.size, 0, none⟩ from by simp [Addr.add], World.cell?_alloc_new]
  simp only [List.getElem_cons_zero, e]
  simp
  omega

set_option maxRecDepth 100000 in
set_option maxHeartbeats 1000000 in
theorem rFormat_any (n : Int) (h0 : 0 ≤ n) (h1 : n ≤ 18446744073709551615) (w : World) :
    Calls Tryd.prog 26 #[.int .u64 n] w fun e w' => e = .returned (.string ⟨(Lib.decDigits n.toNat).toArray⟩) ∧ Below w.heap.size w w' := by
  go_enter Tryd.func26, Tryd.ntmps26
  have hd := digit_str n h0
  go_wp2
  go_loopw [0, 3] (fun q v wr => ∃ (m : Int) (L : List UInt8), q = .int .u64 m ∧ v = .string ⟨L.toArray⟩ ∧ 0 ≤ m ∧ m ≤ 18446744073709551615 ∧ Hid (Lib.decDigits n.toNat = lead m.toNat ++ L) ∧ Below w.heap.size w wr) (fun q _ _ => (intOf q).toNat)
  case atStart => exact ⟨n, [dch n.toNat], rfl, rfl, h0, h1, Lib.hid (dec_lead _), (Below.refl _ w).alloc (Nat.le_refl _) _⟩
  case round =>
    obtain ⟨m, L, rfl, rfl, hm0, hm1, hE, hB⟩ := hrel
    have hsz := hB.size
    by_cases hge : 10 ≤ m
    · have hq0 : 0 ≤ m / 10 := by omega
      have hdm := digit_str (m / 10) hq0
      have hst : Hid (lead m.toNat = lead (m / 10).toNat ++ [dch (m / 10).toNat]) := Lib.hid (by rw [lead_big (by omega), show (m / 10).toNat = m.toNat / 10 from by omega])
      have hLl : L.length ≤ 20 := by
        have h2 := dec_short_len (u := n.toNat) (by omega)
        rw [hE.out, List.length_append] at h2
        omega
      have hcat : Hid ((⟨#[dch (m / 10).toNat]⟩ : ByteArray) ++ ⟨L.toArray⟩ = ⟨(dch (m / 10).toNat :: L).toArray⟩) := Lib.hid (by
        apply ByteArray.ext
        simp [ByteArray.data_append])
      clear hd
      go_wp2
      go_roundw
      case rel => exact ⟨m / 10, dch (m / 10).toNat :: L, rfl, congrArg _ hcat.out, hq0, by omega, Lib.hid (by rw [hE.out, hst.out, List.append_assoc]; rfl), hB.alloc hsz _⟩
      case measure => simp [intOf]; omega
    · have hlt : m < 10 := by omega
      go_wp2
      go_ret
      refine ⟨?_, hB⟩
      rw [hE.out, lead, if_pos (by omega), List.nil_append]
      rfl

theorem numF_append' (l m : List UInt8) (a : Nat) : numF a (l ++ m) = numF (numF a l) m := by
  induction l generalizing a with
  | nil => rw [List.nil_append, numF_nil]
  | cons d l ih => rw [List.cons_append, numF_cons, numF_cons, ih]
set_option maxRecDepth 100000 in
set_option maxHeartbeats 2000000 in
theorem rParse_any (s : ByteArray) (hb : s.size ≤ 1000000) (w : World) :
    Calls Tryd.prog 27 #[.string s] w fun e w' => e = .returned (pAns (pdec s.data.toList)) ∧ w = w' := by
  by_cases h0 : s.size = 0
  · obtain rfl : s = ⟨#[]⟩ := by
      cases s with
      | mk d => simp only [ByteArray.size] at h0; rw [Array.eq_empty_of_size_eq_zero h0]
    go_enter Tryd.func27, Tryd.ntmps27
    go_wp2
    go_ret2
    exact ⟨rfl, rfl⟩
  · have hpos : 0 < s.size := by omega
    have hE1 : ¬ s.toList = [] := toList_ne s hpos
    have hE2 : s.toList.isEmpty = false := by simpa using hE1
    have hl : s.data.toList.length = s.size := rfl
    have hLn := Lib.hid hl
    have hhd : s.data.toList.head? = some s[0] := by rw [List.head?_eq_getElem?]; exact byte_at s 0 hpos
    have hH := Lib.hid hhd
    clear hl hhd
    by_cases hz : (1 : Int) < s.size ∧ (s[0].toNat : Int) = 48
    · obtain ⟨h1, h48⟩ := hz
      have hF : Hid (pdec s.data.toList = (0, 3)) := Lib.hid (pdec_bad fun h => by
        exact (isDec_iff.1 h).2.1 ⟨by rw [hH.out]; exact congrArg some (u8_eq (by show s[0].toNat = 48; omega)), by rw [hLn.out]; omega⟩)
      go_enter Tryd.func27, Tryd.ntmps27
      go_wp2
      go_ret2
      exact ⟨by rw [hF.out]; rfl, rfl⟩
    · have hG : Hid (¬ (s.data.toList.head? = some 48 ∧ 1 < s.data.toList.length)) := Lib.hid fun ⟨h1, h2⟩ => hz ⟨by rw [hLn.out] at h2; omega, by
        rw [hH.out] at h1
        injection h1 with h1
        rw [h1]
        rfl⟩
      have h48 : (1 : Int) < s.size → ¬ (s[0].toNat : Int) = 48 := fun h1 h => hz ⟨h1, h⟩
      have hNz : Hid (s.data.toList ≠ []) := Lib.hid fun e => by have := hLn.out; rw [e, List.length_nil] at this; omega
      clear hz
      rcases Int.lt_or_le 1 (s.size : Int) with hs1 | hs1
      all_goals
        try replace h48 := h48 hs1
        try have hbe := beq_false_of_ne h48
        go_enter Tryd.func27, Tryd.ntmps27
        go_wp2
        go_loop [4] (fun i => ∃ k : Nat, k ≤ s.size ∧ i = .int .i64 k ∧ Hid (∀ c ∈ s.data.toList.take k, isDig c = true)) (fun i => s.size - (intOf i).toNat)
        case atStart => exact ⟨0, Nat.zero_le _, rfl, Lib.hid (fun c hc => by simp at hc)⟩
        case round =>
          obtain ⟨k, hk, rfl, hA⟩ := hrel
          by_cases hlt : k < s.size
          · have hby := Lib.hid (byte_at s k hlt)
            by_cases hd : (48 : Int) ≤ s[k].toNat ∧ (s[k].toNat : Int) ≤ 57
            · obtain ⟨hd1, hd2⟩ := hd
              go_wp2
              go_round
              case rel =>
                refine ⟨k + 1, by omega, by simp, Lib.hid fun c hc => ?_⟩
                rw [List.take_add_one, hby.out, Option.toList_some] at hc
                rcases List.mem_append.1 hc with hc | hc
                · exact hA.out c hc
                · rw [List.mem_singleton.1 hc]; exact isDig_iff.2 ⟨by omega, by omega⟩
              case measure => simp [intOf]; omega
            · have hF : Hid (pdec s.data.toList = (0, 3)) := Lib.hid (pdec_bad fun h => by
                have := isDig_iff.1 ((isDec_iff.1 h).2.2 s[k] (List.mem_of_getElem? hby.out))
                exact hd (by omega))
              rcases Int.lt_or_le (s[k].toNat : Int) 48 with hd1 | hd1
              · clear hd
                go_wp2
                go_ret2
                exact ⟨by rw [hF.out]; rfl, rfl⟩
              · have hd2 : (57 : Int) < s[k].toNat := by omega
                clear hd
                go_wp2
                go_ret2
                exact ⟨by rw [hF.out]; rfl, rfl⟩
          · obtain rfl : k = s.size := by omega
            have hAll : Hid (∀ c ∈ s.data.toList, isDig c = true) := Lib.hid fun c hc => hA.out c (by rw [List.take_of_length_le (by rw [hLn.out]; exact Nat.le_refl _)]; exact hc)
            have hDec : Hid (isDec s.data.toList = true) := Lib.hid (isDec_iff.2 ⟨hNz.out, hG.out, hAll.out⟩)
            clear hA
            go_wp2
            go_loop [5, 6] (fun v i => ∃ (k : Nat) (a : Int), k ≤ s.size ∧ i = .int .i64 k ∧ v = .int .u64 a ∧ 0 ≤ a ∧ a ≤ 18446744073709551615 ∧ Hid (a = (numF 0 (s.data.toList.take k) : Int))) (fun _ i => s.size - (intOf i).toNat)
            case atStart => exact ⟨0, 0, Nat.zero_le _, rfl, rfl, Int.le_refl _, by decide, Lib.hid (by rw [List.take_zero, numF_nil]; rfl)⟩
            case round =>
              obtain ⟨k, a, hk', rfl, rfl, ha0, ha1, hN⟩ := hrel
              by_cases hlt2 : k < s.size
              · have hby := Lib.hid (byte_at s k hlt2)
                have hdig := isDig_iff.1 (hAll.out s[k] (List.mem_of_getElem? hby.out))
                obtain ⟨dd, hdd⟩ : ∃ dd : Int, dd = (s[k].toNat : Int) - 48 := ⟨_, rfl⟩
                have f1 : IntKind.u8.wrap ((s[k].toNat : Int) - 48) = dd := by rw [IntKind.wrap_u8]; omega
                have hd0 : 0 ≤ dd := by omega
                have hd9 : dd ≤ 9 := by omega
                have hstep : Hid (((numF 0 (s.data.toList.take (k + 1)) : Nat) : Int) = a * 10 + dd) := Lib.hid (by
                  rw [List.take_add_one, hby.out, Option.toList_some, numF_push, hN.out, hdd]
                  omega)
                have hDD := Lib.hid hdd
                clear hdig hdd
                by_cases hr : (18446744073709551615 - dd) / 10 < a
                · have hF : Hid (pdec s.data.toList = (0, 2)) := Lib.hid (pdec_great hDec.out (by
                    have h2 := numF_ge (s.data.toList.drop (k + 1)) (numF 0 (s.data.toList.take (k + 1)))
                    have h3 : numF (numF 0 (s.data.toList.take (k + 1))) (s.data.toList.drop (k + 1)) = num s.data.toList := by rw [← numF_append', List.take_append_drop]; rfl
                    have h4 := hstep.out
                    rw [h3] at h2
                    omega))
                  go_wp2
                  go_ret2
                  exact ⟨by rw [hF.out]; rfl, rfl⟩
                · have hfit : a * 10 + dd ≤ 18446744073709551615 := by omega
                  have hle : a ≤ (18446744073709551615 - dd) / 10 := by omega
                  clear hr
                  go_wp2
                  go_round
                  case rel => exact ⟨k + 1, a * 10 + dd, by omega, by simp, by simp, by omega, hfit, Lib.hid hstep.out.symm⟩
                  case measure => simp [intOf]; omega
              · obtain rfl : k = s.size := by omega
                have hF : Hid (pdec s.data.toList = (a.toNat, 0)) := Lib.hid (by
                  have h2 := hN.out
                  rw [List.take_of_length_le (by rw [hLn.out]; exact Nat.le_refl _)] at h2
                  have h3 : num s.data.toList = a.toNat := by rw [num]; omega
                  rw [pdec_ok hDec.out (by omega), h3])
                have ht : Hid ((a.toNat : Int) = a) := Lib.hid (by omega)
                go_wp2
                go_ret2
                exact ⟨by rw [hF.out]; simp only [pAns]; rw [ht.out]; rfl, rfl⟩
end Go.Proofs.YtblfmbkkeieiaaaDoor
