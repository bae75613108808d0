/- isDecimal and ParseDecimal of package codec: the number that the string spells, or ErrSyntax, or ErrRange; nothing that lay is changed. Conditions: strings of at most 1000000 bytes; the variable strconv.ErrRange holds an error. -/
import Derived.Test.YtblfmbkkeieiaaaDoorCDecim
namespace Go.Proofs.YtblfmbkkeieiaaaDoor
open Go.RowKit CodMath

theorem byte_at (s : ByteArray) (k : Nat) (hk : k < s.size) : s.data.toList[k]? = some s[k] := by
  have : s.data.toList.length = s.size := rfl
  rw [List.getElem?_eq_getElem (by omega)]
  rfl

theorem toList_ne (s : ByteArray) (h : 0 < s.size) : ¬ s.toList = [] := by
  rw [ByteArray.toList_eq]
  intro e
  have h1 : s.data.toList.length = s.size := rfl
  rw [e, List.length_nil] at h1
  omega

set_option maxRecDepth 100000 in
set_option maxHeartbeats 1000000 in
theorem isDecimal_any (s : ByteArray) (hb : s.size ≤ 1000000) (w : World) :
    Calls Tryd.prog 33 #[.string s] w fun e w' => e = .returned (.bool (isDec s.data.toList)) ∧ w = w' := by
  by_cases h0 : s.size = 0
  · obtain rfl : s = ⟨#[]⟩ := by
      cases s with
      | mk d => simp only [ByteArray.size] at h0; rw [Array.eq_empty_of_size_eq_zero h0]
    go_enter Tryd.func33, Tryd.ntmps33
    go_wp2
    go_ret
    exact ⟨rfl, rfl⟩
  · have hpos : 0 < s.size := by omega
    have hE1 : ¬ s.toList = [] := toList_ne s hpos
    have hE2 : s.toList.isEmpty = false := by simpa using hE1
    have hl : s.data.toList.length = s.size := rfl
    have hLn := Lib.hid hl
    have hhd : s.data.toList.head? = some s[0] := by rw [List.head?_eq_getElem?]; exact byte_at s 0 hpos
    have hH := Lib.hid hhd
    clear hl hhd
    by_cases hz : (s[0].toNat : Int) = 48 ∧ (1 : Int) < s.size
    · obtain ⟨h48, h1⟩ := hz
      have hF : Hid (isDec s.data.toList = false) := Lib.hid (Bool.eq_false_iff.2 fun h => (isDec_iff.1 h).2.1 ⟨by rw [hH.out]; exact congrArg some (u8_eq (by show s[0].toNat = 48; omega)), by rw [hLn.out]; omega⟩)
      go_enter Tryd.func33, Tryd.ntmps33
      go_wp2
      go_ret
      exact ⟨by rw [hF.out]; rfl, rfl⟩
    · have hG : Hid (¬ (s.data.toList.head? = some 48 ∧ 1 < s.data.toList.length)) := Lib.hid fun ⟨h1, h2⟩ => hz ⟨by
        rw [hH.out] at h1
        injection h1 with h1
        rw [h1]
        rfl, by rw [hLn.out] at h2; omega⟩
      obtain ⟨r, hr⟩ : ∃ r, s.data.toList.all isDig = r := ⟨_, rfl⟩
      have hR := Lib.hid hr
      clear hr
      have fin : Calls Tryd.prog 33 #[.string s] w fun e w' => e = .returned (.bool r) ∧ w = w' := by
        have hL0 : s.data.toList.length = s.size := rfl
        have h1 : (s[0].toNat : Int) = 48 → (s.size : Int) ≤ 1 := fun h => by omega
        clear hz hL0
        rcases Decidable.em ((s[0].toNat : Int) = 48) with h48 | h48
        all_goals
          try replace h1 := h1 h48
          go_enter Tryd.func33, Tryd.ntmps33
          go_wp2
          go_loop [18] (fun i => ∃ k : Nat, k ≤ s.size ∧ i = .int .i64 k ∧ Hid (∀ c ∈ s.data.toList.take k, isDig c = true)) (fun i => s.size - (intOf i).toNat)
          case atStart => exact ⟨0, Nat.zero_le _, rfl, Lib.hid (fun c hc => by simp at hc)⟩
          case round =>
            obtain ⟨k, hk, rfl, hA⟩ := hrel
            by_cases hlt : k < s.size
            · have hby := Lib.hid (byte_at s k hlt)
              by_cases hd : (48 : Int) ≤ s[k].toNat ∧ (s[k].toNat : Int) ≤ 57
              · obtain ⟨hd1, hd2⟩ := hd
                go_wp2
                go_round
                case rel =>
                  refine ⟨k + 1, by omega, by simp, Lib.hid fun c hc => ?_⟩
                  rw [List.take_add_one, hby.out, Option.toList_some] at hc
                  rcases List.mem_append.1 hc with hc | hc
                  · exact hA.out c hc
                  · rw [List.mem_singleton.1 hc]; exact isDig_iff.2 ⟨by omega, by omega⟩
                case measure => simp [intOf]; omega
              · have hF : Hid (r = false) := Lib.hid (by rw [← hR.out]; exact Bool.eq_false_iff.2 fun h => hd (by
                  have := isDig_iff.1 (List.all_eq_true.1 h s[k] (List.mem_of_getElem? hby.out))
                  omega))
                rcases Int.lt_or_le (s[k].toNat : Int) 48 with hd1 | hd1
                · clear hd
                  go_wp2
                  go_ret
                  exact ⟨by rw [hF.out]; rfl, rfl⟩
                · have hd2 : (57 : Int) < s[k].toNat := by omega
                  clear hd
                  go_wp2
                  go_ret
                  exact ⟨by rw [hF.out]; rfl, rfl⟩
            · obtain rfl : k = s.size := by omega
              have hT : Hid (r = true) := Lib.hid (by rw [← hR.out]; exact List.all_eq_true.2 fun c hc => hA.out c (by rw [List.take_of_length_le (by rw [hLn.out]; exact Nat.le_refl _)]; exact hc))
              go_wp2
              go_ret
              exact ⟨by rw [hT.out]; rfl, rfl⟩
      have e : isDec s.data.toList = r := by
        have hr := hR.out
        cases r with
        | true => exact isDec_iff.2 ⟨fun e => by have := hLn.out; rw [e, List.length_nil] at this; omega, hG.out, fun c hc => List.all_eq_true.1 hr c hc⟩
        | false => exact Bool.eq_false_iff.2 fun h => absurd (List.all_eq_true.2 (isDec_iff.1 h).2.2) (by rw [hr]; decide)
      rw [e]
      exact fin

/-- What ParseDecimal hands back. -/
def pAns (p : Nat × Int) : Value := .tuple #[.int .u64 p.1, .int .i64 p.2]

/-- The library's error for a number too great lies there as some error. -/
def ErrR (w : World) : Prop := ∃ ev, w.cell? ⟨2, 0, none⟩ = some ev ∧ (ev = .nilIface ∨ ∃ te pe, ev = .iface te pe)

set_option maxRecDepth 100000 in
theorem parse_any (s : ByteArray) (hb : s.size ≤ 1000000) (w : World) (hE : ErrR w) :
    Calls Tryd.prog 25 #[.string s] w fun e w' => e = .returned (pAns (pdec s.data.toList)) ∧ Below w.heap.size w w' := by
  have hD := isDecimal_any s hb w
  cases hd : isDec s.data.toList with
  | false =>
    have hP : pdec s.data.toList = (0, 3) := pdec_bad (by rw [hd]; decide)
    rw [hP]
    rw [hd] at hD
    go_enter Tryd.func25, Tryd.ntmps25
    go_wp2_with (go_at_call 33; refine hD.mono ?_; rintro e w' ⟨rfl, rfl⟩)
    go_ret2
    exact ⟨rfl, Below.refl _ _⟩
  | true =>
    rw [hd] at hD
    by_cases hn : num s.data.toList ≤ 18446744073709551615
    · rw [pdec_ok hd hn]
      have hC := Tryd.strconv_ParseUint_10_at64_ok s (by omega) (num s.data.toList) (by rw [parseB_eq hd, fits64_ok hn]) w
      generalize num s.data.toList = u at hC
      go_enter Tryd.func25, Tryd.ntmps25
      go_wp2_with (first
        | (go_at_call 33; refine hD.mono ?_; rintro e w' ⟨rfl, rfl⟩)
        | (go_at_call 34; refine hC.mono ?_; rintro e w' ⟨rfl, hw⟩))
      go_ret2
      refine ⟨rfl, ?_⟩
      rcases hw with rfl | rfl
      · exact Below.refl _ _
      · exact Lib.bytesWorld_below _ _ _
    · rw [pdec_great hd hn]
      obtain ⟨ev, hv, hev⟩ := hE
      have hC := Tryd.strconv_ParseUint_10_at64_range s (by omega) (by rw [parseB_eq hd, fits64_not hn]) ev w hv hev
      clear hn
      go_enter Tryd.func25, Tryd.ntmps25
      go_wp2_with (first
        | (go_at_call 33; refine hD.mono ?_; rintro e w' ⟨rfl, rfl⟩)
        | (go_at_call 34; refine hC.mono ?_; rintro e w' ⟨N, rfl, _, _, hw⟩))
      go_ret2
      exact ⟨rfl, hw⟩
end Go.Proofs.YtblfmbkkeieiaaaDoor
