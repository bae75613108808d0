/- Mul of the reference of layer 2: the bits of the product, in memory of its own; nothing that lay is changed. Conditions: bit vectors of at most 1000 bits. -/
import Derived.Test.YtcjibadnhhnpmaaBFrom
import Derived.Test.YtcjibadnhhnpmaaBMul
namespace Go.Proofs.Ytcjibadnhhnpmaa
open Go.RowKit BitMath

theorem quiet_bit {P : Program} {f : FuncId} {args : Array Value} {w : World} {n : Nat} {v : Value}
    (h : Calls P f args (w.drewN n) fun e w' => e = .returned v ∧ w.drewN n = w') : Calls P f args (w.drewN n) fun e w'' => e = .returned v ∧ ∃ m, w'' = w.drewN m :=
  h.mono fun _ _ ⟨he, hm⟩ => ⟨he, n, hm.symm⟩

/-- What the words hold in the midst of the addition of a, shifted by i: with the carry they are worth the former sum and the first k bits of a. -/
def Adding (m i k : Nat) (cv V : Int) (a os : List Int) : Prop :=
  os.length = m ∧ Bits os ∧ (cv = 0 ∨ cv = 1) ∧ val os + 2 ^ (i + k) * cv = V + 2 ^ i * val (a.take k)

theorem Adding.step {m i k : Nat} {cv V o x : Int} {a os : List Int} (h : Adding m i k cv V a os) (ho : os[i + k]? = some o) (hx : a[k]?.getD 0 = x) (hx01 : x = 0 ∨ x = 1) :
    Adding m i (k + 1) ((o + x + cv) / 2) V a (os.set (i + k) ((o + x + cv) % 2)) := by
  obtain ⟨h1, h2, h3, h4⟩ := h
  have ho01 := h2 o (List.mem_of_getElem? ho)
  refine ⟨by simp [h1], h2.set _ (by omega), by omega, ?_⟩
  rw [val_set os _ _ o ho, val_take_succ, hx, show i + (k + 1) = i + k + 1 from rfl, p2s, Int.mul_add (2 ^ i), ← Int.mul_assoc, ← Int.pow_add, ← Int.add_assoc V, ← h4]
  have e : o + x + cv = (o + x + cv) % 2 + 2 * ((o + x + cv) / 2) := by omega
  generalize (o + x + cv) % 2 = d at *
  generalize (o + x + cv) / 2 = q at *
  generalize (2 : Int) ^ (i + k) = p
  rw [Int.mul_assoc, Int.mul_comm 2, Int.mul_assoc, show q * 2 = o + x + cv - d from by omega, Int.mul_sub, Int.mul_sub, Int.mul_add, Int.mul_add]
  omega

theorem Adding.done {m i k : Nat} {cv V : Int} {a os : List Int} (h : Adding m i k cv V a os) (hm : i + k = m) (hk : a.length ≤ k) (hV : V + 2 ^ i * val a < 2 ^ m) : cv = 0 ∧ val os = V + 2 ^ i * val a := by
  obtain ⟨h1, h2, h3, h4⟩ := h
  rw [take_all hk, hm] at h4
  have a1 := val_nonneg h2
  have hp := p2 m
  rcases h3 with rfl | rfl
  · exact ⟨rfl, by omega⟩
  · omega

theorem mul_fit {a b : List Int} (ha : Bits a) (hb : Bits b) (i : Nat) (hi : i < b.length) : val a * val (b.take i) + 2 ^ i * val a < 2 ^ (a.length + b.length) := by
  have hL : (b.take i).length = i := by rw [List.length_take]; omega
  have h2 := val_lt (hb.take i)
  rw [hL] at h2
  have h1 := val_lt ha
  have h0 := val_nonneg ha
  have e1 : val a * val (b.take i) + 2 ^ i * val a = val a * (val (b.take i) + 2 ^ i) := by rw [Int.mul_add, Int.mul_comm (2 ^ i)]
  have e2 : val a * (val (b.take i) + 2 ^ i) ≤ val a * 2 ^ b.length := Int.mul_le_mul_of_nonneg_left (by have := p2le (show i + 1 ≤ b.length by omega); rw [p2s] at this; omega) h0
  have e3 : val a * 2 ^ b.length < 2 ^ a.length * 2 ^ b.length := Int.mul_lt_mul_of_pos_right h1 (p2 b.length)
  rw [Int.pow_add]
  omega

set_option maxRecDepth 100000 in
set_option maxHeartbeats 4000000 in
theorem rMul_any (A A' : Option Addr) (c c' : Nat) (a b : List Int) (ha : Bits a) (hb : Bits b) (la : a.length ≤ 1000) (lb : b.length ≤ 1000) (w : World) (hra : Rd w.heap.size w A a) (hrb : Rd w.heap.size w A' b) :
    Calls Try.prog 27 #[.slice A a.length c, .slice A' b.length c'] w fun e w' => Row w e w' (digs (val a * val b) (a.length + b.length)) := by
  obtain ⟨i0, hi, hz0, hz1, hz2⟩ := info_parts info_u64
  have hb8 : i0.bytes * (a.length + b.length) ≤ 281474976710656 := by rw [hz2]; omega
  have hB8 := Lib.hid hb8
  clear hb8
  go_enter Try.func27, Try.ntmps27
  go_wp2_with (at_make; refine wpList_make_full _ rfl _ _ 24 rfl w.heap.size 22 i0 (.int .u64 0) 1 Try.underlying24 hi hz0 hz1 .i64 .i64 _ _ (a.length + b.length) rfl rfl (by omega) (by omega) hB8.out (by simp only [maxLen]; omega) (Nat.le_refl _) ?_; intro w1 hown1 hgrow1)
  have hb1 : Below w.heap.size w w1 := (Below.refl _ w).grown hgrow1 (Nat.le_refl _) (fun k e => by cases e)
  simp only [Value.cells, toList_madeCells_one, Nat.mul_one] at hown1
  have hown1' : w1.ownsRow w.heap.size 22 1 (.slice (some ⟨w.heap.size, 0, none⟩) (a.length + b.length) (a.length + b.length)) (a.length + b.length) ((List.replicate (a.length + b.length) (0 : Int)).map (Value.int .u64)) := by simpa using hown1
  clear hown1
  go_loopw [6] (fun i wr => ∃ (j : Nat) (os : List Int), j ≤ b.length ∧ i = .int .i64 j ∧ Hid (os.length = a.length + b.length ∧ Bits os ∧ val os = val a * val (b.take j)) ∧ wr.ownsRow w.heap.size 22 1 (.slice (some ⟨w.heap.size, 0, none⟩) (a.length + b.length) (a.length + b.length)) (a.length + b.length) (os.map (Value.int .u64)) ∧ Below w.heap.size w wr) (fun i _ => b.length - (intOf i).toNat)
  case atStart => exact ⟨0, _, Nat.zero_le _, rfl, Lib.hid ⟨by simp, Bits.replicate _, by rw [val_replicate]; simp [val]⟩, hown1', hb1⟩
  case round =>
    obtain ⟨j, os, hj, rfl, hO, hrow, hB⟩ := hrel
    by_cases hlt : j < b.length
    · obtain ⟨bj, oj, y, hA', _, hyj, hcy⟩ := (hrb.below hB).at_ hlt
      subst hA'
      have hy01 : y = 0 ∨ y = 1 := hb y (List.mem_of_getElem? hyj)
      have hsy := val_take_succ b j
      rw [hyj] at hsy
      change val (b.take (j + 1)) = val (b.take j) + 2 ^ j * y at hsy
      have hSY := Lib.hid hsy
      clear hsy hyj
      have hj' : (j : Int) < b.length := by omega
      rcases hy01 with rfl | rfl
      · go_wp2
        go_roundw
        case rel => exact ⟨j + 1, os, by omega, by simp, Lib.hid ⟨hO.out.1, hO.out.2.1, by rw [hO.out.2.2, hSY.out]; simp⟩, hrow, hB⟩
        case measure => simp [intOf]; omega
      · go_wp2
        go_loopw [7, 8] (fun q i wr => ∃ (k : Nat) (cv : Int) (ps : List Int), j + k ≤ a.length + b.length ∧ i = .int .i64 k ∧ q = .int .u64 cv ∧ Hid (Adding (a.length + b.length) j k cv (val a * val (b.take j)) a ps) ∧ wr.ownsRow w.heap.size 22 1 (.slice (some ⟨w.heap.size, 0, none⟩) (a.length + b.length) (a.length + b.length)) (a.length + b.length) (ps.map (Value.int .u64)) ∧ Below w.heap.size w wr) (fun _ i _ => a.length + b.length - (intOf i).toNat)
        case atStart => exact ⟨0, 0, os, by omega, rfl, rfl, Lib.hid ⟨hO.out.1, hO.out.2.1, .inl rfl, by rw [hO.out.2.2]; simp [val]⟩, hrow, hB⟩
        case round =>
          obtain ⟨k, cv, ps, hk, rfl, rfl, hAd, hrow2, hB2⟩ := hrel
          by_cases hltk : j + k < a.length + b.length
          · have hok : ps[j + k]? = some (ps[j + k]'(by rw [hAd.out.1]; exact hltk)) := List.getElem?_eq_getElem _
            generalize ps[j + k]'(by rw [hAd.out.1]; exact hltk) = o at hok
            have ho01 := hAd.out.2.1 o (List.mem_of_getElem? hok)
            have hcv := hAd.out.2.2.1
            have hcell := (hrow2.cellAt (j + k) (by omega)).trans (by rw [List.getElem?_map, hok]; rfl : _ = some (Value.int .u64 o))
            have hfz := hrow2.frozenAt (j + k)
            have hx01 := ha.getD k
            have hbit : ∀ n : Nat, Calls Try.prog 32 #[.slice A a.length c, .int .i64 k] (World.drewN _ n) fun e w' => e = .returned (.int .u64 (a[k]?.getD 0)) ∧ World.drewN _ n = w' := fun n => rBit_any A a c k w.heap.size _ (hra.below (below_drewN hB2 n))
            have hAS := fun x (hx : a[k]?.getD 0 = x) h01 => hAd.out.step hok hx h01
            generalize hxx : a[k]?.getD 0 = x at hbit hx01
            have hC := Lib.hid (hAS x hxx hx01)
            have hXX := Lib.hid hxx
            have hst := fun n : Nat => (World.ownsRow.stored (w := World.drewN _ n) hrow2 (j + k) (.int .u64 ((o + x + cv) % 2))).1
            simp only [← List.map_set] at hst
            have hST := Lib.hid hst
            clear hAS hok hxx hst
            have hjk : (j : Int) + k < a.length + b.length := by omega
            go_wp2
            go_quiet (exact quiet_bit (hbit _))
            go_wp2
            go_roundw
            case rel => exact ⟨k + 1, _, _, by omega, by simp, rfl, hC, hST.out _, (below_drewN hB2 _).setCell (p := ⟨w.heap.size, j + k, none⟩) (Nat.le_refl _) _⟩
            case measure => simp [intOf]; omega
          · have hmm : j + k = a.length + b.length := by omega
            have hfit := mul_fit ha hb j hlt
            obtain ⟨hcv, hval⟩ := hAd.out.done hmm (by omega) hfit
            have hV := Lib.hid hval
            clear hval hfit
            have hjk : (a.length : Int) + b.length ≤ (j : Int) + k := by omega
            go_wp2
            go_roundw
            case rel => exact ⟨j + 1, ps, by omega, by simp, Lib.hid ⟨hAd.out.1, hAd.out.2.1, by rw [hV.out, hSY.out, Int.mul_one, Int.mul_add, Int.mul_comm (2 ^ j)]⟩, hrow2, hB2⟩
            case measure => simp [intOf]; omega
    · obtain rfl : j = b.length := by omega
      go_wp2
      go_ret
      have h1 := hO.out
      rw [take_all (Nat.le_refl _)] at h1
      have hv0 := val_nonneg h1.2.1
      have e : os = digs (val a * val b) (a.length + b.length) := eq_digs h1.2.1 h1.1 (by rw [← h1.2.2, Int.emod_eq_of_lt hv0 (by rw [h1.2.2]; exact prod_lt ha hb)])
      rw [e] at hrow
      refine ⟨some ⟨w.heap.size, 0, none⟩, a.length + b.length, by rw [digs_length]; rfl, ?_, hB⟩
      exact Rd.of_own (base := w.heap.size) (n := a.length + b.length) (c := a.length + b.length) hrow

end Go.Proofs.Ytcjibadnhhnpmaa
