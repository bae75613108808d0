/- New of the reference of layer 10; SameList of any two lists; nothing that lay is changed. Conditions: at most 20 words in the first row, at most 1000 in the rest. -/
import Derived.Test.YtkhiiiggmhncbaaENew
import Derived.Test.YtkhiiiggmhncbaaME
namespace Go.Proofs.Ytkhiiiggmhncbaa
set_option maxRecDepth 100000
open Go.RowKit PolyMath FieldMath MatMath

theorem newSize2 (t : Nat) (h : t ≤ 19) : IntKind.i64.wrap ((t : Int) * ((t : Int) + 1)) = (t : Int) * ((t : Int) + 1) ∧ ((t : Int) * ((t : Int) + 1)).tdiv 2 = (((t + 1) * (t + 1 - 1) / 2 : Nat) : Int) ∧ (t + 1) * (t + 1 - 1) / 2 ≤ 200 := by
  have h3 : ∀ k : Nat, k ≤ 19 → IntKind.i64.wrap ((k : Int) * ((k : Int) + 1)) = (k : Int) * ((k : Int) + 1) ∧ ((k : Int) * ((k : Int) + 1)).tdiv 2 = (((k + 1) * (k + 1 - 1) / 2 : Nat) : Int) ∧ (k + 1) * (k + 1 - 1) / 2 ≤ 200 := by decide
  exact h3 t h

theorem rNew_none (A B : Option Addr) (ca cb m : Nat) (w : World) : Calls Try.prog 14 #[.slice A 0 ca, .slice B m cb] w fun e w' => e = .returned (.tuple #[.slice none 0 0, .int .i64 1]) ∧ Below w.heap.size w w' := by
  go_enter Try.func14, Try.ntmps14
  go_wp2
  go_ret2
  exact ⟨rfl, Below.refl _ _⟩
set_option maxHeartbeats 1000000 in
theorem rNew_bad (A B : Option Addr) (ca cb t m : Nat) (hn : t ≤ 19) (hm : m ≠ (t + 1) * (t + 1 - 1) / 2) (w : World) : Calls Try.prog 14 #[.slice A (t + 1) ca, .slice B m cb] w fun e w' => e = .returned (.tuple #[.slice none 0 0, .int .i64 1]) ∧ Below w.heap.size w w' := by
  obtain ⟨s1, s2, s3⟩ := newSize2 t hn
  have hne : ((m : Int) != (((t + 1) * (t + 1 - 1) / 2 : Nat) : Int)) = true := bne_iff_ne.2 (by omega)
  have ht0 : ¬ (t : Int) < 0 := by omega
  generalize (t + 1) * (t + 1 - 1) / 2 = T at s2 s3 hne hm
  go_enter Try.func14, Try.ntmps14
  go_wp2
  go_ret2
  exact ⟨rfl, Below.refl _ _⟩

set_option maxHeartbeats 8000000 in
theorem rNew_ok (A B : Option Addr) (ca cb t m : Nat) (xs ys : List Int) (hx : xs.length = t + 1) (hy : ys.length = m) (hn : t ≤ 19) (hm : m = (t + 1) * (t + 1 - 1) / 2) (w : World) (sx : Sl w A ca xs) (sy : Sl w B cb ys) :
    Calls Try.prog 14 #[.slice A (t + 1) ca, .slice B m cb] w fun e w' => MatT w e w' (t + 1) (newL xs ys) := by
  obtain ⟨i0, hi0, hz0, hz1, hz2⟩ := info_parts info_u64
  obtain ⟨j0, hj0, hy0, hy1, hy2⟩ := info_parts info_sl
  obtain ⟨s1, s2, s3⟩ := newSize2 t hn
  have hT : Hid (tri (t + 1) (t + 1) = t + 1 + m) := Lib.hid (by rw [tri_all (t + 1) (by omega), hm])
  have hm2 : m ≤ 200 := by omega
  have ht0 : ¬ (t : Int) < 0 := by omega
  rw [← hm] at s2
  have hne : ((m : Int) != (m : Int)) = false := by simp
  have hb24 : Hid (j0.bytes * (t + 1) ≤ 281474976710656) := Lib.hid (by rw [hy2]; omega)
  have hb8 : Hid (i0.bytes * (t + 1) ≤ 281474976710656) := Lib.hid (by rw [hz2]; omega)
  have HX := Lib.hid hx
  have HY := Lib.hid hy
  have hNL : Hid (newL xs ys = mkL (t + 1) (valU (t + 1) (xs ++ ys)) fun _ _ => true) := Lib.hid (by unfold newL; rw [hx])
  have hV0 : Hid (∀ b, b < t + 1 → valU (t + 1) (xs ++ ys) 0 b = co xs b) := Lib.hid (fun b hb => by rw [← hx]; exact valU_first xs ys (by omega))
  have hV1 : Hid (∀ a b, 0 < a → valU (t + 1) (xs ++ ys) a b = co ys (tri (t + 1) a - (t + 1) + (b - a))) := Lib.hid (fun a b ha => by rw [← hx]; exact valU_rest xs ys b ha)
  generalize valU (t + 1) (xs ++ ys) = V at hNL hV0 hV1
  have hZr : Hid (rws (fun _ => List.replicate (t + 1) 0) (t + 1) (t + 1) = mkL (t + 1) V (refD 0 0 0)) := Lib.hid (by rw [rws_all, refD_start, mkL_zero])
  clear hm hx hy s3
  go_enter Try.func14, Try.ntmps14
  go_wp2_with (at_make; refine wpList_make_full _ rfl _ _ 24 rfl w.heap.size 22 j0 (.slice none 0 0) 1 Try.underlying24 hj0 hy0 hy1 .i64 .i64 _ _ (t + 1) rfl rfl (by simp) (by simp) hb24.out (by simp only [maxLen]; omega) (Nat.le_refl _) ?_; intro w3 hown3 hgrow3; simp only [Value.cells, toList_madeCells_one, Nat.mul_one] at hown3; have hM3 := MP.begin (fun _ => List.replicate (t + 1) 0) hown3; have hb3 : Below w.heap.size w w3 := (Below.refl _ w).grown hgrow3 (Nat.le_refl _) (fun k e => by cases e); clear hown3 hgrow3)
  clear s1 s2 hne
  go_loopw [8] (fun i wr => ∃ (k : Nat) (vs : List Value), k ≤ t + 1 ∧ i = .int .i64 k ∧ MP w.heap.size wr (.slice (some ⟨w.heap.size, 0, none⟩) (t + 1) (t + 1)) (t + 1) k vs (rws (fun _ => List.replicate (t + 1) 0) (t + 1) k) ∧ Below w.heap.size w wr) (fun i _ => t + 1 - (intOf i).toNat)
  case atStart => exact ⟨0, _, Nat.zero_le _, rfl, hM3, hb3⟩
  case round =>
    obtain ⟨k, vs, hk, rfl, hM, hBr⟩ := hrel
    by_cases hlt : k ≤ t
    · obtain ⟨u, hu⟩ : ∃ u, vs[k]? = some u := ⟨_, List.getElem?_eq_getElem (by rw [hM.vlen]; omega)⟩
      have hgl := World.ownsRow.lt hM.head _ rfl
      have hkn : (k : Int) ≤ t := by omega
      have hkn2 : (k : Int) < (t : Int) + 1 := by omega
      have hMH := Lib.hid hM
      have hsz : w.heap.size ≤ wr.heap.size := hBr.size
      clear hM
      rename World => W0
      go_wp2_with (at_make; refine wpList_make_full _ rfl _ _ 22 rfl w.heap.size 31 i0 (.int .u64 0) 1 Try.underlying22 hi0 hz0 hz1 .i64 .i64 _ _ (t + 1) rfl rfl (by simp) (by simp) hb8.out (by simp only [maxLen]; omega) (by omega) ?_; intro w5 hown5 hgrow5; simp only [Value.cells, toList_madeCells_one, Nat.mul_one] at hown5; have hO5 : w5.ownsRow w.heap.size 31 1 (.slice (some ⟨W0.heap.size, 0, none⟩) (t + 1) (t + 1)) (List.replicate (t + 1) (0 : Int)).length ((List.replicate (t + 1) (0 : Int)).map (Value.int .u64)) := (by simpa using hown5); have hb5 : Below W0.heap.size W0 w5 := (Below.refl _ W0).grown hgrow5 (Nat.le_refl _) (fun k e => by cases e); have hM5 := hMH.out.next hb5; have hfz5 := World.ownsRow.frozenAt hM5.head k; have hcell5 := hM5.cell (by omega) hu; have hput := Lib.hid (hMH.out.put (by omega) hb5 hO5 (fun b e => Nat.le_of_eq (by simpa [Value.ownBlock] using e))); have hbp := Lib.hid ((hBr.trans (hb5.mono hsz)).setCell (p := ⟨w.heap.size, k, none⟩) (Nat.le_refl _) (.slice (some ⟨W0.heap.size, 0, none⟩) (t + 1) (t + 1))); clear hM5 hown5)
      go_roundw
      case rel => exact ⟨k + 1, _, by omega, by simp, hput.out, hbp.out⟩
      case measure => simp [intOf]; omega
    · obtain rfl : k = t + 1 := by omega
      rw [hZr.out] at hM
      have hgl := World.ownsRow.lt hM.head _ rfl
      have hM5 := hM
      have hB5 := hBr
      have hkn : ¬ (t : Int) + 1 ≤ t := by omega
      clear hM hBr hb3 hM3 hZr
      go_wp2
      go_loopw [9, 10] (fun q i W => ∃ (k kk : Nat), k ≤ t + 1 ∧ i = .int .i64 k ∧ q = .int .i64 kk ∧ Hid ((k = 0 → kk = 0) ∧ (0 < k → kk + (t + 1) = tri (t + 1) k)) ∧ MP w.heap.size W (.slice (some ⟨w.heap.size, 0, none⟩) (t + 1) (t + 1)) (t + 1) (t + 1) vs (mkL (t + 1) V (refD k k 0)) ∧ Below w.heap.size w W) (fun _ i _ => t + 1 - (intOf i).toNat)
      case atStart => exact ⟨0, 0, Nat.zero_le _, rfl, rfl, Lib.hid ⟨fun _ => rfl, fun h => absurd h (by omega)⟩, hM5, hB5⟩
      case round =>
        clear hM5 hB5
        obtain ⟨k, kk, hk, rfl, rfl, hK, hM, hB⟩ := hrel
        by_cases hlt : k ≤ t
        · obtain ⟨bi, ci, bj, cj, x, y, hvi, hvj, hci, hcj, hxi, hxj, hfi, hfj, hne, heq, hgi, hgj, hbi, hbj, hset⟩ := hM.pair (Nat.zero_le k) (by omega : k < t + 1)
          obtain ⟨b1, o1, z, hA1, hbl1, hz, hcz⟩ := sx.at_ (k := k) (by rw [HX.out]; omega)
          have hcz' := (hB.cell (p := ⟨b1, o1 + k, none⟩) hbl1).trans hcz
          have hMn : MP w.heap.size ((wr.setCell ⟨bi, k, none⟩ (.int .u64 z)).setCell ⟨bj, 0, none⟩ (.int .u64 z)).drew (.slice (some ⟨w.heap.size, 0, none⟩) (t + 1) (t + 1)) (t + 1) (t + 1) vs (mkL (t + 1) V (refD (k + 1) k k)) := by
            rw [← refD_first]
            exact (hset z (by rw [hV0.out k (by omega), co_at hz])).next (Below.refl _ _).drew
          have hBn : Below w.heap.size w ((wr.setCell ⟨bi, k, none⟩ (.int .u64 z)).setCell ⟨bj, 0, none⟩ (.int .u64 z)).drew := ((hB.setCell (p := ⟨bi, k, none⟩) hbi _).setCell (p := ⟨bj, 0, none⟩) hbj _).drew
          have hn1 : b1 ≠ bi := by omega
          have hn2 : b1 ≠ bj := by omega
          have hn3 : b1 ≠ w.heap.size := by omega
          have hki : (k : Int) ≤ t := by omega
          have hki2 : (k : Int) < (t : Int) + 1 := by omega
          have ht1 : (0 : Int) < (t : Int) + 1 := by omega
          have SX := Lib.hid sx
          clear hset hM hB hz hcz sx
          by_cases e : 0 = k
          · obtain ⟨e1, e2⟩ := heq e
            have hkk := hK.out.1 e.symm
            have hME : MP w.heap.size ((wr.setCell ⟨bi, k, none⟩ (.int .u64 z)).setCell ⟨bj, 0, none⟩ (.int .u64 z)).drew (.slice (some ⟨w.heap.size, 0, none⟩) (t + 1) (t + 1)) (t + 1) (t + 1) vs (mkL (t + 1) V (refD (k + 1) (k + 1) 0)) := by rw [← refD_end (.inl e.symm)]; exact hMn
            have HMn := Lib.hid hME
            have HBn := Lib.hid hBn
            clear hMn hBn hME hne heq hK
            subst e e1 e2 hkk
            subst hA1
            rw [Nat.add_zero] at hcz'
            rw [show ((0 : Nat) : Int) = 0 from rfl]
            go_wp2
            go_region
            obtain ⟨W2, hW2⟩ : ∃ W2, W2 = ((wr.setCell ⟨bi, 0, none⟩ (.int .u64 z)).setCell ⟨bi, 0, none⟩ (.int .u64 z)).drew := ⟨_, rfl⟩
            have hM2 : MP w.heap.size W2 (.slice (some ⟨w.heap.size, 0, none⟩) (t + 1) (t + 1)) (t + 1) (t + 1) vs (mkL (t + 1) V (refD (0 + 1) (0 + 1) 0)) := by rw [hW2]; exact HMn.out
            have hB2 : Below w.heap.size w W2 := by rw [hW2]; exact HBn.out
            rw [← hW2]
            clear hW2 HMn HBn
            go_wp2
            go_loopw [9, 11] (fun q j W => q = .int .i64 0 ∧ j = .int .i64 0 ∧ W = W2) (fun _ _ _ => 0)
            case atStart => exact ⟨rfl, rfl, rfl⟩
            case round =>
              obtain ⟨rfl, rfl, rfl⟩ := hrel
              go_wp2
              go_roundw
              case rel => exact ⟨1, 0, by omega, rfl, rfl, Lib.hid ⟨fun _ => rfl, fun _ => by show 0 + (t + 1) = 0 + (t + 1 - 0); rw [Nat.sub_zero]⟩, hM2, hB2⟩
              case measure => simp [intOf]
          · have hnb := hne e
            have h0k : 0 < k := by omega
            have h0ki : (0 : Int) < k := by omega
            have hKK := Lib.hid (hK.out.2 h0k)
            have HMn := Lib.hid hMn
            have HBn := Lib.hid hBn
            clear hMn hBn hne heq hK
            subst hA1
            go_wp2
            go_region
            obtain ⟨W2, hW2⟩ : ∃ W2, W2 = ((wr.setCell ⟨bi, k, none⟩ (.int .u64 z)).setCell ⟨bj, 0, none⟩ (.int .u64 z)).drew := ⟨_, rfl⟩
            have hM2 : MP w.heap.size W2 (.slice (some ⟨w.heap.size, 0, none⟩) (t + 1) (t + 1)) (t + 1) (t + 1) vs (mkL (t + 1) V (refD (k + 1) k k)) := by rw [hW2]; exact HMn.out
            have hB2 : Below w.heap.size w W2 := by rw [hW2]; exact HBn.out
            rw [← hW2]
            clear hW2 HMn HBn hci hcj hxi hxj hfi hfj hvi hvj hcz'
            go_wp2
            go_loopw [9, 11] (fun q j W => ∃ (J kk : Nat), k ≤ J ∧ J ≤ t + 1 ∧ j = .int .i64 J ∧ q = .int .i64 kk ∧ Hid (kk + (t + 1) = tri (t + 1) k + (J - k)) ∧ MP w.heap.size W (.slice (some ⟨w.heap.size, 0, none⟩) (t + 1) (t + 1)) (t + 1) (t + 1) vs (mkL (t + 1) V (refD (k + 1) k J)) ∧ Below w.heap.size w W) (fun _ j _ => t + 1 - (intOf j).toNat)
            case atStart => exact ⟨k, kk, Nat.le_refl _, hk, rfl, rfl, by rw [Nat.sub_self]; exact hKK, hM2, hB2⟩
            case round =>
              clear hM2 hB2
              obtain ⟨J, kk, hkJ, hJ, rfl, rfl, hK, hM, hB⟩ := hrel
              by_cases hltj : J ≤ t
              · obtain ⟨bi, ci, bj, cj, x, y, hvi, hvj, hci, hcj, hxi, hxj, hfi, hfj, hne, heq, hgi, hgj, hbi, hbj, hset⟩ := hM.pair hkJ (by omega : J < t + 1)
                have htl := tri_lt (n := t + 1) hkJ (by omega)
                rw [hT.out] at htl
                have hkm : kk < m := by have := hK.out; omega
                obtain ⟨b2, o2, v, hA2, hbl2, hv, hcv⟩ := sy.at_ (k := kk) (by rw [HY.out]; exact hkm)
                have hcv' := (hB.cell (p := ⟨b2, o2 + kk, none⟩) hbl2).trans hcv
                have hMn : MP w.heap.size ((wr.setCell ⟨bi, J, none⟩ (.int .u64 v)).setCell ⟨bj, k, none⟩ (.int .u64 v)).drew (.slice (some ⟨w.heap.size, 0, none⟩) (t + 1) (t + 1)) (t + 1) (t + 1) vs (mkL (t + 1) V (refD (k + 1) k (J + 1))) := by
                  rw [← refD_next h0k]
                  exact (hset v (by rw [hV1.out k J h0k, show tri (t + 1) k - (t + 1) + (J - k) = kk from by have := hK.out; have := tri_ge (n := t + 1) h0k; omega, co_at hv])).next (Below.refl _ _).drew
                have hBn : Below w.heap.size w ((wr.setCell ⟨bi, J, none⟩ (.int .u64 v)).setCell ⟨bj, k, none⟩ (.int .u64 v)).drew := ((hB.setCell (p := ⟨bi, J, none⟩) hbi _).setCell (p := ⟨bj, k, none⟩) hbj _).drew
                have hKn : Hid (kk + 1 + (t + 1) = tri (t + 1) k + (J + 1 - k)) := Lib.hid (by have := hK.out; omega)
                have hn4 : b2 ≠ bi := by omega
                have hn5 : b2 ≠ bj := by omega
                have hn6 : b2 ≠ w.heap.size := by omega
                have hJi : (J : Int) ≤ t := by omega
                have hJi2 : (J : Int) < (t : Int) + 1 := by omega
                have hkmi : (kk : Int) < m := by omega
                have HMn := Lib.hid hMn
                have HBn := Lib.hid hBn
                have SY := Lib.hid sy
                subst hA2
                clear hset hM hB hv hcv hMn hBn hK htl sy
                by_cases e2 : k = J
                · obtain ⟨e3, e4⟩ := heq e2
                  subst e2 e3 e4
                  clear heq hne
                  go_wp2
                  go_region
                  go_wp2
                  go_roundw
                  case rel => exact ⟨k + 1, kk + 1, by omega, by omega, by simp, by simp, hKn, HMn.out, HBn.out⟩
                  case measure => simp [intOf]; omega
                · have hnb2 := hne e2
                  clear heq hne
                  go_wp2
                  go_region
                  go_wp2
                  go_roundw
                  case rel => exact ⟨J + 1, kk + 1, by omega, by omega, by simp, by simp, hKn, HMn.out, HBn.out⟩
                  case measure => simp [intOf]; omega
              · obtain rfl : J = t + 1 := by omega
                have hME : MP w.heap.size wr (.slice (some ⟨w.heap.size, 0, none⟩) (t + 1) (t + 1)) (t + 1) (t + 1) vs (mkL (t + 1) V (refD (k + 1) (k + 1) 0)) := by rw [← refD_end (.inr rfl)]; exact hM
                have hKn : Hid ((k + 1 = 0 → kk = 0) ∧ (0 < k + 1 → kk + (t + 1) = tri (t + 1) (k + 1))) := Lib.hid ⟨fun h => absurd h (by omega), fun _ => hK.out⟩
                have hJi : ¬ (t : Int) + 1 ≤ t := by omega
                have HME := Lib.hid hME
                clear hM hME hK
                go_wp2
                go_roundw
                case rel => exact ⟨k + 1, kk, by omega, by simp, rfl, hKn, HME.out, hB⟩
                case measure => simp [intOf]; omega
        · obtain rfl : k = t + 1 := by omega
          rw [refD_all, ← hNL.out] at hM
          have hJi : ¬ (t : Int) + 1 ≤ t := by omega
          have hs9 := Lib.hid hM.sll
          clear hM
          go_wp2
          go_ret2
          exact ⟨_, _, rfl, hs9.out, hB⟩
end Go.Proofs.Ytkhiiiggmhncbaa
