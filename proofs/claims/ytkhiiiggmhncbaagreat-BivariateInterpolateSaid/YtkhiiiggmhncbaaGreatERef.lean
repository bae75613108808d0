/- Value, Row, Eval and Unlike of the reference of layer 10; nothing that lay is changed. Conditions: a supported prime, at most 100 rows over its field, elements. -/
import Derived.Test.YtkhiiiggmhncbaaGreatESym
import Derived.Test.YtkhiiiggmhncbaaGreatERws
import Derived.Test.YtkhiiiggmhncbaaGreatMB
import Derived.Test.YtkhiiiggmhncbaaGreatMA
namespace Go.Proofs.YtkhiiiggmhncbaaGreat
set_option maxRecDepth 100000
open Go.RowKit PolyMath FieldMath MatMath

set_option maxHeartbeats 1000000 in
theorem unlike10_any (A : Option Addr) (c : Nat) (xs : List Int) (w : World) (h : Sl w A c xs) (hl : xs.length ≤ 1000) :
    Calls Tryz.prog 21 #[.slice A xs.length c] w fun e w' => e = .returned (.bool (decide xs.Nodup)) ∧ ∃ m, w' = w.drewN m := by
  go_enter Tryz.func21, Tryz.ntmps21
  go_wp2
  go_loopw [3] (fun i wr => ∃ k m : Nat, k ≤ xs.length ∧ i = .int .i64 k ∧ wr = w.drewN m ∧ Hid (xs.take k).Nodup) (fun i _ => xs.length - (intOf i).toNat)
  case atStart => exact ⟨0, 0, Nat.zero_le _, rfl, rfl, Lib.hid (by simp)⟩
  case round =>
    obtain ⟨k, m, hk, rfl, rfl, hE⟩ := hrel
    by_cases hlt : k < xs.length
    · obtain ⟨b, off, x, hA, _, hx, hc⟩ := h.at_ hlt
      have hX := Lib.hid hx
      have hi1 : (k : Int) < xs.length := by omega
      clear hx
      go_wp2
      go_loopw [4] (fun i wr => ∃ j n : Nat, j ≤ k ∧ i = .int .i64 j ∧ wr = w.drewN n ∧ Hid (x ∉ xs.take j)) (fun i _ => k - (intOf i).toNat)
      case atStart => exact ⟨0, m, Nat.zero_le _, rfl, rfl, Lib.hid (by simp)⟩
      case round =>
        obtain ⟨j, n, hj, rfl, rfl, hF⟩ := hrel
        by_cases hlt2 : j < k
        · obtain ⟨b', off', y, hA', _, hy, hc'⟩ := h.at_ (show j < xs.length by omega)
          rw [hA] at hA'
          injection hA' with hA'
          injection hA' with hA1 hA2
          subst hA1 hA2 hA
          have hY := Lib.hid hy
          have hi2 : (j : Int) < k := by omega
          have hi3 : (j : Int) < xs.length := by omega
          clear hy
          by_cases hxy : x = y
          · subst hxy
            have hN := Lib.hid (show ¬ xs.Nodup from fun hn => by
              obtain ⟨h1, e1⟩ := List.getElem?_eq_some_iff.1 hX.out
              obtain ⟨h2, e2⟩ := List.getElem?_eq_some_iff.1 hY.out
              have := nodup_inj hn h1 h2 (e1.trans e2.symm)
              omega)
            go_wp2
            go_quiet (fail)
            go_wp2
            go_ret
            exact ⟨by rw [decide_eq_false hN.out]; rfl, _, by first | rfl | (simp; rfl)⟩
          · have hN := Lib.hid (show x ∉ xs.take (j + 1) from fun hm => by
              rw [List.take_add_one, hY.out] at hm
              rcases List.mem_append.1 hm with h1 | h1
              · exact hF.out h1
              · exact hxy (by simpa using h1))
            go_wp2
            go_quiet (fail)
            go_wp2
            go_roundw
            case rel => exact ⟨j + 1, _, by omega, by simp, by first | rfl | (simp; rfl), hN⟩
            case measure => simp [intOf]; omega
        · obtain rfl : j = k := by omega
          have hN := Lib.hid ((nodup_take hX.out).2 ⟨hE.out, hF.out⟩)
          go_wp2
          go_roundw
          case rel => exact ⟨j + 1, n, by omega, by simp, rfl, hN⟩
          case measure => simp [intOf]; omega
    · obtain rfl : k = xs.length := by omega
      go_wp2
      go_ret
      exact ⟨by rw [decide_eq_true (by have := hE.out; rwa [List.take_length] at this)]; rfl, m, rfl⟩

theorem hor_k (p x : Int) (xs : List Int) {k : Nat} (hk : k < xs.length) : fadd p (fmul p (evf x k (fun i => co xs (i + (xs.length - k))) % p) x) (co xs (xs.length - 1 - k)) = evf x (k + 1) (fun i => co xs (i + (xs.length - (k + 1)))) % p := by
  rw [show xs.length - k = (xs.length - 1 - k) + 1 from by omega, show xs.length - (k + 1) = xs.length - 1 - k from by omega]
  exact horner p x (co xs) k (xs.length - 1 - k)
theorem rVal_any (p x : Int) (hp : OkP p) (hx : 0 ≤ x ∧ x < p) (A : Option Addr) (c : Nat) (xs : List Int) (hxs : El p xs) (hl : xs.length ≤ 1000) (w : World) (h : Sl w A c xs) :
    Calls Tryz.prog 52 #[.int .u64 p, .slice A xs.length c, .int .u64 x] w fun e w' => e = .returned (.int .u64 (pev p xs x)) ∧ ∃ m, w' = w.drewN m := by
  have hbd := hp.bd
  go_enter Tryz.func52, Tryz.ntmps52
  go_wp2
  go_loopw [7, 8] (fun v i wr => ∃ (k m : Nat) (O : Int), k ≤ xs.length ∧ i = .int .i64 ((xs.length : Int) - 1 - k) ∧ v = .int .u64 O ∧ 0 ≤ O ∧ O < p ∧ Hid (evf x k (fun i => co xs (i + (xs.length - k))) % p = O) ∧ wr = w.drewN m) (fun _ i _ => (intOf i + 1).toNat)
  case atStart => exact ⟨0, 0, 0, Nat.zero_le _, by simp, rfl, by omega, by omega, Lib.hid (Int.zero_emod p), rfl⟩
  case round =>
    obtain ⟨k, m, O, hk, rfl, rfl, hO0, hO, hE, rfl⟩ := hrel
    by_cases hlt : k < xs.length
    · obtain ⟨j, hj⟩ : ∃ j : Nat, j = xs.length - 1 - k := ⟨_, rfl⟩
      obtain ⟨b, off, y, hA, _, hy, hcy⟩ := h.at_ (k := j) (by omega)
      subst hA
      have hyb := hxs y (List.mem_of_getElem? hy)
      have hn := hor_k p x xs hlt
      rw [hE.out, ← hj, co_at hy] at hn
      have hN := Lib.hid hn.symm
      have hm := fmul_bd p O x (by omega)
      have hm3 := fadd_bd p (fmul p O x) y (by omega)
      rw [show ((xs.length : Int) - 1 - k) = (j : Int) from by omega]
      have hjn : (j : Int) < xs.length := by omega
      have hK1 := Lib.hid (show ((xs.length : Int) - 1 - ((k + 1 : Nat) : Int)) = (j : Int) - 1 by omega)
      clear hn hy hj hE
      go_wp2
      go_quiet (first | (go_at_call 43; exact quiet_add_left (rMul_any _ _ _ hp hO0 hO hx.1 hx.2 _)) | (go_at_call 73; exact quiet_add_left (rAdd_any _ _ _ hp hm.1 hm.2 hyb.1 hyb.2 _)))
      go_wp2
      go_roundw
      case rel => exact ⟨k + 1, _, _, by omega, by rw [hK1.out], rfl, hm3.1, hm3.2, hN, by first | rfl | (simp; rfl)⟩
      case measure => simp [intOf]
    · obtain rfl : k = xs.length := by omega
      have hF : Hid (pev p xs x = O) := Lib.hid (by rw [← hE.out, Nat.sub_self]; rfl)
      go_wp2
      go_ret
      exact ⟨by rw [hF.out]; rfl, m, rfl⟩
end Go.Proofs.YtkhiiiggmhncbaaGreat
