/- beside and Solve of the reference of layer 6. Nothing that lay is changed. Conditions: a supported prime, words of its field, at most 100 rows and columns. -/
import Derived.Test.YtgkhngiiimnchaaRRefD
namespace Go.Proofs.Ytgkhngiiimnchaa
open Go.RowKit PolyMath FieldMath MatMath

/-- A column as rows of one word. -/
def colK (b : List Int) (k : Nat) : List (List Int) := (List.range k).map fun i => [co b i]
theorem colK_len (b : List Int) (k : Nat) : (colK b k).length = k := by unfold colK; simp
theorem colK_ro (b : List Int) {k i : Nat} (h : i < k) : ro (colK b k) i = [co b i] := ro_map _ h
theorem colK_next (b : List Int) (k : Nat) : colK b (k + 1) = colK b k ++ [[co b k]] := by unfold colK; rw [List.range_succ, List.map_append]; rfl

set_option maxRecDepth 100000 in
set_option maxHeartbeats 4000000 in
theorem beside_any (p : Int) (A B : Option Addr) (ca cb L : Nat) (a : List (List Int)) (b : List Int) (hN : a.length ≤ 100) (hL : L ≤ 100) (ha : Mat p a.length L a) (w : World) (sa : Sll w A ca a) (sb : Sll w B cb (colK b a.length)) :
    Calls Try.prog 45 #[.slice A a.length ca, .slice B a.length cb] w fun e w' => MFresh w e w' (augL a b) := by
  obtain ⟨u0, hu0, hx0, hx1, hx2⟩ := info_parts info_u64
  obtain ⟨j0, hj0, hy0, hy1, hy2⟩ := info_parts info_sl
  have hgl : (augL a b).length = a.length := augK_len a b _
  go_enter Try.func45, Try.ntmps45
  go_wp2
  go_loopw [5, 6] (fun v i wr => ∃ (k : Nat) (vs : List Value), k ≤ a.length ∧ i = .int .i64 k ∧ MP w.heap.size wr v k k vs ((augL a b).take k) ∧ Below w.heap.size w wr) (fun _ i _ => a.length - (intOf i).toNat)
  case atStart => exact ⟨0, [], Nat.zero_le _, rfl, MP.zero _ _, Below.refl _ _⟩
  case round =>
    obtain ⟨k, vs, hk, rfl, hM, hB⟩ := hrel
    have hsz : w.heap.size ≤ wr.heap.size := hB.size
    by_cases hlt : k < a.length
    · obtain ⟨ba, oa, A', c', hA', hba, hca, hsa⟩ := sa.rowAt (i := k) (L := L) hlt (ha.ro hlt).1
      obtain ⟨bb, ob, B', c8, hB', hbb, hcb, hsb⟩ := sb.rowAt (i := k) (L := 1) (by rw [colK_len]; exact hlt) (by rw [colK_ro b hlt]; rfl)
      subst hA' hB'
      rw [colK_ro b hlt] at hsb
      obtain ⟨b8, o8, y, hB8, hb8, hy8, hcy8⟩ := hsb.at_ (k := 0) (by simp)
      subst hB8
      have hyy : y = co b k := by simpa using hy8.symm
      subst hyy
      rw [Nat.add_zero] at hcy8
      have hcaw := (hB.cell (p := ⟨ba, oa + k, none⟩) hba).trans hca
      have hcbw := (hB.cell (p := ⟨bb, ob + k, none⟩) hbb).trans hcb
      have hcyw := (hB.cell (p := ⟨b8, o8, none⟩) hb8).trans hcy8
      have hbaw : ba < wr.heap.size := Nat.lt_of_lt_of_le hba hsz
      have hbbw : bb < wr.heap.size := Nat.lt_of_lt_of_le hbb hsz
      have hb8w : b8 < wr.heap.size := Nat.lt_of_lt_of_le hb8 hsz
      have hkn : (k : Int) < a.length := by omega
      have hMH := Lib.hid hM
      obtain ⟨Ao, co', ho⟩ := row_form hM.head
      subst ho
      have hTK : Hid ((augL a b).take k ++ [ro (augL a b) k] = (augL a b).take (k + 1)) := Lib.hid (by rw [List.take_add_one, ro_get (by rw [hgl]; exact hlt)]; rfl)
      have hrow : Hid (ro (augL a b) k = ro a k ++ [co b k]) := Lib.hid (by unfold augL; rw [augK_ro b _ hlt, if_pos hlt])
      have hlit := own_lit0 wr
      have hrl := Lib.hid (ha.ro hlt).1
      have hsw := hsa.next hB
      have hone := Lib.hid (one_cells (ro a k))
      have ca1 : (wr.alloc (.cells #[] 22)).cell? ⟨ba, oa + k, none⟩ = some (.slice A' L c') := (World.cell?_alloc_some _ _ _ (by rw [hcaw]; rfl)).trans hcaw
      have cb1 : (wr.alloc (.cells #[] 22)).cell? ⟨bb, ob + k, none⟩ = some (.slice (some ⟨b8, o8, none⟩) 1 c8) := (World.cell?_alloc_some _ _ _ (by rw [hcbw]; rfl)).trans hcbw
      clear hM hsb hy8 hcy8
      generalize co b k = y at *
      cases A' with
      | none =>
        obtain ⟨hr0, hc0⟩ := hsw.empty rfl
        have hL0 : L = 0 := by rw [← hrl.out, hr0]; rfl
        subst hL0 hc0
        have hR0 := Lib.hid hr0
        clear hr0 hsw hsa
        go_wp2_with fail
        go_region_held3 (fun w' => w'.cell? ⟨ba, oa + k, none⟩ = some (.slice none 0 0) ∧ w'.cell? ⟨bb, ob + k, none⟩ = some (.slice (some ⟨b8, o8, none⟩) 1 c8))
          (first | (refine ⟨?_, ?_⟩ <;> assumption) | exact ⟨ca1, cb1⟩)
          (first | (refine step_append_own _ (by rfl) _ _ _ (by rfl) w.heap.size 24 j0 (.slice none 0 0) 1 24 Try.underlying23 hj0 hy0 hy1 hy2 rfl (by decide) _ _ _ (by rfl) hhd.out ⟨w6.heap.size, 0, none⟩ 1 1 [.slice A6 (0 + 1) c6] (by rfl) (by rfl) (cell_one_new _ _ _) (by simp [Value.oneCell']) (by simp only [maxLen]; omega) (by omega) (by first | omega | (simp; done) | (simp; omega)) ?_; intro v8 w8 hown8 hgrow8; have hB8 : Below w.heap.size w w8 := (hB.trans (hb7.mono hsz)).grown hgrow8 (by first | omega | (simp; done) | (simp; omega)) (fun x e => (World.ownsRow.lt hhd.out x e).1); have c18 := (hB8.cell (p := ⟨ba, oa + k, none⟩) hba).trans hca; have c28 := (hB8.cell (p := ⟨bb, ob + k, none⟩) hbb).trans hcb) | (refine step_append_own _ (by rfl) _ _ _ (by rfl) wr.heap.size 22 u0 (.int .u64 0) 1 8 Try.underlying24 hu0 hx0 hx1 hx2 rfl (by decide) _ _ _ (by rfl) hown5H.out ⟨b8, o8, none⟩ 1 c8 [.int .u64 y] (by rfl) (by rfl) (fun j u hj => by match j, hj with | 0, hj => (simp at hj; subst hj; exact hy5) | j + 1, hj => simp at hj) (by simp [Value.oneCell']) (by simp only [maxLen]; omega) (by omega) (by first | omega | (simp; done) | (simp; omega)) ?_; intro v6 w6 hown6 hgrow6; obtain ⟨A6, c6, hv6⟩ := row_form hown6; subst hv6; have hb6 : Below wr.heap.size wr w6 := hb5.grown hgrow6 hsz5 (fun x e => (World.ownsRow.lt hown5H.out x e).1); have hsz6 := hb6.size; have c16 := (hb6.cell (p := ⟨ba, oa + k, none⟩) hbaw).trans hcaw; have c26 := (hb6.cell (p := ⟨bb, ob + k, none⟩) hbbw).trans hcbw; have hb7 := hb6.alloc hsz6 (.cells #[.slice A6 (0 + 1) c6] 24); have c17 := (hb7.cell (p := ⟨ba, oa + k, none⟩) hbaw).trans hcaw; have c27 := (hb7.cell (p := ⟨bb, ob + k, none⟩) hbbw).trans hcbw; have hhd := Lib.hid (hMH.out.next hb7).head; have hu7 := Lib.hid (hown6.alloc (.cells #[.slice A6 (0 + 1) c6] 24)); clear hown6 hgrow6) | (refine step_append_nothing _ (by rfl) _ _ _ (by rfl) 22 u0 Try.underlying24 hu0 _ _ _ (by rfl) (by rfl) rfl ?_; have hb5 : Below wr.heap.size wr ((wr.alloc (.cells #[] 22)).drew) := ((Below.refl _ wr).alloc (Nat.le_refl _) _).drew; have hsz5 := hb5.size; have c15 := (hb5.cell (p := ⟨ba, oa + k, none⟩) hbaw).trans hcaw; have c25 := (hb5.cell (p := ⟨bb, ob + k, none⟩) hbbw).trans hcbw; have hy5 := (hb5.cell (p := ⟨b8, o8, none⟩) hb8w).trans hcyw; have hown5H : Hid (((wr.alloc (.cells #[] 22)).drew).ownsRow wr.heap.size 22 1 (.slice (some ⟨wr.heap.size, 0, none⟩) 0 0) 0 ((ro a k).map (Value.int .u64))) := Lib.hid (by rw [hR0.out]; exact hlit.out)))
        all_goals
          go_wp2_with fail
          go_roundw
          case rel => exact ⟨k + 1, _, by omega, by simp, by rw [← hTK.out]; exact hMH.out.add hb7 hsz (by rw [hrow.out, List.length_append, List.map_append, hrl.out]; exact hu7.out) hown8 hgrow8, hB8⟩
          case measure => simp [intOf]; omega
      | some ad =>
        have hnw := Lib.hid (hsw.news (.cells #[] 22) L)
        rw [List.take_of_length_le (by rw [hrl.out]; exact Nat.le_refl _)] at hnw
        have hnwD : Hid (∀ j u, ((ro a k).map (Value.int .u64))[j]? = some u → ((wr.alloc (.cells #[] 22)).drew).cell? (ad.add j) = some u) := Lib.hid fun j u hu => hnw.out j u hu
        have hlitD : Hid (((wr.alloc (.cells #[] 22)).drew).ownsRow wr.heap.size 22 1 (.slice (some ⟨wr.heap.size, 0, none⟩) 0 0) 0 []) := Lib.hid hlit.out
        have hln : Hid (((ro a k).map (Value.int .u64)).length = L * 1) := Lib.hid (by rw [List.length_map, hrl.out, Nat.mul_one])
        clear hsw hsa hnw
        go_wp2_with fail
        go_region_held3 (fun w' => w'.cell? ⟨ba, oa + k, none⟩ = some (.slice (some ad) L c') ∧ w'.cell? ⟨bb, ob + k, none⟩ = some (.slice (some ⟨b8, o8, none⟩) 1 c8))
          (first | (refine ⟨?_, ?_⟩ <;> assumption) | exact ⟨ca1, cb1⟩)
          (first | (refine step_append_own _ (by rfl) _ _ _ (by rfl) w.heap.size 24 j0 (.slice none 0 0) 1 24 Try.underlying23 hj0 hy0 hy1 hy2 rfl (by decide) _ _ _ (by rfl) hhd.out ⟨w6.heap.size, 0, none⟩ 1 1 [.slice A6 (L + 1) c6] (by rfl) (by rfl) (cell_one_new _ _ _) (by simp [Value.oneCell']) (by simp only [maxLen]; omega) (by omega) (by first | omega | (simp; done) | (simp; omega)) ?_; intro v8 w8 hown8 hgrow8; have hB8 : Below w.heap.size w w8 := (hB.trans (hb7.mono hsz)).grown hgrow8 (by first | omega | (simp; done) | (simp; omega)) (fun x e => (World.ownsRow.lt hhd.out x e).1); have c18 := (hB8.cell (p := ⟨ba, oa + k, none⟩) hba).trans hca; have c28 := (hB8.cell (p := ⟨bb, ob + k, none⟩) hbb).trans hcb) | (refine step_append_own _ (by rfl) _ _ _ (by rfl) wr.heap.size 22 u0 (.int .u64 0) 1 8 Try.underlying24 hu0 hx0 hx1 hx2 rfl (by decide) _ _ _ (by rfl) hown5H.out ⟨b8, o8, none⟩ 1 c8 [.int .u64 y] (by rfl) (by rfl) (fun j u hj => by match j, hj with | 0, hj => (simp at hj; subst hj; exact hy5) | j + 1, hj => simp at hj) (by simp [Value.oneCell']) (by simp only [maxLen]; omega) (by omega) (by first | omega | (simp; done) | (simp; omega)) ?_; intro v6 w6 hown6 hgrow6; obtain ⟨A6, c6, hv6⟩ := row_form hown6; subst hv6; have hb6 : Below wr.heap.size wr w6 := hb5.grown hgrow6 hsz5 (fun x e => (World.ownsRow.lt hown5H.out x e).1); have hsz6 := hb6.size; have c16 := (hb6.cell (p := ⟨ba, oa + k, none⟩) hbaw).trans hcaw; have c26 := (hb6.cell (p := ⟨bb, ob + k, none⟩) hbbw).trans hcbw; have hb7 := hb6.alloc hsz6 (.cells #[.slice A6 (L + 1) c6] 24); have c17 := (hb7.cell (p := ⟨ba, oa + k, none⟩) hbaw).trans hcaw; have c27 := (hb7.cell (p := ⟨bb, ob + k, none⟩) hbbw).trans hcbw; have hhd := Lib.hid (hMH.out.next hb7).head; have hu7 := Lib.hid (hown6.alloc (.cells #[.slice A6 (L + 1) c6] 24)); clear hown6 hgrow6) | (refine step_append_own _ (by rfl) _ _ _ (by rfl) wr.heap.size 22 u0 (.int .u64 0) 1 8 Try.underlying24 hu0 hx0 hx1 hx2 rfl (by decide) _ _ _ (by rfl) hlitD.out ad L c' ((ro a k).map (Value.int .u64)) (by rfl) hln.out hnwD.out hone.out (by simp only [maxLen]; omega) (by omega) (by first | omega | (simp; done) | (simp; omega)) ?_; intro v5 w5 hown5 hgrow5; rw [Nat.zero_add, List.nil_append] at hown5; obtain ⟨A5, c5, hv5⟩ := row_form hown5; subst hv5; have hb5 : Below wr.heap.size wr w5 := ((Below.refl _ wr).alloc (Nat.le_refl _) _).drew.grown hgrow5 (by first | omega | (simp; done) | (simp; omega)) (fun x e => (World.ownsRow.lt hlitD.out x e).1); have hsz5 := hb5.size; have c15 := (hb5.cell (p := ⟨ba, oa + k, none⟩) hbaw).trans hcaw; have c25 := (hb5.cell (p := ⟨bb, ob + k, none⟩) hbbw).trans hcbw; have hy5 := (hb5.cell (p := ⟨b8, o8, none⟩) hb8w).trans hcyw; have hown5H := Lib.hid hown5; clear hown5 hgrow5))
        all_goals
          go_wp2_with fail
          go_roundw
          case rel => exact ⟨k + 1, _, by omega, by simp, by rw [← hTK.out]; exact hMH.out.add hb7 hsz (by rw [hrow.out, List.length_append, List.map_append, hrl.out]; exact hu7.out) hown8 hgrow8, hB8⟩
          case measure => simp [intOf]; omega
    · obtain rfl : k = a.length := by omega
      rw [List.take_of_length_le (by rw [hgl]; exact Nat.le_refl _)] at hM
      obtain ⟨Ao, co', ho⟩ := row_form hM.head
      subst ho
      go_wp2_with fail
      go_ret
      exact ⟨_, vs, rfl, by rw [hgl]; exact hM, hB⟩
theorem beside_at (p : Int) (A B : Option Addr) (ca cb L nb : Nat) (a : List (List Int)) (b : List Int) (hN : a.length ≤ 100) (hL : L ≤ 100) (ha : Mat p a.length L a) (hn : nb = a.length) (w : World) (sa : Sll w A ca a) (sb : Sll w B cb (colK b nb)) :
    Calls Try.prog 45 #[.slice A a.length ca, .slice B nb cb] w fun e w' => MFresh w e w' (augL a b) := by
  subst hn
  exact beside_any p A B ca cb L a b hN hL ha w sa sb
end Go.Proofs.Ytgkhngiiimnchaa
