/- Mul of package matrix. Nothing that lay is changed. Conditions: a supported prime, words of its field, at most 100 rows and columns. -/
import Derived.Test.YtgkhngiiimnchaaRMul
namespace Go.Proofs.Ytgkhngiiimnchaa
open Go.RowKit PolyMath FieldMath MatMath

theorem mul_bad1 (p : Int) (A B : Option Addr) (ca cb : Nat) (a b : List (List Int)) (za : Sized a) (_zb : Sized b) (ha : rect a = false) (w : World) (sa : Sll w A ca a) (_sb : Sll w B cb b) :
    Calls Try.prog 13 #[.int .u64 p, .slice A a.length ca, .slice B b.length cb] w fun e w' => e = .returned (.tuple #[.slice none 0 0, .int .i64 1]) ∧ Below w.heap.size w w' := by
  have h1 := rectangular_any A ca a (by have := za.1; omega) w sa
  rw [ha] at h1
  go_enter Try.func13, Try.ntmps13
  go_wp2_with fail
  refine h1.mono ?_; rintro e w1 ⟨rfl, hB⟩
  go_wp2_with fail
  go_ret2
  exact ⟨rfl, hB⟩
theorem mul_bad2 (p : Int) (A B : Option Addr) (ca cb : Nat) (a b : List (List Int)) (za : Sized a) (zb : Sized b) (ha : rect a = true) (hb : rect b = false) (w : World) (sa : Sll w A ca a) (sb : Sll w B cb b) :
    Calls Try.prog 13 #[.int .u64 p, .slice A a.length ca, .slice B b.length cb] w fun e w' => e = .returned (.tuple #[.slice none 0 0, .int .i64 1]) ∧ Below w.heap.size w w' := by
  have h1 := rectangular_any A ca a (by have := za.1; omega) w sa
  rw [ha] at h1
  go_enter Try.func13, Try.ntmps13
  go_wp2_with fail
  refine h1.mono ?_; rintro e w1 ⟨rfl, hB⟩
  have h2 := rectangular_any B cb b (by have := zb.1; omega) w1 (sb.next hB)
  rw [hb] at h2
  go_wp2_with fail
  refine h2.mono ?_; rintro e w2 ⟨rfl, hB2⟩
  replace hB := hB.trans (hB2.mono hB.size)
  go_wp2_with fail
  go_ret2
  exact ⟨rfl, hB⟩
theorem mul_bad3 (p : Int) (A B : Option Addr) (ca cb : Nat) (a b : List (List Int)) (za : Sized a) (zb : Sized b) (ha : rect a = true) (hb : rect b = true) (hn : ncol a ≠ b.length) (w : World) (sa : Sll w A ca a) (sb : Sll w B cb b) :
    Calls Try.prog 13 #[.int .u64 p, .slice A a.length ca, .slice B b.length cb] w fun e w' => e = .returned (.tuple #[.slice none 0 0, .int .i64 1]) ∧ Below w.heap.size w w' := by
  have h1 := rectangular_any A ca a (by have := za.1; omega) w sa
  rw [ha] at h1
  have hn' : ((ncol a : Int) != b.length) = true := bne_iff_ne.2 (by omega)
  go_enter Try.func13, Try.ntmps13
  go_wp2_with fail
  refine h1.mono ?_; rintro e w1 ⟨rfl, hB⟩
  have h2 := rectangular_any B cb b (by have := zb.1; omega) w1 (sb.next hB)
  rw [hb] at h2
  go_wp2_with fail
  refine h2.mono ?_; rintro e w2 ⟨rfl, hB2⟩
  replace hB := hB.trans (hB2.mono hB.size)
  have h3 := columns_any A ca a w2 (sa.next hB)
  go_wp2_with fail
  refine h3.mono ?_; rintro e w' ⟨rfl, rfl⟩
  go_wp2_with fail
  go_ret2
  exact ⟨rfl, hB⟩

set_option maxHeartbeats 2000000 in
theorem mul_ok (p : Int) (hp : OkP p) (A B : Option Addr) (ca cb : Nat) (a b : List (List Int)) (za : Sized a) (zb : Sized b) (ea : ∀ r ∈ a, El p r) (eb : ∀ r ∈ b, El p r) (ha : rect a = true) (hb : rect b = true) (hn : ncol a = b.length) (w : World) (sa : Sll w A ca a) (sb : Sll w B cb b) :
    Calls Try.prog 13 #[.int .u64 p, .slice A a.length ca, .slice B b.length cb] w fun e w' => MatE w e w' (mulM p a b) := by
  obtain ⟨i0, hi0, hz0, hz1, hz2⟩ := info_parts info_u64
  obtain ⟨j0, hj0, hy0, hy1, hy2⟩ := info_parts info_sl
  have hbd := hp.bd
  have hN := za.1
  have hNb := zb.1
  have h1 := rectangular_any A ca a (by omega) w sa
  have hma := mat_of ha ea
  have hmb := mat_of hb eb
  rw [ha] at h1
  have hnb : ncol b ≤ 100 := zb.2 0
  have hn' : ((ncol a : Int) != b.length) = false := by rw [hn]; simp
  have hb24 : Hid (j0.bytes * a.length ≤ 281474976710656) := Lib.hid (by rw [hy2]; omega)
  have hb8 : Hid (i0.bytes * ncol b ≤ 281474976710656) := Lib.hid (by rw [hz2]; omega)
  have HN := Lib.hid hn
  clear hn ha
  go_enter Try.func13, Try.ntmps13
  go_wp2_with fail
  refine h1.mono ?_; rintro e w1 ⟨rfl, hB⟩
  have h2 := rectangular_any B cb b (by have := zb.1; omega) w1 (sb.next hB)
  rw [hb] at h2
  go_wp2_with fail
  refine h2.mono ?_; rintro e w2 ⟨rfl, hB2⟩
  replace hB := hB.trans (hB2.mono hB.size)
  have h3 := columns_any A ca a w2 (sa.next hB)
  go_wp2_with fail
  refine h3.mono ?_; rintro e w' ⟨rfl, rfl⟩
  have sa2 := sa.next hB
  have sb2 := sb.next hB
  clear h1 h2 h3 sa sb hB2
  go_wp2_with (at_make; refine wpList_make_full _ rfl _ _ 23 rfl w2.heap.size 24 j0 (.slice none 0 0) 1 Try.underlying23 hj0 hy0 hy1 .i64 .i64 _ _ a.length rfl rfl (by omega) (by omega) hb24.out (by simp only [maxLen]; omega) (Nat.le_refl _) ?_; intro w3 hown3 hgrow3; simp only [Value.cells, toList_madeCells_one, Nat.mul_one] at hown3; have hM3 : MP w2.heap.size w3 (.slice (some ⟨w2.heap.size, 0, none⟩) a.length a.length) a.length a.length (List.replicate a.length (.slice none 0 0)) (mulP p a b 0) := MP.nils (by simpa using hown3) (mulP_len p a b 0) (mulP_zero p a b); have hb3 : Below w2.heap.size w2 w3 := (Below.refl _ w2).grown hgrow3 (Nat.le_refl _) (fun k e => by cases e); clear hown3 hgrow3)
  go_loopw [33] (fun i wr => ∃ (k : Nat) (vs : List Value), k ≤ a.length ∧ i = .int .i64 k ∧ MP w2.heap.size wr (.slice (some ⟨w2.heap.size, 0, none⟩) a.length a.length) a.length a.length vs (mulP p a b k) ∧ Below w2.heap.size w2 wr) (fun i _ => a.length - (intOf i).toNat)
  case atStart => exact ⟨0, _, Nat.zero_le _, rfl, hM3, hb3⟩
  case round =>
    obtain ⟨k, vs, hk, rfl, hM, hBr⟩ := hrel
    by_cases hlt : k < a.length
    · obtain ⟨ba, oa, A', c', hA, hba, hca, hsa⟩ := sa2.rowAt (i := k) (L := b.length) hlt (by rw [← HN.out]; exact (hma.ro hlt).1)
      subst hA
      have hcaw := (hBr.cell (p := ⟨ba, oa + k, none⟩) hba).trans hca
      have hcol := columns_any B cb b wr (sb2.next hBr)
      obtain ⟨u, hu, _⟩ := hM.row k hlt
      have hcell := hM.cell hlt hu
      have hfz := World.ownsRow.frozenAt hM.head k
      have hgl := World.ownsRow.lt hM.head _ rfl
      have hela := (hma.ro hlt).2
      have hkn : (k : Int) < a.length := by omega
      have hMH := Lib.hid hM
      have hsz : w2.heap.size ≤ wr.heap.size := hBr.size
      have hne0 : w2.heap.size ≠ wr.heap.size := by omega
      clear hM
      rename World => W0
      go_wp2_with (first | (at_make; refine wpList_make_full _ rfl _ _ 24 rfl w2.heap.size 22 i0 (.int .u64 0) 1 Try.underlying24 hi0 hz0 hz1 .i64 .i64 _ _ (ncol b) rfl rfl (by omega) (by omega) hb8.out (by simp only [maxLen]; omega) (by omega) ?_; intro w5 hown5 hgrow5; simp only [Value.cells, toList_madeCells_one, Nat.mul_one] at hown5; have hO5 : OwnAt w5 w2.heap.size W0.heap.size (ncol b) (ncol b) (mulR p (ro a k) b (ncol b) 0) := (by rw [mulR_zero]; unfold OwnAt; simpa using hown5); have hb5 : Below W0.heap.size W0 w5 := (Below.refl _ W0).grown hgrow5 (Nat.le_refl _) (fun k e => by cases e); have hM5 := hMH.out.next hb5; have hfz5 := World.ownsRow.frozenAt hM5.head k; have hcell5 := hM5.cell hlt hu; have hgl5 : w2.heap.size < w5.heap.size := Nat.lt_of_lt_of_le hgl.2 hb5.size; have hM5H := Lib.hid hM5; clear hM5 hown5; obtain ⟨w6, hw6⟩ : ∃ w6, w6 = w5.setCell ⟨w2.heap.size, k, none⟩ (.slice (some ⟨W0.heap.size, 0, none⟩) (ncol b) (ncol b)) := ⟨_, rfl⟩) | (go_at_call 34; refine hcol.mono ?_; rintro e w' ⟨rfl, rfl⟩))
      rw [← hw6]
      have hv6 : (vs.set k (.slice (some ⟨W0.heap.size, 0, none⟩) (ncol b) (ncol b)))[k]? = some (.slice (some ⟨W0.heap.size, 0, none⟩) (ncol b) (ncol b)) := List.getElem?_set_self (by rw [hMH.out.vlen]; exact hlt)
      have hM6 : MP w2.heap.size w6 (.slice (some ⟨w2.heap.size, 0, none⟩) a.length a.length) a.length a.length (vs.set k (.slice (some ⟨W0.heap.size, 0, none⟩) (ncol b) (ncol b))) ((mulP p a b k).set k (mulR p (ro a k) b (ncol b) 0)) := by
        rw [hw6]
        exact hMH.out.lay (w' := w5) (i := k) (k' := a.length) (row := none) (by omega) hlt (by omega) hgrow5 (fun b e => by cases e) (by rw [mulR_len]; exact hO5) (fun b e => .inl (by have : W0.heap.size = b := by simpa [Value.ownBlock] using e
                                                                                                                                                                                         omega))
      have hB6 : Below w2.heap.size w2 w6 := by rw [hw6]; exact (hBr.trans (hb5.mono hsz)).setCell (p := ⟨w2.heap.size, k, none⟩) (Nat.le_refl _) _
      generalize hvs : vs.set k (.slice (some ⟨W0.heap.size, 0, none⟩) (ncol b) (ncol b)) = vs6 at *
      have HO5 := Lib.hid hO5
      clear hvs hO5 hM5H hcell5 hfz5 hMH hw6 hgrow5 hb5 hu hcell hcaw
      go_loopw [46] (fun i wr => ∃ j : Nat, j ≤ b.length ∧ i = .int .i64 j ∧ MP w2.heap.size wr (.slice (some ⟨w2.heap.size, 0, none⟩) a.length a.length) a.length a.length vs6 ((mulP p a b k).set k (mulR p (ro a k) b (ncol b) j)) ∧ Below w2.heap.size w2 wr) (fun i _ => b.length - (intOf i).toNat)
      case atStart => exact ⟨0, Nat.zero_le _, rfl, hM6, hB6⟩
      case round =>
        obtain ⟨j, hj, rfl, hMj, hBj⟩ := hrel
        have hszj : w2.heap.size ≤ wr.heap.size := hBj.size
        by_cases hltj : j < b.length
        · obtain ⟨b7, o7, y, hA7, hb7, hy7, hcy7⟩ := hsa.at_ (k := j) (by rw [(hma.ro hlt).1, HN.out]; exact hltj)
          subst hA7
          have hcy := (hBj.cell (p := ⟨b7, o7 + j, none⟩) hb7).trans hcy7
          have hyb := hela y (List.mem_of_getElem? hy7)
          obtain ⟨bb, ob, B', cB, hB8, hbb, hcb, hsb⟩ := sb2.rowAt (i := j) (L := ncol b) hltj (hmb.ro hltj).1
          subst hB8
          have hcbw := (hBj.cell (p := ⟨bb, ob + j, none⟩) hbb).trans hcb
          have hhead := hMj.cell hlt hv6
          have hOj : OwnAt wr w2.heap.size W0.heap.size (ncol b) (ncol b) (mulR p (ro a k) b (ncol b) j) := by
            have := hMj.own hlt hv6
            rw [ro_set (by rw [mulP_len]; exact hlt), if_pos rfl, mulR_len] at this
            exact this
          have hadd := addMul_any p y hp hyb w2.heap.size W0.heap.size (ncol b) (ncol b) (mulR p (ro a k) b (ncol b) j) (mulR_el (by omega) _ _ _ _) 0 (ncol b) (ncol b) (by omega) (by omega) (Nat.le_refl _) B' cB (ro b j) (hmb.ro hltj).2 (hmb.ro hltj).1 wr.drew hOj.drew ((hsb.next hBj).drew) (fun h0 ad e e' => by
            injection e' with e'
            obtain ⟨b9, o9, e9, hb9, _⟩ := hsb.rd ad e h0
            subst e9
            have : b9 = W0.heap.size := e'
            omega)
          have hNX : Hid (mixO (addF p y (mulR p (ro a k) b (ncol b) j) (ro b j) 0) 0 (ncol b) (mulR p (ro a k) b (ncol b) j) = mulR p (ro a k) b (ncol b) (j + 1)) := Lib.hid (by
            have := mulR_next p (ro a k) (B := b) (n := ncol b) (j := j)
            rw [co_at hy7] at this
            exact this)
          have hjn : (j : Int) < b.length := by omega
          have hMJ := Lib.hid hMj
          clear hMj hy7 hcy7
          go_wp2
          refine wp_region_still_tail 10 (by kernel_rfl) (by kernel_rfl) ?_
          simp only [List.take_succ_cons, List.take_zero, List.drop_succ_cons, List.drop_zero]
          change wpStill _ _ (World.drew _) (fun a' => wpList _ _ _ _ a' (World.drew _)) _ _
          repeat still_step
          refine wpStill_nil ?_
          go_wp2_with (go_at_call 35; refine hadd.mono ?_; rintro e w9 ⟨⟨v, rfl⟩, hO9, hG9⟩)
          rw [hNX.out] at hO9
          go_roundw
          case rel => exact ⟨j + 1, by omega, by simp, by have := (hMJ.out.next (Below.refl _ wr).drew).change hlt hv6 hO9 hG9; rw [List.set_set] at this; exact this, hBj.drew.grown hG9 hszj (fun x e => by injection e with e; omega)⟩
          case measure => simp [intOf]; omega
        · obtain rfl : j = b.length := by omega
          have hDN : Hid ((mulP p a b k).set k (mulR p (ro a k) b (ncol b) b.length) = mulP p a b (k + 1)) := Lib.hid (by rw [← mulP_next p a b hlt, mulM_ro p b hlt, (hma.ro hlt).1, HN.out])
          rw [hDN.out] at hMj
          have hMJ := Lib.hid hMj
          clear hMj
          go_wp2
          go_roundw
          case rel => exact ⟨k + 1, vs6, by omega, by simp, hMJ.out, hBj⟩
          case measure => simp [intOf]; omega
    · obtain rfl : k = a.length := by omega
      rw [mulP_done] at hM
      have hs9 := hM.sll
      go_wp2
      go_ret2
      exact ⟨_, _, by rw [mulM_len]; rfl, hs9, hB.trans (hBr.mono hB.size)⟩
end Go.Proofs.Ytgkhngiiimnchaa
