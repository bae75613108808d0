/- Solve of the reference of layer 6. Nothing that lay is changed. Conditions: a supported prime, words of its field, at most 99 rows and columns. -/
import Derived.Test.YtgkhngiiimnchaaRRefE
namespace Go.Proofs.Ytgkhngiiimnchaa
open Go.RowKit PolyMath FieldMath MatMath

theorem rSolve_bad1 (p : Int) (A B : Option Addr) (c cv : Nat) (rows : List (List Int)) (v : List Int) (hz : Sized rows) (hr : rect rows = false) (w : World) (h : Sll w A c rows) :
    Calls Try.prog 26 #[.int .u64 p, .slice A rows.length c, .slice B v.length cv] w fun e w' => e = .returned (.tuple #[.slice none 0 0, .int .i64 1]) ∧ Below w.heap.size w w' := by
  have h1 := rRect_b A c rows (by have := hz.1; omega) w h
  rw [hr] at h1
  go_enter Try.func26, Try.ntmps26
  go_wp2_with fail
  refine h1.mono ?_; rintro e w1 ⟨rfl, hB⟩
  go_wp2_with fail
  go_ret2
  exact ⟨rfl, hB⟩
theorem rSolve_bad2 (p : Int) (A B : Option Addr) (c cv : Nat) (rows : List (List Int)) (v : List Int) (hz : Sized rows) (hr : rect rows = true) (hn : rows.length ≠ v.length) (w : World) (h : Sll w A c rows) :
    Calls Try.prog 26 #[.int .u64 p, .slice A rows.length c, .slice B v.length cv] w fun e w' => e = .returned (.tuple #[.slice none 0 0, .int .i64 1]) ∧ Below w.heap.size w w' := by
  have h1 := rRect_b A c rows (by have := hz.1; omega) w h
  rw [hr] at h1
  have hn' : ((v.length : Int) != rows.length) = true := bne_iff_ne.2 (by omega)
  go_enter Try.func26, Try.ntmps26
  go_wp2_with fail
  refine h1.mono ?_; rintro e w1 ⟨rfl, hB⟩
  go_wp2_with fail
  go_ret2
  exact ⟨rfl, hB⟩

theorem lit_own (w : World) (y : Int) : Hid ((w.alloc (.cells #[.int .u64 y] 22)).ownsRow w.heap.size 22 1 (.slice (some ⟨w.heap.size, 0, none⟩) 1 1) 1 [.int .u64 y]) := Lib.hid
  (by have := World.ownsRow_lit (base := w.heap.size) (e := 22) (size := 1) w #[.int .u64 y] 1 (Nat.le_refl _) (by decide) (by simp); simpa using this)

set_option maxRecDepth 100000 in
set_option maxHeartbeats 4000000 in
theorem rSolve_any (p : Int) (hp : OkP p) (A B : Option Addr) (c cv : Nat) (rows : List (List Int)) (b : List Int) (hz : Sized rows) (hz9 : ncol rows ≤ 99) (hE : ∀ r ∈ rows, El p r) (hbE : El p b) (hr : rect rows = true) (hn : rows.length = b.length) (w : World) (h : Sll w A c rows) (sb : Sl w B cv b) :
    Calls Try.prog 26 #[.int .u64 p, .slice A rows.length c, .slice B b.length cv] w fun e w' => SolE p rows b w e w' := by
  obtain ⟨i0, hi0, hz0, hz1, hz2⟩ := info_parts info_u64
  obtain ⟨j0, hj0, hy0, hy1, hy2⟩ := info_parts info_sl
  have hbd := hp.bd
  have hN := hz.1
  have h1 := rRect_b A c rows (by omega) w h
  rw [hr, rectN_of hr] at h1
  have hmat := mat_of hr hE
  have hn' : ((b.length : Int) != rows.length) = false := by rw [hn]; simp
  have hmat2 := augL_mat (p := p) (by omega) hmat hbE
  have hELF := elim_ok hp.good hmat2 (ncol rows)
  have hgl : (augL rows b).length = rows.length := augK_len rows b _
  have gB := fun W Bc cc (q1 : Sll W A c rows) (q2 : Sll W Bc cc (colK b b.length)) => beside_at p A Bc c cc (ncol rows) b.length rows b (by omega) (by omega) hmat hn.symm W q1 q2
  have gR := fun W Ag cg (q : Sll W Ag cg (augL rows b)) => red_any p hp Ag cg (ncol rows + 1) (ncol rows) (augL rows b) (by omega) (by omega) (by omega) (fun hq => by rw [hgl]; exact ncol_pos hq) (by rw [hgl]; exact hmat2) W q
  have hb8 : Hid (i0.bytes * ncol rows ≤ 281474976710656) := Lib.hid (by rw [hz2]; omega)
  have HS : Hid (slv p rows b = if (fnd (elim p (augL rows b) (ncol rows)).R (elim p (augL rows b) (ncol rows)).pv.length (ncol rows)).isSome = true then none else some (solF (elim p (augL rows b) (ncol rows)) (ncol rows) (elim p (augL rows b) (ncol rows)).pv.length)) := Lib.hid rfl
  have HN := Lib.hid hn
  have hbl : b.length ≤ 100 := by omega
  have HGL := Lib.hid hgl
  clear hr hn hgl
  go_enter Try.func26, Try.ntmps26
  go_wp2_with fail
  refine h1.mono ?_; rintro e w1 ⟨rfl, hB1⟩
  have hs1 := h.next hB1
  have sb1 := sb.next hB1
  clear h1 h sb
  go_wp2_with fail
  go_loopw [10, 11] (fun v i wr => ∃ (k : Nat) (vs : List Value), k ≤ b.length ∧ i = .int .i64 k ∧ MP w1.heap.size wr v k k vs (colK b k) ∧ Below w1.heap.size w1 wr) (fun _ i _ => b.length - (intOf i).toNat)
  case atStart => exact ⟨0, [], Nat.zero_le _, rfl, MP.zero _ _, Below.refl _ _⟩
  case round =>
    obtain ⟨k, vs, hk, rfl, hM, hB⟩ := hrel
    have hsz : w1.heap.size ≤ wr.heap.size := hB.size
    by_cases hlt : k < b.length
    · obtain ⟨bb, ob, y, hBB, hbb, hy, hcy⟩ := (sb1.next hB).at_ hlt
      subst hBB
      have hNX : Hid (colK b k ++ [[y]] = colK b (k + 1)) := Lib.hid (by rw [colK_next, co_at hy])
      have hkb : (k : Int) < b.length := by omega
      have hMH := Lib.hid hM
      obtain ⟨Ao, co', ho⟩ := row_form hM.head
      subst ho
      have hlit := lit_own wr y
      have hb1 := (Below.refl _ wr).alloc (Nat.le_refl _) (.cells #[.int .u64 y] 22)
      have hb2 := hb1.alloc hb1.size (.cells #[.slice (some ⟨wr.heap.size, 0, none⟩) 1 1] 24)
      have hhd := Lib.hid (hMH.out.next hb2).head
      have hu2 := Lib.hid (hlit.out.alloc (.cells #[.slice (some ⟨wr.heap.size, 0, none⟩) 1 1] 24))
      clear hM hy
      go_wp2_with (at_builtin; refine wpList_append_own _ rfl _ _ 23 rfl w1.heap.size 24 j0 (.slice none 0 0) 1 24 Try.underlying23 hj0 hy0 hy1 hy2 rfl (by decide) _ _ _ rfl hhd.out ⟨wr.heap.size + 1, 0, none⟩ 1 1 [.slice (some ⟨wr.heap.size, 0, none⟩) 1 1] rfl rfl (by have := cell_one_new (wr.alloc (.cells #[.int .u64 y] 22)) (.slice (some ⟨wr.heap.size, 0, none⟩) 1 1) 24; rwa [World.size_alloc] at this) (by simp [Value.oneCell']) (by simp only [maxLen]; omega) (by omega) (by simp; omega) ?_; intro v6 w6 hown6 hgrow6 _)
      go_roundw
      case rel => exact ⟨k + 1, _, by omega, by simp, by rw [← hNX.out]; exact hMH.out.add hb2 hsz hu2.out hown6 hgrow6, (hB.trans (hb2.mono hsz)).grown hgrow6 (by simp; omega) (fun x e => (World.ownsRow.lt hhd.out x e).1)⟩
      case measure => simp [intOf]; omega
    · obtain rfl : k = b.length := by omega
      obtain ⟨Ac, cc, hvc, sc⟩ := hM.form
      subst hvc
      have hs2 := hs1.next hB
      have hB2 : Below w.heap.size w wr := hB1.trans (hB.mono hB1.size)
      clear hM
      rename World => w2
      go_wp2_with fail
      refine (gB _ _ _ hs2 sc).mono ?_
      rintro e w3 ⟨vg, vsg, rfl, hMg, hB3⟩
      obtain ⟨Ag, cg, hvg, sg3⟩ := hMg.form
      subst hvg
      replace hB2 := hB2.trans (hB3.mono hB2.size)
      clear hMg sc hB3 gB
      go_wp2_with fail
      refine (gR _ _ _ sg3).mono ?_
      rintro e w4 ⟨v4, vs4, pvv, rfl, hM4, hP4, hB4⟩
      obtain ⟨A9, c9, rfl⟩ := row_form hP4
      obtain ⟨A4, c4, hv4, s4⟩ := hM4.form
      subst hv4
      have hBend : Below w.heap.size w w4 := hB2.trans (hB4.mono hB2.size)
      obtain ⟨L2, hL2⟩ : ∃ L2, L2 = ncol rows + 1 := ⟨_, rfl⟩
      have hL2a : ncol rows < L2 := by omega
      have hL2b := Lib.hid hL2
      have hfz9 : ∀ t, t < rows.length → (ro (elim p (augL rows b) (ncol rows)).R t).length = L2 := fun t ht => by rw [hL2]; exact (hELF.mat.ro ht).1
      have hlt9 : ∀ t, t < (elim p (augL rows b) (ncol rows)).pv.length → (elim p (augL rows b) (ncol rows)).pv.getD t 0 < ncol rows := hELF.ech.lt
      have hRl : (elim p (augL rows b) (ncol rows)).R.length = rows.length := hELF.mat.rows
      have hql : (elim p (augL rows b) (ncol rows)).pv.length ≤ rows.length := hELF.ech.len
      rw [HGL.out]
      clear hM4 gR hELF hL2 hs2 sg3
      generalize elim p (augL rows b) (ncol rows) = S at *
      generalize hq : S.pv.length = q at *
      have HQ := Lib.hid hq
      clear hq
      go_wp2_with fail
      go_loop [15] (fun i => ∃ t : Nat, q ≤ t ∧ t ≤ rows.length ∧ i = .int .i64 t ∧ Hid (∀ s, q ≤ s → s < t → mx S.R s (ncol rows) = 0)) (fun i => rows.length - (intOf i).toNat)
      case atStart => exact ⟨q, Nat.le_refl _, hql, rfl, Lib.hid (fun s h1 h2 => by omega)⟩
      case round =>
        obtain ⟨t, hqt, htN, rfl, hZ⟩ := hrel
        by_cases hlt : t < rows.length
        · obtain ⟨br, or_, A7, c7, hA7, hbr, hcr, hsr⟩ := s4.rowAt (i := t) (L := L2) (by rw [hRl]; exact hlt) (hfz9 t hlt)
          subst hA7
          obtain ⟨b7, o7, y, hA8, hb7, hy7, hcy7⟩ := hsr.at_ (k := ncol rows) (by rw [hfz9 t hlt]; exact hL2a)
          subst hA8
          have hym : mx S.R t (ncol rows) = y := by rw [mx_ro]; exact co_at hy7
          have htI : (t : Int) < rows.length := by omega
          have hncI : (ncol rows : Int) < L2 := by omega
          clear hy7 hsr
          by_cases hy00 : y = 0
          · have hN2 := Lib.hid (show ∀ s, q ≤ s → s < t + 1 → mx S.R s (ncol rows) = 0 from fun s h1 h2 => by
              by_cases e : s = t
              · subst e; rw [hym]; exact hy00
              · exact hZ.out s h1 (by omega))
            subst hy00
            clear hZ hym
            go_wp2_with fail
            go_round
            case rel => exact ⟨t + 1, by omega, by omega, by simp, hN2⟩
            case measure => simp [intOf]; omega
          · have hfn : fnd S.R q (ncol rows) = some (t - q) := fnd_some.2 ⟨by rw [show q + (t - q) = t by omega, hRl]; exact hlt, by rw [show q + (t - q) = t by omega, hym]; exact hy00, fun s hs => hZ.out (q + s) (by omega) (by omega)⟩
            have HR : Hid (slv p rows b = none) := Lib.hid (by rw [HS.out, hfn]; rfl)
            have hy' : (y != 0) = true := bne_iff_ne.2 hy00
            clear hZ hym HS hfn
            go_wp2_with fail
            go_ret2
            exact .inr ⟨HR.out, rfl, hBend⟩
        · obtain rfl : t = rows.length := by omega
          have hfn : fnd S.R q (ncol rows) = none := fnd_none.2 fun i h1 h2 => by rw [hRl] at h2; exact hZ.out i h1 h2
          have HR : Hid (slv p rows b = some (solF S (ncol rows) q)) := Lib.hid (by rw [HS.out, hfn]; rfl)
          clear HS hfn hZ
          go_wp2_with (at_make; refine wpList_make_full _ rfl _ _ 24 rfl w4.heap.size 22 i0 (.int .u64 0) 1 Try.underlying24 hi0 hz0 hz1 .i64 .i64 _ _ (ncol rows) rfl rfl (by omega) (by omega) hb8.out (by simp only [maxLen]; omega) (Nat.le_refl _) ?_; intro w5 hown5 hgrow5; simp only [Value.cells, toList_madeCells_one, Nat.mul_one] at hown5; have hO5 : OwnAt w5 w4.heap.size w4.heap.size (ncol rows) (ncol rows) (solF S (ncol rows) 0) := (by unfold OwnAt; simpa [solF] using hown5); have hB5 : Below w4.heap.size w4 w5 := (Below.refl _ w4).grown hgrow5 (Nat.le_refl _) (fun k e => by cases e); clear hown5 hgrow5)
          go_loopw [17] (fun i wr => ∃ k : Nat, k ≤ q ∧ i = .int .i64 k ∧ OwnAt wr w4.heap.size w4.heap.size (ncol rows) (ncol rows) (solF S (ncol rows) k) ∧ Below w4.heap.size w4 wr) (fun i _ => q - (intOf i).toNat)
          case atStart => exact ⟨0, Nat.zero_le _, rfl, hO5, hB5⟩
          case round =>
            obtain ⟨k, hk, rfl, hOk, hBk⟩ := hrel
            by_cases hlt : k < q
            · obtain ⟨gp, hAp, hgp, hcp⟩ := rowI_cell hP4 hlt
              subst hAp
              have hcp2 := (hBk.cell (p := ⟨gp, k, none⟩) hgp).trans hcp
              have hkr : k < rows.length := by omega
              obtain ⟨br, or_, A7, c7, hA7, hbr, hcr, hsr⟩ := s4.rowAt (i := k) (L := L2) (by rw [hRl]; exact hkr) (hfz9 k hkr)
              subst hA7
              have hcr2 := (hBk.cell (p := ⟨br, or_ + k, none⟩) hbr).trans hcr
              obtain ⟨b7, o7, y, hA8, hb7, hy7, hcy7⟩ := hsr.at_ (k := ncol rows) (by rw [hfz9 k hkr]; exact hL2a)
              subst hA8
              have hcy := (hBk.cell (p := ⟨b7, o7 + ncol rows, none⟩) hb7).trans hcy7
              have hpvlt : S.pv.getD k 0 < ncol rows := hlt9 k hlt
              have hNX : Hid ((solF S (ncol rows) k).set (S.pv.getD k 0) y = solF S (ncol rows) (k + 1)) := Lib.hid (by show _ = (solF S (ncol rows) k).set _ (mx S.R k (ncol rows)); rw [mx_ro, co_at hy7])
              have hfz := hOk.frozen (S.pv.getD k 0)
              obtain ⟨z, hz99⟩ : ∃ z, (solF S (ncol rows) k)[S.pv.getD k 0]? = some z := ⟨_, List.getElem?_eq_getElem (by rw [solF_len]; exact hpvlt)⟩
              have hcz := hOk.cell hz99
              have hST := Lib.hid (hOk.drew.put (S.pv.getD k 0) y)
              have hBS := Lib.hid (hBk.drew.setCell (p := ⟨w4.heap.size, S.pv.getD k 0, none⟩) (Nat.le_refl _) (.int .u64 y))
              rw [hNX.out] at hST
              have hpvI : ((S.pv.getD k 0 : Nat) : Int) < ncol rows := by omega
              have hkI : (k : Int) < q := by omega
              have hkrI : (k : Int) < rows.length := by omega
              have hncI : (ncol rows : Int) < L2 := by omega
              generalize S.pv.getD k 0 = P at *
              clear hOk hz99 hy7 hcy7 hNX hsr
              go_wp2_with fail
              refine wp_region_still_tail 13 (by kernel_rfl) (by kernel_rfl) ?_
              simp only [List.take_succ_cons, List.take_zero, List.drop_succ_cons, List.drop_zero]
              change wpStill _ _ (World.drew _) (fun a' => wpList _ _ _ _ a' (World.drew _)) _ _
              repeat still_step
              refine wpStill_nil ?_
              go_wp2_with fail
              go_roundw
              case rel => exact ⟨k + 1, by omega, by simp, hST.out, hBS.out⟩
              case measure => simp [intOf]; omega
            · obtain rfl : k = q := by omega
              go_wp2_with fail
              go_ret2
              exact .inl ⟨_, HR.out, _, _, by rw [solF_len]; rfl, hOk.sl, hBend.trans (hBk.mono hBend.size)⟩
end Go.Proofs.Ytgkhngiiimnchaa
