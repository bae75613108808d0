/- ShamirQuorumReconstructs: for every input the law returns true and changes nothing that lay. No conditions. -/
import Derived.Test.YtddbdjhgmeeakaaWSet
import Derived.Test.YtddbdjhgmeeakaaWOpen
import Derived.Test.YtddbdjhgmeeakaaWKey
import Derived.Test.YtddbdjhgmeeakaaMC
import Derived.Test.YtddbdjhgmeeakaaMB
namespace Go.Proofs.Ytddbdjhgmeeakaa.shamirQuorumReconstructs
set_option maxRecDepth 100000
open Go.ChangeShapes Go.WideShapes Go.ChangeAt Go.RowKit PolyMath FieldMath MatMath

set_option maxHeartbeats 4000000 in
theorem walk (p : Int) (Aq : Option Addr) (cq : Nat) (q : List Int) (Axs : Option Addr) (cxs : Nat) (xs : List Int) (_wp : Wd p) (wq : Words q) (wxs : Words xs) (w : World) (sq : Sl w Aq cq q) (sxs : Sl w Axs cxs xs) : Calls Try.prog 4 #[.int .u64 p, .slice Aq q.length cq, .slice Axs xs.length cxs] w fun e w' => e = .returned (.bool true) ∧ Below w.heap.size w w' := by
  obtain ⟨i0, hi, hz0, hz1, hz2⟩ := info_parts info_pt
  go_enter Try.func4, Try.ntmps4
  go_wp2_with fail
  refine (awake9 _).mono ?_
  rintro e w1 ⟨rfl, hb⟩
  replace sq := sq.next hb
  replace sxs := sxs.next hb
  have hB := hb
  have g := fun W => rSupported_any p W
  go_wp2_with fail
  rcases sup_cases p with h0 | ⟨h0, hp⟩
  · rw [h0] at g
    refine (g _).mono ?_
    rintro e w2 ⟨rfl, hb⟩
    replace sq := sq.next hb
    replace sxs := sxs.next hb
    replace hB := hB.trans (hb.mono hB.size)
    clear hb
    go_wp2
    go_ret
    exact ⟨rfl, hB⟩
  rw [h0] at g
  refine (g _).mono ?_
  rintro e w2 ⟨rfl, hb⟩
  replace sq := sq.next hb
  replace sxs := sxs.next hb
  replace hB := hB.trans (hb.mono hB.size)
  clear hb
  clear g
  have hbd := hp.bd
  by_cases h1 : 1 ≤ q.length
  rotate_left
  · have h1' : (q.length : Int) < 1 := by omega
    go_wp2
    go_ret
    exact ⟨rfl, hB⟩
  have h1' : 1 ≤ (q.length : Int) := by omega
  have h1d0 : decide ((q.length : Int) < 1) = false := decide_eq_false (by omega)
  have h1d1 : decide (q.length < 1) = false := decide_eq_false (by omega)
  by_cases h2 : q.length ≤ 10
  rotate_left
  · have h2' : 10 < (q.length : Int) := by omega
    go_wp2
    go_ret
    exact ⟨rfl, hB⟩
  have h2' : (q.length : Int) ≤ 10 := by omega
  have h2d0 : decide (10 < (q.length : Int)) = false := decide_eq_false (by omega)
  by_cases h3 : xs.length ≤ 12
  rotate_left
  · have h3' : 12 < (xs.length : Int) := by omega
    go_wp2
    go_ret
    exact ⟨rfl, hB⟩
  have h3' : (xs.length : Int) ≤ 12 := by omega
  have h3d0 : decide (12 < (xs.length : Int)) = false := decide_eq_false (by omega)
  by_cases h4 : q.length ≤ xs.length
  rotate_left
  · have h4' : (xs.length : Int) < q.length := by omega
    go_wp2
    go_ret
    exact ⟨rfl, hB⟩
  have h4' : (q.length : Int) ≤ xs.length := by omega
  have h4d0 : decide ((xs.length : Int) < q.length) = false := decide_eq_false (by omega)
  have h4d1 : decide (xs.length < q.length) = false := decide_eq_false (by omega)
  have g := fun W h => below_any p Aq cq q W h (by omega)
  go_wp2_with fail
  by_cases h5 : ∀ x ∈ q, x < p
  rotate_left
  · rw [decide_eq_false h5] at g
    refine (g _ sq).mono ?_
    rintro e w3 ⟨rfl, rfl⟩
    go_wp2
    go_ret
    exact ⟨rfl, hB⟩
  rw [decide_eq_true h5] at g
  refine (g _ sq).mono ?_
  rintro e w3 ⟨rfl, rfl⟩
  clear g
  have g := fun W h => below_any p Axs cxs xs W h (by omega)
  go_wp2_with fail
  by_cases h6 : ∀ y ∈ xs, y < p
  rotate_left
  · rw [decide_eq_false h6] at g
    refine (g _ sxs).mono ?_
    rintro e w4 ⟨rfl, rfl⟩
    go_wp2
    go_ret
    exact ⟨rfl, hB⟩
  rw [decide_eq_true h6] at g
  refine (g _ sxs).mono ?_
  rintro e w4 ⟨rfl, rfl⟩
  clear g
  have g := fun W h => unlike_b Axs cxs xs W h (by omega) _ rfl
  go_wp2_with fail
  by_cases h7 : xs.Nodup
  rotate_left
  · rw [decide_eq_false h7] at g
    refine (g _ sxs).mono ?_
    rintro e w5 ⟨rfl, hb⟩
    replace sq := sq.next hb
    replace sxs := sxs.next hb
    replace hB := hB.trans (hb.mono hB.size)
    clear hb
    go_wp2
    go_ret
    exact ⟨rfl, hB⟩
  rw [decide_eq_true h7] at g
  refine (g _ sxs).mono ?_
  rintro e w5 ⟨rfl, hb⟩
  replace sq := sq.next hb
  replace sxs := sxs.next hb
  replace hB := hB.trans (hb.mono hB.size)
  clear hb
  clear g
  have hq := el_of wq h5
  have hx := el_of wxs h6
  have hND := Lib.hid h7
  clear h7 h5 h6
  go_wp2_with fail
  go_loopw [7, 8] (fun v i wr => ∃ k : Nat, k ≤ xs.length ∧ i = .int .i64 k ∧ wr.ownsRow w5.heap.size 34 2 v k (pcells (held p q (xs.take k))) ∧ Hid ((0 : Int) ∉ xs.take k) ∧ Below w5.heap.size w5 wr) (fun _ i _ => xs.length - (intOf i).toNat)
  case atStart => exact ⟨0, Nat.zero_le _, rfl, World.ownsRow_nil _ _ _ _, Lib.hid (by simp), Below.refl _ _⟩
  case round =>
    obtain ⟨k, hk, rfl, hrow, hz, hBr⟩ := hrel
    by_cases hlt : k < xs.length
    · obtain ⟨b, off, x, hA, hbl, hxk, hcx0⟩ := sxs.at_ hlt
      subst hA
      have hcx := (hBr.cell (p := ⟨b, off + k, none⟩) hbl).trans hcx0
      have hblr : b < wr.heap.size := Nat.lt_of_lt_of_le hbl hBr.size
      have hxb := hx x (List.mem_of_getElem? hxk)
      have hkN : (k : Int) < xs.length := by omega
      by_cases hx0 : x = 0
      · subst hx0
        clear hcx0 hrow hxk hz
        go_wp2_with fail
        go_ret
        exact ⟨rfl, hB.trans (hBr.mono hB.size)⟩
      have hzn : Hid ((0 : Int) ∉ xs.take (k + 1)) := Lib.hid (by
        rw [List.take_add_one, hxk]
        intro h
        rcases List.mem_append.1 h with h | h
        · exact hz.out h
        · simp at h; exact hx0 h.symm)
      have hsn : pcells (held p q (xs.take (k + 1))) = pcells (held p q (xs.take k)) ++ [.int .u64 x, .int .u64 (pev p q x)] := by rw [held_next hxk]; exact pcells_snoc _ (x, pev p q x)
      have hSN := Lib.hid hsn
      have hev := eval_any p x hp hxb Aq cq q hq (by omega) wr.drew (sq.next hBr).drew
      have hdr : Below wr.heap.size wr wr.drew := (Below.refl _ wr).drew
      have hfar : ∀ v, wr.ownsRow w5.heap.size 34 2 v k (pcells (held p q (xs.take k))) → some b ≠ v.ownBlock := fun v h e => by have := (World.ownsRow.lt h b e.symm).1; omega
      have hfarq : ∀ v, wr.ownsRow w5.heap.size 34 2 v k (pcells (held p q (xs.take k))) → ∀ z, z < w5.heap.size → some z ≠ v.ownBlock := fun v h z hz e => by have := (World.ownsRow.lt h z e.symm).1; omega
      have hBase := Nat.le_refl w5.heap.size
      have hsz3 := hBr.size
      clear hxk hsn hcx0
      generalize pev p q x = y at *
      go_wp2_with fail
      go_region_held3 (fun w' => w'.cell? ⟨b, off + k, none⟩ = some (.int .u64 x))
        (first | assumption | exact hcx)
        (first
          | (go_at_call 18; (with_reducible refine hev.mono ?_); rintro e w6 ⟨rfl, hb6⟩; have hB6 := hdr.trans (hb6.mono hdr.size); have own6 := own_belowN hrow hB6; have hbl6 : b < w6.heap.size := Nat.lt_of_lt_of_le hblr hB6.size; have cx6 := (hB6.cell (p := ⟨b, off + k, none⟩) hblr).trans hcx; have cx6' := ((bnew (Below.refl w6.heap.size w6) (.cells #[.int .u64 x, .int .u64 y] 34) (Nat.le_refl _)).cell (p := ⟨b, off + k, none⟩) hbl6).trans cx6; have hsz6 := hB6.size; clear hb6 hev)
          | (refine step_append_lies _ (by rfl) _ _ _ (by rfl) w5.heap.size 34 i0 _ 2 16 Try.underlying31 hi hz0 hz1 hz2 rfl (by omega) _ k _ (by rfl) (own6.alloc _) ⟨w6.heap.size, 0, none⟩ 1 1 [.int .u64 x, .int .u64 y] (by rfl) (by rfl) (World.news_of_block (cs := #[.int .u64 x, .int .u64 y]) (t := 34) (fr := (0, 0)) (World.alloc_heap_new w6 _)) (by simp [Value.oneCell']) (by omega) (by simp only [maxLen]; omega) (by omega) (by simp; omega) (w6.heap.size + 1) (by simp) ?_; intro gg cap w7 hown7 hgrow hat hlt7; have cx7 := hgrow.cell cx6' (hfar _ hrow)))
      all_goals
        have hB7 : Below w5.heap.size w5 w7 := (bnew (hBr.trans (hB6.mono hBr.size)) (.cells #[.int .u64 x, .int .u64 y] 34) (Nat.le_refl _)).grown hgrow (by simp; omega) (fun k e => (hrow.lt k e).1)
        go_wp2_with fail
        go_roundw
        case rel => exact ⟨k + 1, by omega, by simp, by rw [hSN.out]; exact hown7, hzn, hB7⟩
        case measure => simp [intOf]; omega
    · obtain rfl : k = xs.length := by omega
      rw [List.take_length] at hrow hz
      obtain ⟨A7, c7, hv, hs7⟩ := pown_form hrow
      rw [held_len] at hv
      subst hv
      have hB8 := hB.trans (hBr.mono hB.size)
      have sq8 := sq.next hBr
      obtain ⟨t, ht⟩ : ∃ t, q.length = t + 1 := ⟨q.length - 1, by omega⟩
      have htI : ((t : Nat) : Int) = (q.length : Int) - 1 := by omega
      have hrec := rec_held p hp A7 c7 t q xs hq (by omega) hx hND.out hz.out (.inl (by rw [held_len]; exact h3)) (by omega) wr hs7
      clear hrow hs7 htI
      go_wp2_with fail
      with_reducible refine hrec.mono ?_
      rintro e w8 ⟨rfl, hb⟩
      have sq9 := sq8.next hb
      have hB9 := hB8.trans (hb.mono hB8.size)
      clear hb hrec
      obtain ⟨b, off, y, hA, hbl, hyk, hcy⟩ := sq9.at_ (k := 0) (by omega)
      subst hA
      rw [Nat.add_zero] at hcy
      have hy0 := co_at hyk
      rw [hy0]
      clear hyk hy0
      go_wp2
      go_ret
      exact ⟨rfl, hB9⟩

theorem lifted (os : Os) (started : os.Started) (H : Type) (enc : TypeId × Value → H) :
    ReturnsInHanded {} Try.checked os 4 .any (Rows.shamirQuorumReconstructsSpec.pre6 enc Try.prog Try.f4 Rows.shamirQuorumReconstructsRow.domain false) (Rows.shamirQuorumReconstructsSpec.post enc Try.prog Try.f4 false true false false) := by
  refine returnsInHanded_of_change (C := Try.checked) own started (by kernel_rfl) Try.func4
    (ChangeSpec.witness6 (enc := enc) (C := Try.checked) false ⟨#[], #[.int .u64 0, .slice none 0 0, .slice none 0 0], []⟩ 8 (by kernel_rfl) (by kernel_rfl) (by kernel_rfl) (by kernel_rfl)) ?_
  intro W base args ds gs before hval0 hW hcnd _
  have hval : ∀ (j : Nat) t v, Try.f4.params[j]? = some t → args[j]? = some v → Value.okWide Try.prog W .any base t v := hval0
  have hW' := hW
  obtain ⟨p, q, hA0, hV, rfl, hfz, hnd⟩ := hW
  have hA : DataW.TrodAll enc Try.prog W 0 (fun _ => true) true Try.f4.params.toList args.toList ds p := hA0
  rw [Try.params4] at hA hval
  obtain ⟨v0, v1, v2, d0, d1, d2, p0, p1, p2, rfl, rfl, rfl, t0, t1, t2⟩ := trodAll_three hA
  obtain ⟨rfl, rfl⟩ := trodVars_none hV
  clear hA0 hval0
  simp only [List.append_nil] at hW'
  have l0 : ∀ x ∈ p0, x.block < W.heap.size := fun x hx => hW'.lt x (by simp [hx])
  obtain ⟨x0, rfl, b0⟩ := arg_word (hval 0 22 v0 rfl rfl) t0
  have l1 : ∀ x ∈ p1, x.block < W.heap.size := fun x hx => hW'.lt x (by simp [hx])
  obtain ⟨A1, x1, c1, rfl, r1, b1⟩ := arg_sl (hval 1 23 v1 rfl rfl) t1 l1
  have l2 : ∀ x ∈ p2, x.block < W.heap.size := fun x hx => hW'.lt x (by simp [hx])
  obtain ⟨A2, x2, c2, rfl, r2, b2⟩ := arg_sl (hval 2 23 v2 rfl rfl) t2 l2
  refine (walk x0 A1 c1 x1 A2 c2 x2 b0 b1 b2 W r1 r2).mono fun e W' ⟨he, hb⟩ => ?_
  subst he
  exact ⟨_, rfl, post_of_below (pa := p0 ++ (p1 ++ p2)) (pv := []) hW' (fun _ _ _ => (trodAll_cons_mk (shut_bool Try.underlying4 _) trodAll_mk0)) (fun sp hsp => trodAll_mk3 (stay_word t0 hb l0 sp (fun x hx => hsp x (by simp [hx]))) (stays t1 hb l1 sp (fun x hx => hsp x (by simp [hx]))) (stays t2 hb l2 sp (fun x hx => hsp x (by simp [hx])))) (fun _ _ => rfl) (by simp)
    hb (ok_one (by kernel_rfl) rfl (okWide_bool_mk Try.underlying4 _))⟩

theorem over : Rows.shamirQuorumReconstructsRow.holds Try.pinned (OpenSpec.ofChange Rows.shamirQuorumReconstructsSpec) :=
  OpenClaim.holds_of_wide 4 Try.f4 rfl rfl rfl rfl rfl rfl rfl ⟨rfl, rfl, rfl, rfl, rfl⟩ rfl rfl rfl rfl rfl (by kernel_rfl) Try.func4 (by kernel_rfl)
    (of_decide_eq_true (by kernel_rfl)) (by unfold Func.isWrapper; first | (rw [if_pos (by decide +kernel)]; kernel_rfl) | (rw [if_neg (by decide +kernel)]; exact ⟨rfl, rfl⟩))
    (fun os started H enc _ => lifted os started H enc)

theorem proved : Rows.ShamirQuorumReconstructsSaid := over
end Go.Proofs.Ytddbdjhgmeeakaa.shamirQuorumReconstructs
