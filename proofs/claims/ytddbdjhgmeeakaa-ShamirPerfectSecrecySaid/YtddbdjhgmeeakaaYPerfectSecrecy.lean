/- ShamirPerfectSecrecy: for every input the law returns true and changes nothing that lay. No conditions. -/
import Derived.Test.YtddbdjhgmeeakaaWSet
import Derived.Test.YtddbdjhgmeeakaaWOpen
import Derived.Test.YtddbdjhgmeeakaaWKey
import Derived.Test.YtddbdjhgmeeakaaMC
import Derived.Test.YtddbdjhgmeeakaaMB
import Derived.BigQuiet
namespace Go.Proofs.Ytddbdjhgmeeakaa.shamirPerfectSecrecy
set_option maxRecDepth 100000
open Go.ChangeShapes Go.WideShapes Go.ChangeAt Go.RowKit PolyMath FieldMath MatMath

set_option maxHeartbeats 4000000 in
theorem walk (P : Int) (A : Option Addr) (c : Nat) (q : List Int) (B : Option Addr) (cb : Nat) (xs : List Int) (s : Int) (_wP : Wd P) (ws : Wd s) (wq : Words q) (wx : Words xs) (_lq : q.length ≤ 9223372036854775807) (w : World) (sq : Sl w A c q) (sx : Sl w B cb xs) : Calls Try.prog 6 #[.agg #[.int .u64 P, .slice A q.length c, .slice B xs.length cb, .int .u64 s]] w fun e w' => e = .returned (.bool true) ∧ Below w.heap.size w w' := by
  obtain ⟨i0, hi, hz0, hz1, hz2⟩ := info_parts info_pt
  have hlq : IntKind.i64.wrap ((q.length : Int) - 1) = (q.length : Int) - 1 := IntWalk.i64_in _ (by omega)
  have hB := bnew (Below.refl w.heap.size w) (.cells #[.int .u64 P, .slice A q.length c, .slice B xs.length cb, .int .u64 s] 46) (by simp)
  replace sq := sq.next hB
  replace sx := sx.next hB
  have k00 : (w.alloc (.cells #[.int .u64 P, .slice A q.length c, .slice B xs.length cb, .int .u64 s] 46)).cell? ⟨w.heap.size, 0, none⟩ = some (.int .u64 P) := by go_simp
  have k01 : (w.alloc (.cells #[.int .u64 P, .slice A q.length c, .slice B xs.length cb, .int .u64 s] 46)).cell? ⟨w.heap.size, 1, none⟩ = some (.slice A q.length c) := by go_simp
  have k02 : (w.alloc (.cells #[.int .u64 P, .slice A q.length c, .slice B xs.length cb, .int .u64 s] 46)).cell? ⟨w.heap.size, 2, none⟩ = some (.slice B xs.length cb) := by go_simp
  have k03 : (w.alloc (.cells #[.int .u64 P, .slice A q.length c, .slice B xs.length cb, .int .u64 s] 46)).cell? ⟨w.heap.size, 3, none⟩ = some (.int .u64 s) := by go_simp
  have hq0 : w.heap.size < (w.alloc (.cells #[.int .u64 P, .slice A q.length c, .slice B xs.length cb, .int .u64 s] 46)).heap.size := by simp
  go_enter Try.func6, Try.ntmps6
  go_wp2_with fail
  refine (awake9 _).mono ?_
  rintro e w1 ⟨rfl, hb⟩
  replace sq := sq.next hb
  replace sx := sx.next hb
  replace k00 := (hb.cell (p := ⟨w.heap.size, 0, none⟩) hq0).trans k00
  replace k01 := (hb.cell (p := ⟨w.heap.size, 1, none⟩) hq0).trans k01
  replace k02 := (hb.cell (p := ⟨w.heap.size, 2, none⟩) hq0).trans k02
  replace k03 := (hb.cell (p := ⟨w.heap.size, 3, none⟩) hq0).trans k03
  replace hq0 := Nat.lt_of_lt_of_le hq0 hb.size
  replace hB := hB.trans (hb.mono hB.size)
  clear hb
  have g := fun W => rSupported_any P W
  go_wp2_with fail
  rcases sup_cases P with h0 | ⟨h0, hp⟩
  · rw [h0] at g
    refine (g _).mono ?_
    rintro e w2 ⟨rfl, hb⟩
    replace sq := sq.next hb
    replace sx := sx.next hb
    replace k00 := (hb.cell (p := ⟨w.heap.size, 0, none⟩) hq0).trans k00
    replace k01 := (hb.cell (p := ⟨w.heap.size, 1, none⟩) hq0).trans k01
    replace k02 := (hb.cell (p := ⟨w.heap.size, 2, none⟩) hq0).trans k02
    replace k03 := (hb.cell (p := ⟨w.heap.size, 3, none⟩) hq0).trans k03
    replace hq0 := Nat.lt_of_lt_of_le hq0 hb.size
    replace hB := hB.trans (hb.mono hB.size)
    clear hb
    go_wp2
    go_ret
    exact ⟨rfl, hB⟩
  rw [h0] at g
  refine (g _).mono ?_
  rintro e w2 ⟨rfl, hb⟩
  replace sq := sq.next hb
  replace sx := sx.next hb
  replace k00 := (hb.cell (p := ⟨w.heap.size, 0, none⟩) hq0).trans k00
  replace k01 := (hb.cell (p := ⟨w.heap.size, 1, none⟩) hq0).trans k01
  replace k02 := (hb.cell (p := ⟨w.heap.size, 2, none⟩) hq0).trans k02
  replace k03 := (hb.cell (p := ⟨w.heap.size, 3, none⟩) hq0).trans k03
  replace hq0 := Nat.lt_of_lt_of_le hq0 hb.size
  replace hB := hB.trans (hb.mono hB.size)
  clear hb
  clear g
  have hbd := hp.bd
  by_cases h1 : 1 ≤ q.length
  rotate_left
  · have h1' : (q.length : Int) - 1 < 0 := by omega
    go_wp2
    go_ret
    exact ⟨rfl, hB⟩
  have h1' : 1 ≤ (q.length : Int) := by omega
  have h1d0 : decide ((q.length : Int) - 1 < 0) = false := decide_eq_false (by omega)
  by_cases h2 : q.length ≤ 10
  rotate_left
  · have h2' : 9 < (q.length : Int) - 1 := by omega
    go_wp2
    go_ret
    exact ⟨rfl, hB⟩
  have h2' : (q.length : Int) ≤ 10 := by omega
  have h2d0 : decide (9 < (q.length : Int) - 1) = false := decide_eq_false (by omega)
  by_cases h3 : xs.length + 1 ≤ q.length
  rotate_left
  · have h3' : (q.length : Int) - 1 < xs.length := by omega
    go_wp2
    go_ret
    exact ⟨rfl, hB⟩
  have h3' : (xs.length : Int) ≤ (q.length : Int) - 1 := by omega
  have h3d0 : decide ((q.length : Int) - 1 < xs.length) = false := decide_eq_false (by omega)
  have g := fun W h => below_any P A c q W h (by omega)
  go_wp2_with fail
  by_cases h5 : ∀ x ∈ q, x < P
  rotate_left
  · rw [decide_eq_false h5] at g
    refine (g _ sq).mono ?_
    rintro e w3 ⟨rfl, rfl⟩
    go_wp2
    go_ret
    exact ⟨rfl, hB⟩
  rw [decide_eq_true h5] at g
  refine (g _ sq).mono ?_
  rintro e w3 ⟨rfl, rfl⟩
  clear g
  have g := fun W h => below_any P B cb xs W h (by omega)
  go_wp2_with fail
  by_cases h6 : ∀ y ∈ xs, y < P
  rotate_left
  · rw [decide_eq_false h6] at g
    refine (g _ sx).mono ?_
    rintro e w4 ⟨rfl, rfl⟩
    go_wp2
    go_ret
    exact ⟨rfl, hB⟩
  rw [decide_eq_true h6] at g
  refine (g _ sx).mono ?_
  rintro e w4 ⟨rfl, rfl⟩
  clear g
  have g := fun W h => unlike_b B cb xs W h (by omega) _ rfl
  go_wp2_with fail
  by_cases h7 : xs.Nodup
  rotate_left
  · rw [decide_eq_false h7] at g
    refine (g _ sx).mono ?_
    rintro e w5 ⟨rfl, hb⟩
    replace sq := sq.next hb
    replace sx := sx.next hb
    replace k00 := (hb.cell (p := ⟨w.heap.size, 0, none⟩) hq0).trans k00
    replace k01 := (hb.cell (p := ⟨w.heap.size, 1, none⟩) hq0).trans k01
    replace k02 := (hb.cell (p := ⟨w.heap.size, 2, none⟩) hq0).trans k02
    replace k03 := (hb.cell (p := ⟨w.heap.size, 3, none⟩) hq0).trans k03
    replace hq0 := Nat.lt_of_lt_of_le hq0 hb.size
    replace hB := hB.trans (hb.mono hB.size)
    clear hb
    go_wp2
    go_ret
    exact ⟨rfl, hB⟩
  rw [decide_eq_true h7] at g
  refine (g _ sx).mono ?_
  rintro e w5 ⟨rfl, hb⟩
  replace sq := sq.next hb
  replace sx := sx.next hb
  replace k00 := (hb.cell (p := ⟨w.heap.size, 0, none⟩) hq0).trans k00
  replace k01 := (hb.cell (p := ⟨w.heap.size, 1, none⟩) hq0).trans k01
  replace k02 := (hb.cell (p := ⟨w.heap.size, 2, none⟩) hq0).trans k02
  replace k03 := (hb.cell (p := ⟨w.heap.size, 3, none⟩) hq0).trans k03
  replace hq0 := Nat.lt_of_lt_of_le hq0 hb.size
  replace hB := hB.trans (hb.mono hB.size)
  clear hb
  clear g
  by_cases h8 : s < P
  rotate_left
  · have h8' : P ≤ s := by omega
    go_wp2
    go_ret
    exact ⟨rfl, hB⟩
  have h8d0 : decide (P ≤ s) = false := decide_eq_false (by omega)
  have hq := el_of wq h5
  have hx := el_of wx h6
  have hND := Lib.hid h7
  have hs : 0 ≤ s ∧ s < P := ⟨ws.1, h8⟩
  clear h7 h5 h6
  go_wp2_with fail
  go_loopw [4, 5] (fun v i wr => ∃ k : Nat, k ≤ xs.length ∧ i = .int .i64 k ∧ wr.ownsRow w5.heap.size 34 2 v k (pcells (held P q (xs.take k))) ∧ Hid ((0 : Int) ∉ xs.take k) ∧ Below w5.heap.size w5 wr) (fun _ i _ => xs.length - (intOf i).toNat)
  case atStart => exact ⟨0, Nat.zero_le _, rfl, World.ownsRow_nil _ _ _ _, Lib.hid (by simp), Below.refl _ _⟩
  case round =>
    obtain ⟨k, hk, rfl, hrow, hz, hBr⟩ := hrel
    have jk00 := (hBr.cell (p := ⟨w.heap.size, 0, none⟩) hq0).trans k00
    have jk01 := (hBr.cell (p := ⟨w.heap.size, 1, none⟩) hq0).trans k01
    have jk02 := (hBr.cell (p := ⟨w.heap.size, 2, none⟩) hq0).trans k02
    have jhq0 := Nat.lt_of_lt_of_le hq0 hBr.size
    by_cases hlt : k < xs.length
    · obtain ⟨b, off, x, hA, hbl, hxk, hcx0⟩ := sx.at_ hlt
      subst hA
      have hcx := (hBr.cell (p := ⟨b, off + k, none⟩) hbl).trans hcx0
      have hblr : b < wr.heap.size := Nat.lt_of_lt_of_le hbl hBr.size
      have hxb := hx x (List.mem_of_getElem? hxk)
      have hkN : (k : Int) < xs.length := by omega
      by_cases hx0 : x = 0
      · subst hx0
        clear hcx0 hrow hxk hz
        go_wp2_with fail
        go_ret
        exact ⟨rfl, hB.trans (hBr.mono hB.size)⟩
      have hzn : Hid ((0 : Int) ∉ xs.take (k + 1)) := Lib.hid (by
        rw [List.take_add_one, hxk]
        intro h
        rcases List.mem_append.1 h with h | h
        · exact hz.out h
        · simp at h; exact hx0 h.symm)
      have hsn : pcells (held P q (xs.take (k + 1))) = pcells (held P q (xs.take k)) ++ [.int .u64 x, .int .u64 (pev P q x)] := by rw [held_next hxk]; exact pcells_snoc _ (x, pev P q x)
      have hSN := Lib.hid hsn
      have hev := eval_any P x hp hxb A c q hq (by omega) wr.drew (sq.next hBr).drew
      have hdr : Below wr.heap.size wr wr.drew := (Below.refl _ wr).drew
      have hfar : ∀ v, wr.ownsRow w5.heap.size 34 2 v k (pcells (held P q (xs.take k))) → some b ≠ v.ownBlock := fun v h e => by have := (World.ownsRow.lt h b e.symm).1; omega
      have hfarq : ∀ v, wr.ownsRow w5.heap.size 34 2 v k (pcells (held P q (xs.take k))) → ∀ z, z < w5.heap.size → some z ≠ v.ownBlock := fun v h z hz e => by have := (World.ownsRow.lt h z e.symm).1; omega
      have hBase := Nat.le_refl w5.heap.size
      have hsz3 := hBr.size
      clear hxk hsn hcx0
      generalize pev P q x = y at *
      go_wp2_with fail
      go_region_held3 (fun w' => w'.cell? ⟨b, off + k, none⟩ = some (.int .u64 x) ∧ w'.cell? ⟨w.heap.size, 0, none⟩ = some (.int .u64 P) ∧ w'.cell? ⟨w.heap.size, 1, none⟩ = some (.slice A q.length c) ∧ w'.cell? ⟨w.heap.size, 2, none⟩ = some (.slice (some ⟨b, off, none⟩) xs.length cb))
        (first | (refine ⟨?_, ?_, ?_, ?_⟩ <;> assumption))
        (first
          | (go_at_call 18; (with_reducible refine hev.mono ?_); rintro e w6 ⟨rfl, hb6⟩; have hB6 := hdr.trans (hb6.mono hdr.size); have own6 := own_belowN hrow hB6; have hbl6 : b < w6.heap.size := Nat.lt_of_lt_of_le hblr hB6.size; have cx6 := (hB6.cell (p := ⟨b, off + k, none⟩) hblr).trans hcx; have cx6' := ((bnew (Below.refl w6.heap.size w6) (.cells #[.int .u64 x, .int .u64 y] 34) (Nat.le_refl _)).cell (p := ⟨b, off + k, none⟩) hbl6).trans cx6; have hsz6 := hB6.size; have c6k00 := (hB6.cell (p := ⟨w.heap.size, 0, none⟩) jhq0).trans jk00; have d6k00 := ((bnew (Below.refl w6.heap.size w6) (.cells #[.int .u64 x, .int .u64 y] 34) (Nat.le_refl _)).cell (p := ⟨w.heap.size, 0, none⟩) (Nat.lt_of_lt_of_le jhq0 hB6.size)).trans c6k00; have c6k01 := (hB6.cell (p := ⟨w.heap.size, 1, none⟩) jhq0).trans jk01; have d6k01 := ((bnew (Below.refl w6.heap.size w6) (.cells #[.int .u64 x, .int .u64 y] 34) (Nat.le_refl _)).cell (p := ⟨w.heap.size, 1, none⟩) (Nat.lt_of_lt_of_le jhq0 hB6.size)).trans c6k01; have c6k02 := (hB6.cell (p := ⟨w.heap.size, 2, none⟩) jhq0).trans jk02; have d6k02 := ((bnew (Below.refl w6.heap.size w6) (.cells #[.int .u64 x, .int .u64 y] 34) (Nat.le_refl _)).cell (p := ⟨w.heap.size, 2, none⟩) (Nat.lt_of_lt_of_le jhq0 hB6.size)).trans c6k02; clear hb6 hev)
          | (refine step_append_lies _ (by rfl) _ _ _ (by rfl) w5.heap.size 34 i0 _ 2 16 Try.underlying31 hi hz0 hz1 hz2 rfl (by omega) _ k _ (by rfl) (own6.alloc _) ⟨w6.heap.size, 0, none⟩ 1 1 [.int .u64 x, .int .u64 y] (by rfl) (by rfl) (World.news_of_block (cs := #[.int .u64 x, .int .u64 y]) (t := 34) (fr := (0, 0)) (World.alloc_heap_new w6 _)) (by simp [Value.oneCell']) (by omega) (by simp only [maxLen]; omega) (by omega) (by simp; omega) (w6.heap.size + 1) (by simp) ?_; intro gg cap w7 hown7 hgrow hat hlt7; have cx7 := hgrow.cell cx6' (hfar _ hrow); have e7k00 := hgrow.cell d6k00 (hfarq _ hrow w.heap.size (Nat.lt_of_lt_of_le hq0 hBase)); have e7k01 := hgrow.cell d6k01 (hfarq _ hrow w.heap.size (Nat.lt_of_lt_of_le hq0 hBase)); have e7k02 := hgrow.cell d6k02 (hfarq _ hrow w.heap.size (Nat.lt_of_lt_of_le hq0 hBase))))
      all_goals
        have hB7 : Below w5.heap.size w5 w7 := (bnew (hBr.trans (hB6.mono hBr.size)) (.cells #[.int .u64 x, .int .u64 y] 34) (Nat.le_refl _)).grown hgrow (by simp; omega) (fun k e => (hrow.lt k e).1)
        go_wp2_with fail
        go_roundw
        case rel => exact ⟨k + 1, by omega, by simp, by rw [hSN.out]; exact hown7, hzn, hB7⟩
        case measure => simp [intOf]; omega
    · obtain rfl : k = xs.length := by omega
      rw [List.take_length] at hrow hz
      obtain ⟨A7, c7, hv, hs7⟩ := pown_form hrow
      rw [held_len] at hv
      subst hv
      have jk03 := (hBr.cell (p := ⟨w.heap.size, 3, none⟩) hq0).trans k03
      have hB8 := hB.trans (hBr.mono hB.size)
      obtain ⟨t, ht⟩ : ∃ t, q.length = t + 1 := ⟨q.length - 1, by omega⟩
      have htI : ((t : Nat) : Int) = (q.length : Int) - 1 := by omega
      have hpx : px (held P q xs) = xs := held_px P q xs
      have hpl : (held P q xs).length = xs.length := held_len P q xs
      have hpy : El P (py (held P q xs)) := by rw [held_py]; exact vals_el (by omega) q xs
      have hsh : Shr (held P q xs) := by unfold Shr; rw [hpx]; exact List.nodup_cons.2 ⟨hz.out, hND.out⟩
      have hfit := fit_any P s hp hs A7 c7 t (held P q xs) (by rw [hpx]; exact hx) hpy (.inl (by omega)) (by omega) (by omega) hsh wr hs7
      have hXl := fit_len hp.good hsh.nodup hsh.zero (by rw [hpx]; exact hx) hpy (show (held P q xs).length ≤ t by omega) (by omega) hs
      have hX0 := fit_zero hp.good hsh.nodup hsh.zero (by rw [hpx]; exact hx) hpy (show (held P q xs).length ≤ t by omega) (by omega) hs
      have hXe : El P (fitS P (held P q xs) t s) := fitS_el hp.good hsh.nodup hsh.zero (by rw [hpx]; exact hx) hpy (show (held P q xs).length ≤ t by omega) (by omega) hs
      have hXa := Lib.hid (fun i (hi : i < (held P q xs).length) => fit_at hp.good hsh.nodup hsh.zero (by rw [hpx]; exact hx) hpy (show (held P q xs).length ≤ t by omega) (by omega) hs hi)
      have hHx : El P (px (held P q xs)) := by rw [hpx]; exact hx
      rw [hpl, htI, ← ht] at hfit
      rw [← ht] at hXl
      clear hpx hsh hpy hrow hz htI ht
      generalize fitS P (held P q xs) t s = X at *
      generalize hH : held P q xs = H at *
      go_wp2_with fail
      refine hfit.mono ?_
      rintro e w8 ⟨g, rfl, s8, hb⟩
      replace s8 := s8.sl
      replace hs7 := hs7.next hb
      replace jk00 := (hb.cell (p := ⟨w.heap.size, 0, none⟩) jhq0).trans jk00
      replace jk03 := (hb.cell (p := ⟨w.heap.size, 3, none⟩) jhq0).trans jk03
      replace jhq0 := Nat.lt_of_lt_of_le jhq0 hb.size
      replace hB8 := hB8.trans (hb.mono hB8.size)
      clear hb hfit jk01 jk02
      obtain ⟨b, off, y, hA, hbl, hyk, hcy⟩ := s8.at_ (k := 0) (by omega)
      have hy0 := co_at hyk
      rw [hX0] at hy0
      subst hy0
      injection hA with hA
      injection hA with hA1 hA2
      subst hA1
      subst hA2
      simp only [Nat.add_zero] at hcy
      go_wp2_with fail
      go_quiet (fail)
      obtain ⟨W9, hW9⟩ : ∃ W9, W9 = w8.drewN nq := ⟨_, rfl⟩
      have hb9 : Below w8.heap.size w8 W9 := by rw [hW9]; exact below_drewN (Below.refl _ _) nq
      rw [← hW9]
      clear hW9 hcy hyk hbl
      replace s8 := s8.next hb9
      replace hs7 := hs7.next hb9
      replace jk00 := (hb9.cell (p := ⟨w.heap.size, 0, none⟩) jhq0).trans jk00
      replace jhq0 := Nat.lt_of_lt_of_le jhq0 hb9.size
      replace hB8 := hB8.trans (hb9.mono hB8.size)
      clear hb9 jk03
      go_wp2_with fail
      go_loopw [8] (fun i wr => ∃ k : Nat, k ≤ xs.length ∧ i = .int .i64 k ∧ Below W9.heap.size W9 wr) (fun i _ => xs.length - (intOf i).toNat)
      case atStart => exact ⟨0, Nat.zero_le _, rfl, Below.refl _ _⟩
      case round =>
        obtain ⟨k, hk, rfl, hBw⟩ := hrel
        by_cases hlt : k < xs.length
        · have m00 := (hBw.cell (p := ⟨w.heap.size, 0, none⟩) jhq0).trans jk00
          have mhq := Nat.lt_of_lt_of_le jhq0 hBw.size
          obtain ⟨b2, o2, x, y, hA7, hb2, hxy, hcx, hcy⟩ := (hs7.next hBw).at_ (k := k) (by omega)
          subst hA7
          have hev0 : pev P X x = y := by have := hXa.out k (by omega); rwa [px_at hxy, py_at hxy] at this
          have hxb : 0 ≤ x ∧ x < P := by have := hHx.co (p := P) (by omega) k; rwa [px_at hxy] at this
          have hev := eval_any P x hp hxb (some ⟨g, 0, none⟩) q.length X hXe (by omega) wr.drew (s8.next hBw).drew
          rw [hev0, hXl] at hev
          have hkN : (k : Int) < xs.length := by omega
          have hdr : Below wr.heap.size wr wr.drew := (Below.refl _ wr).drew
          clear hxy hev0
          go_wp2_with fail
          go_region_held3 (fun w' => w'.cell? ⟨w.heap.size, 0, none⟩ = some (.int .u64 P) ∧ w'.cell? ⟨b2, o2 + k * 2, none⟩ = some (.int .u64 x) ∧ w'.cell? ⟨b2, o2 + k * 2 + 1, none⟩ = some (.int .u64 y))
            (refine ⟨?_, ?_, ?_⟩ <;> assumption)
            (first
              | (go_at_call 18; (with_reducible refine hev.mono ?_); rintro e w6 ⟨rfl, hb6⟩; have hB6 := hdr.trans (hb6.mono hdr.size); have c06 := (hB6.cell (p := ⟨w.heap.size, 0, none⟩) mhq).trans m00; have cx6 := (hB6.cell (p := ⟨b2, o2 + k * 2, none⟩) hb2).trans hcx; have cy6 := (hB6.cell (p := ⟨b2, o2 + k * 2 + 1, none⟩) hb2).trans hcy; clear hb6 hev))
          all_goals
            go_wp2_with fail
            go_roundw
            case rel => exact ⟨k + 1, by omega, by simp, hBw.trans (hB6.mono hBw.size)⟩
            case measure => simp [intOf]; omega
        · obtain rfl : k = xs.length := by omega
          go_wp2
          go_ret
          exact ⟨rfl, hB8.trans (hBw.mono hB8.size)⟩

theorem lifted (os : Os) (started : os.Started) (H : Type) (enc : TypeId × Value → H) :
    ReturnsInHanded {} Try.checked os 6 .any (Rows.shamirPerfectSecrecySpec.pre6 enc Try.prog Try.f6 Rows.shamirPerfectSecrecyRow.domain false) (Rows.shamirPerfectSecrecySpec.post enc Try.prog Try.f6 false true false false) := by
  refine returnsInHanded_of_change (C := Try.checked) own started (by kernel_rfl) Try.func6
    (ChangeSpec.witness6 (enc := enc) (C := Try.checked) false ⟨#[], #[.agg #[.int .u64 0, .slice none 0 0, .slice none 0 0, .int .u64 0]], []⟩ 8 (by kernel_rfl) (by kernel_rfl) (by kernel_rfl) (by kernel_rfl)) ?_
  intro W base args ds gs before hval0 hW hcnd _
  have hval : ∀ (j : Nat) t v, Try.f6.params[j]? = some t → args[j]? = some v → Value.okWide Try.prog W .any base t v := hval0
  have hW' := hW
  obtain ⟨p, q, hA0, hV, rfl, hfz, hnd⟩ := hW
  have hA : DataW.TrodAll enc Try.prog W 0 (fun _ => true) true Try.f6.params.toList args.toList ds p := hA0
  rw [Try.params6] at hA hval
  obtain ⟨v0, d0, rfl, rfl, t0⟩ := trodAll_one hA
  obtain ⟨rfl, rfl⟩ := trodVars_none hV
  clear hA0 hval0
  simp only [List.append_nil] at hW'
  have l0 : ∀ x ∈ p, x.block < W.heap.size := fun x hx => hW'.lt x (by simp [hx])
  obtain ⟨P0, A0, x0, c0, B0, y0, k0, z0, rfl, b0, e0, r0, f0, m0, g0, j0⟩ := arg_hide (hval 0 46 v0 rfl rfl) t0 l0
  refine (walk P0 A0 c0 x0 B0 k0 y0 z0 b0 e0 f0 g0 j0 W r0 m0).mono fun e W' ⟨he, hb⟩ => ?_
  subst he
  exact ⟨_, rfl, post_of_below (pa := p) (pv := []) hW' (fun _ _ _ => (trodAll_cons_mk (shut_bool Try.underlying4 _) trodAll_mk0)) (fun sp hsp => trodAll_mk1 (stay_hide t0 hb l0 sp (fun x hx => hsp x (by simp [hx])))) (fun _ _ => rfl) (by simp)
    hb (ok_one (by kernel_rfl) rfl (okWide_bool_mk Try.underlying4 _))⟩

theorem over : Rows.shamirPerfectSecrecyRow.holds Try.pinned (OpenSpec.ofChange Rows.shamirPerfectSecrecySpec) :=
  OpenClaim.holds_of_wide 6 Try.f6 rfl rfl rfl rfl rfl rfl rfl ⟨rfl, rfl, rfl, rfl, rfl⟩ rfl rfl rfl rfl rfl (by kernel_rfl) Try.func6 (by kernel_rfl)
    (of_decide_eq_true (by kernel_rfl)) (by unfold Func.isWrapper; first | (rw [if_pos (by decide +kernel)]; kernel_rfl) | (rw [if_neg (by decide +kernel)]; exact ⟨rfl, rfl⟩))
    (fun os started H enc _ => lifted os started H enc)

theorem proved : Rows.ShamirPerfectSecrecySaid := over
end Go.Proofs.Ytddbdjhgmeeakaa.shamirPerfectSecrecy
