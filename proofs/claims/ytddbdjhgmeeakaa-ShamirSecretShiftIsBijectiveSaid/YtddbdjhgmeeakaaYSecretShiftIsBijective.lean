/- ShamirSecretShiftIsBijective: for every input the law returns true and changes nothing that lay. No conditions. -/
import Derived.Test.YtddbdjhgmeeakaaWSet
import Derived.Test.YtddbdjhgmeeakaaWOpen
import Derived.Test.YtddbdjhgmeeakaaWKey
import Derived.Test.YtddbdjhgmeeakaaMC
import Derived.Test.YtddbdjhgmeeakaaMB
import Derived.BigQuiet
namespace Go.Proofs.Ytddbdjhgmeeakaa.shamirSecretShiftIsBijective
set_option maxRecDepth 100000
open Go.ChangeShapes Go.WideShapes Go.ChangeAt Go.RowKit PolyMath FieldMath MatMath

set_option maxHeartbeats 4000000 in
theorem walk (P : Int) (A : Option Addr) (c : Nat) (q : List Int) (B : Option Addr) (cb : Nat) (xs : List Int) (s : Int) (_wP : Wd P) (ws : Wd s) (wq : Words q) (wx : Words xs) (_lq : q.length ≤ 9223372036854775807) (w : World) (sq : Sl w A c q) (sx : Sl w B cb xs) : Calls Try.prog 7 #[.agg #[.int .u64 P, .slice A q.length c, .slice B xs.length cb, .int .u64 s]] w fun e w' => e = .returned (.bool true) ∧ Below w.heap.size w w' := by
  obtain ⟨i0, hi, hz0, hz1, hz2⟩ := info_parts info_pt
  have hB := bnew (Below.refl w.heap.size w) (.cells #[.int .u64 P, .slice A q.length c, .slice B xs.length cb, .int .u64 s] 46) (by simp)
  replace sq := sq.next hB
  replace sx := sx.next hB
  have k00 : (w.alloc (.cells #[.int .u64 P, .slice A q.length c, .slice B xs.length cb, .int .u64 s] 46)).cell? ⟨w.heap.size, 0, none⟩ = some (.int .u64 P) := by go_simp
  have k01 : (w.alloc (.cells #[.int .u64 P, .slice A q.length c, .slice B xs.length cb, .int .u64 s] 46)).cell? ⟨w.heap.size, 1, none⟩ = some (.slice A q.length c) := by go_simp
  have k02 : (w.alloc (.cells #[.int .u64 P, .slice A q.length c, .slice B xs.length cb, .int .u64 s] 46)).cell? ⟨w.heap.size, 2, none⟩ = some (.slice B xs.length cb) := by go_simp
  have k03 : (w.alloc (.cells #[.int .u64 P, .slice A q.length c, .slice B xs.length cb, .int .u64 s] 46)).cell? ⟨w.heap.size, 3, none⟩ = some (.int .u64 s) := by go_simp
  have hq0 : w.heap.size < (w.alloc (.cells #[.int .u64 P, .slice A q.length c, .slice B xs.length cb, .int .u64 s] 46)).heap.size := by simp
  go_enter Try.func7, Try.ntmps7
  go_wp2_with fail
  refine (awake9 _).mono ?_
  rintro e w1 ⟨rfl, hb⟩
  replace sq := sq.next hb
  replace sx := sx.next hb
  replace k00 := (hb.cell (p := ⟨w.heap.size, 0, none⟩) hq0).trans k00
  replace k01 := (hb.cell (p := ⟨w.heap.size, 1, none⟩) hq0).trans k01
  replace k02 := (hb.cell (p := ⟨w.heap.size, 2, none⟩) hq0).trans k02
  replace k03 := (hb.cell (p := ⟨w.heap.size, 3, none⟩) hq0).trans k03
  replace hq0 := Nat.lt_of_lt_of_le hq0 hb.size
  replace hB := hB.trans (hb.mono hB.size)
  clear hb
  have g := fun W => rSupported_any P W
  go_wp2_with fail
  rcases sup_cases P with h0 | ⟨h0, hp⟩
  · rw [h0] at g
    refine (g _).mono ?_
    rintro e w2 ⟨rfl, hb⟩
    replace sq := sq.next hb
    replace sx := sx.next hb
    replace k00 := (hb.cell (p := ⟨w.heap.size, 0, none⟩) hq0).trans k00
    replace k01 := (hb.cell (p := ⟨w.heap.size, 1, none⟩) hq0).trans k01
    replace k02 := (hb.cell (p := ⟨w.heap.size, 2, none⟩) hq0).trans k02
    replace k03 := (hb.cell (p := ⟨w.heap.size, 3, none⟩) hq0).trans k03
    replace hq0 := Nat.lt_of_lt_of_le hq0 hb.size
    replace hB := hB.trans (hb.mono hB.size)
    clear hb
    go_wp2
    go_ret
    exact ⟨rfl, hB⟩
  rw [h0] at g
  refine (g _).mono ?_
  rintro e w2 ⟨rfl, hb⟩
  replace sq := sq.next hb
  replace sx := sx.next hb
  replace k00 := (hb.cell (p := ⟨w.heap.size, 0, none⟩) hq0).trans k00
  replace k01 := (hb.cell (p := ⟨w.heap.size, 1, none⟩) hq0).trans k01
  replace k02 := (hb.cell (p := ⟨w.heap.size, 2, none⟩) hq0).trans k02
  replace k03 := (hb.cell (p := ⟨w.heap.size, 3, none⟩) hq0).trans k03
  replace hq0 := Nat.lt_of_lt_of_le hq0 hb.size
  replace hB := hB.trans (hb.mono hB.size)
  clear hb
  clear g
  have hbd := hp.bd
  by_cases h2 : xs.length ≤ 9
  rotate_left
  · have h2' : 9 < (xs.length : Int) := by omega
    go_wp2
    go_ret
    exact ⟨rfl, hB⟩
  have h2' : (xs.length : Int) ≤ 9 := by omega
  have h2d0 : decide (9 < (xs.length : Int)) = false := decide_eq_false (by omega)
  have wl : IntKind.i64.wrap ((xs.length : Int) + 1) = (xs.length : Int) + 1 := IntWalk.i64_in _ (by omega)
  by_cases h3 : q.length = xs.length + 1
  rotate_left
  · have h3' : ¬ (q.length : Int) = (xs.length : Int) + 1 := by omega
    have h3b : ((q.length : Int) != (xs.length : Int) + 1) = true := bne_iff_ne.2 h3'
    go_wp2
    go_ret
    exact ⟨rfl, hB⟩
  have h3' : (q.length : Int) = (xs.length : Int) + 1 := by omega
  have h3b : ((q.length : Int) != (xs.length : Int) + 1) = false := bne_eq_false_iff_eq.2 h3'
  have h3d : decide ((q.length : Int) = (xs.length : Int) + 1) = true := decide_eq_true h3'
  have H3 := Lib.hid h3
  clear h3
  have g := fun W h => below_any P A c q W h (by omega)
  go_wp2_with fail
  by_cases h5 : ∀ x ∈ q, x < P
  rotate_left
  · rw [decide_eq_false h5] at g
    refine (g _ sq).mono ?_
    rintro e w3 ⟨rfl, rfl⟩
    go_wp2
    go_ret
    exact ⟨rfl, hB⟩
  rw [decide_eq_true h5] at g
  refine (g _ sq).mono ?_
  rintro e w3 ⟨rfl, rfl⟩
  clear g
  have g := fun W h => below_any P B cb xs W h (by omega)
  go_wp2_with fail
  by_cases h6 : ∀ y ∈ xs, y < P
  rotate_left
  · rw [decide_eq_false h6] at g
    refine (g _ sx).mono ?_
    rintro e w4 ⟨rfl, rfl⟩
    go_wp2
    go_ret
    exact ⟨rfl, hB⟩
  rw [decide_eq_true h6] at g
  refine (g _ sx).mono ?_
  rintro e w4 ⟨rfl, rfl⟩
  clear g
  have g := fun W h => unlike_b B cb xs W h (by omega) _ rfl
  go_wp2_with fail
  by_cases h7 : xs.Nodup
  rotate_left
  · rw [decide_eq_false h7] at g
    refine (g _ sx).mono ?_
    rintro e w5 ⟨rfl, hb⟩
    replace sq := sq.next hb
    replace sx := sx.next hb
    replace k00 := (hb.cell (p := ⟨w.heap.size, 0, none⟩) hq0).trans k00
    replace k01 := (hb.cell (p := ⟨w.heap.size, 1, none⟩) hq0).trans k01
    replace k02 := (hb.cell (p := ⟨w.heap.size, 2, none⟩) hq0).trans k02
    replace k03 := (hb.cell (p := ⟨w.heap.size, 3, none⟩) hq0).trans k03
    replace hq0 := Nat.lt_of_lt_of_le hq0 hb.size
    replace hB := hB.trans (hb.mono hB.size)
    clear hb
    go_wp2
    go_ret
    exact ⟨rfl, hB⟩
  rw [decide_eq_true h7] at g
  refine (g _ sx).mono ?_
  rintro e w5 ⟨rfl, hb⟩
  replace sq := sq.next hb
  replace sx := sx.next hb
  replace k00 := (hb.cell (p := ⟨w.heap.size, 0, none⟩) hq0).trans k00
  replace k01 := (hb.cell (p := ⟨w.heap.size, 1, none⟩) hq0).trans k01
  replace k02 := (hb.cell (p := ⟨w.heap.size, 2, none⟩) hq0).trans k02
  replace k03 := (hb.cell (p := ⟨w.heap.size, 3, none⟩) hq0).trans k03
  replace hq0 := Nat.lt_of_lt_of_le hq0 hb.size
  replace hB := hB.trans (hb.mono hB.size)
  clear hb
  clear g
  by_cases h8 : s < P
  rotate_left
  · have h8' : P ≤ s := by omega
    go_wp2
    go_ret
    exact ⟨rfl, hB⟩
  have h8d0 : decide (P ≤ s) = false := decide_eq_false (by omega)
  have hq := el_of wq h5
  have hx := el_of wx h6
  have hND := Lib.hid h7
  have hs : 0 ≤ s ∧ s < P := ⟨ws.1, h8⟩
  clear h7 h5 h6
  go_wp2_with fail
  go_loopw [4, 5] (fun v i wr => ∃ k : Nat, k ≤ xs.length ∧ i = .int .i64 k ∧ wr.ownsRow w5.heap.size 34 2 v k (pcells (zer (xs.take k))) ∧ Hid ((0 : Int) ∉ xs.take k) ∧ Below w5.heap.size w5 wr) (fun _ i _ => xs.length - (intOf i).toNat)
  case atStart => exact ⟨0, Nat.zero_le _, rfl, World.ownsRow_nil _ _ _ _, Lib.hid (by simp), Below.refl _ _⟩
  case round =>
    obtain ⟨k, hk, rfl, hrow, hz, hBr⟩ := hrel
    have jk00 := (hBr.cell (p := ⟨w.heap.size, 0, none⟩) hq0).trans k00
    have jk01 := (hBr.cell (p := ⟨w.heap.size, 1, none⟩) hq0).trans k01
    have jk02 := (hBr.cell (p := ⟨w.heap.size, 2, none⟩) hq0).trans k02
    have jk03 := (hBr.cell (p := ⟨w.heap.size, 3, none⟩) hq0).trans k03
    have jhq0 := Nat.lt_of_lt_of_le hq0 hBr.size
    have hsz := hBr.size
    by_cases hlt : k < xs.length
    · obtain ⟨b, off, x, hA, hbl, hxk, hcx⟩ := (sx.next hBr).at_ hlt
      subst hA
      have hkN : (k : Int) < xs.length := by omega
      by_cases hx0 : x = 0
      · subst hx0
        clear hrow hxk hz
        go_wp2_with fail
        go_ret
        exact ⟨rfl, hB.trans (hBr.mono hB.size)⟩
      have hzn : Hid ((0 : Int) ∉ xs.take (k + 1)) := Lib.hid (by
        rw [List.take_add_one, hxk]
        intro h
        rcases List.mem_append.1 h with h | h
        · exact hz.out h
        · simp at h; exact hx0 h.symm)
      have hsn : pcells (zer (xs.take (k + 1))) = pcells (zer (xs.take k)) ++ [.int .u64 x, .int .u64 0] := by rw [zer_next hxk]; exact pcells_snoc _ (x, 0)
      have hSN := Lib.hid hsn
      have hROW := Lib.hid hrow
      clear hxk hsn hrow
      go_wp2_with (at_builtin; refine wpList_append_own _ rfl _ _ 31 rfl w5.heap.size 34 i0 _ 2 16 Try.underlying31 hi hz0 hz1 hz2 rfl (by decide) _ _ _ rfl (hROW.out.alloc _) ⟨wr.heap.size, 0, none⟩ 1 1 [.int .u64 x, .int .u64 0] rfl rfl (World.news_of_block (cs := #[.int .u64 x, .int .u64 0]) (t := 34) (fr := (0, 0)) (World.alloc_heap_new wr _)) (by simp [Value.oneCell']) (by simp only [maxLen]; omega) (by omega) (by simp; omega) ?_; intro v' w7 hown7 hgrow _; have hB7 : Below w5.heap.size w5 w7 := (hBr.alloc hsz _).grown hgrow (by simp; omega) (fun k e => (World.ownsRow.lt hROW.out k e).1))
      go_roundw
      case rel => exact ⟨k + 1, by omega, by simp, by rw [hSN.out]; exact hown7, hzn, hB7⟩
      case measure => simp [intOf]; omega
    · obtain rfl : k = xs.length := by omega
      rw [List.take_length] at hrow hz
      obtain ⟨A7, c7, hv, hs7⟩ := pown_form hrow
      rw [zer_len] at hv
      subst hv
      have hB8 := hB.trans (hBr.mono hB.size)
      have sq8 := sq.next hBr
      have sx8 := sx.next hBr
      have hpx : px (zer xs) = xs := zer_px xs
      have hpl : (zer xs).length = xs.length := zer_len xs
      have hpy : El P (py (zer xs)) := zer_y (by omega) xs
      have hsh : Shr (zer xs) := by unfold Shr; rw [hpx]; exact List.nodup_cons.2 ⟨hz.out, hND.out⟩
      have hone : (0 : Int) ≤ 1 ∧ 1 < P := by omega
      have hfit := fit_any P 1 hp hone A7 c7 xs.length (zer xs) (by rw [hpx]; exact hx) hpy (.inl (by omega)) (by omega) (by omega) hsh wr hs7
      have hXl := fit_len hp.good hsh.nodup hsh.zero (by rw [hpx]; exact hx) hpy (show (zer xs).length ≤ xs.length by omega) (by omega) hone
      have hX0 := fit_zero hp.good hsh.nodup hsh.zero (by rw [hpx]; exact hx) hpy (show (zer xs).length ≤ xs.length by omega) (by omega) hone
      have hXe : El P (fitS P (zer xs) xs.length 1) := fitS_el hp.good hsh.nodup hsh.zero (by rw [hpx]; exact hx) hpy (show (zer xs).length ≤ xs.length by omega) (by omega) hone
      have hXa : Hid (∀ i x, xs[i]? = some x → pev P (fitS P (zer xs) xs.length 1) x = 0) := Lib.hid (fun i x hix => by
        have hil := (List.getElem?_eq_some_iff.1 hix).1
        have h9 := fit_at hp.good hsh.nodup hsh.zero (by rw [hpx]; exact hx) hpy (show (zer xs).length ≤ xs.length by omega) (by omega) hone (i := i) (by omega)
        rw [hpx, co_at hix, zer_py] at h9
        exact h9)
      rw [hpl] at hfit
      clear hpx hpl hsh hpy hrow hz hs7 hone
      generalize fitS P (zer xs) xs.length 1 = X at *
      have hSe := pscl_el (p := P) (by omega) s X
      have hSl := pscl_len P s X
      have hGe := padd_el (p := P) (by omega) q (pscl P s X)
      have hGl := padd_len P q (pscl P s X)
      have hGa : Hid (∀ i x, xs[i]? = some x → pev P (padd P q (pscl P s X)) x = pev P q x) := Lib.hid (fun i x hix => by
        rw [pev_padd, pev_pscl, hXa.out i x hix]
        have hb := pev_bd (p := P) (by omega) q x
        unfold fmul fadd
        rw [Int.mul_zero, Int.zero_emod, Int.add_zero]
        exact Int.emod_eq_of_lt hb.1 hb.2)
      have hGb : Hid (psub P (padd P q (pscl P s X)) (pscl P s X) = trim q) := Lib.hid (padd_psub (by omega) hq _)
      have hGz : Hid (pev P (padd P q (pscl P s X)) 0 = fadd P (co q 0) s) := Lib.hid (by
        rw [pev_padd, pev_zero (by omega) hq, pev_zero (by omega) (pscl_el (p := P) (by omega) s X)]
        congr 1
        rw [co_pscl, hX0, Int.mul_one]
        exact Int.emod_eq_of_lt hs.1 hs.2)
      clear hXa hX0
      go_wp2_with fail
      with_reducible refine hfit.mono ?_
      rintro e w8 ⟨g, rfl, s8, hb⟩
      replace s8 := s8.sl
      replace sq8 := sq8.next hb
      replace sx8 := sx8.next hb
      replace jk00 := (hb.cell (p := ⟨w.heap.size, 0, none⟩) jhq0).trans jk00
      replace jk01 := (hb.cell (p := ⟨w.heap.size, 1, none⟩) jhq0).trans jk01
      replace jk02 := (hb.cell (p := ⟨w.heap.size, 2, none⟩) jhq0).trans jk02
      replace jk03 := (hb.cell (p := ⟨w.heap.size, 3, none⟩) jhq0).trans jk03
      replace jhq0 := Nat.lt_of_lt_of_le jhq0 hb.size
      replace hB8 := hB8.trans (hb.mono hB8.size)
      clear hb hfit
      have hsc := fun W (h : Sl W (some ⟨g, 0, none⟩) (xs.length + 1) X) => scale_row P s hp hs (some ⟨g, 0, none⟩) (xs.length + 1) X hXe (by omega) W h
      rw [hXl] at hsc
      have hSl2 : (pscl P s X).length ≤ 10 := by omega
      have hGl2 : (padd P q (pscl P s X)).length ≤ 10 := by omega
      clear hSl hGl hXl hXe
      have hadd := fun W As cs (h1 : Sl W A c q) (h2 : Sl W As cs (pscl P s X)) => add_row P hp A As c cs q (pscl P s X) hq hSe (by omega) (by omega) W h1 h2
      have hdr : Below w8.heap.size w8 w8.drew := (Below.refl _ w8).drew
      unfold Row at hsc hadd
      generalize padd P q (pscl P s X) = G at *
      generalize pscl P s X = S at *
      go_wp2_with fail
      go_region_held3 (fun w' => w'.cell? ⟨w.heap.size, 0, none⟩ = some (.int .u64 P) ∧ w'.cell? ⟨w.heap.size, 1, none⟩ = some (.slice A q.length c) ∧ w'.cell? ⟨w.heap.size, 3, none⟩ = some (.int .u64 s))
        (refine ⟨?_, ?_, ?_⟩ <;> assumption)
        (first
          | (go_at_call 24; (with_reducible refine (hsc _ (s8.next hdr)).mono ?_); rintro e w9 ⟨As, cs, rfl, ss, hb⟩; have hB9 := hdr.trans (hb.mono hdr.size); have sq9 := sq8.next hB9; have c09 := (hB9.cell (p := ⟨w.heap.size, 0, none⟩) jhq0).trans jk00; have c19 := (hB9.cell (p := ⟨w.heap.size, 1, none⟩) jhq0).trans jk01; have c39 := (hB9.cell (p := ⟨w.heap.size, 3, none⟩) jhq0).trans jk03; clear hb)
          | (go_at_call 23; (with_reducible refine (hadd _ As cs sq9 ss).mono ?_); rintro e w10 ⟨Ag, cg, rfl, sg, hb⟩; have hB10 := hB9.trans (hb.mono hB9.size); have d09 := (hB10.cell (p := ⟨w.heap.size, 0, none⟩) jhq0).trans jk00; have d19 := (hB10.cell (p := ⟨w.heap.size, 1, none⟩) jhq0).trans jk01; have d39 := (hB10.cell (p := ⟨w.heap.size, 3, none⟩) jhq0).trans jk03; clear hb))
      all_goals
        replace s8 := s8.next hB10
        replace sq8 := sq8.next hB10
        replace sx8 := sx8.next hB10
        have jk12 := (hB10.cell (p := ⟨w.heap.size, 2, none⟩) jhq0).trans jk02
        replace jhq0 := Nat.lt_of_lt_of_le jhq0 hB10.size
        replace hB8 := hB8.trans (hB10.mono hB8.size)
        clear hB10 hB9 sq9 ss c09 c19 c39 jk00 jk01 jk02 jk03 hdr hadd
        go_wp2_with fail
        go_loopw [9] (fun i wr => ∃ k : Nat, k ≤ xs.length ∧ i = .int .i64 k ∧ Below w10.heap.size w10 wr) (fun i _ => xs.length - (intOf i).toNat)
        case atStart => exact ⟨0, Nat.zero_le _, rfl, Below.refl _ _⟩
        case round =>
          obtain ⟨k, hk, rfl, hBw⟩ := hrel
          have m0 := (hBw.cell (p := ⟨w.heap.size, 0, none⟩) jhq0).trans d09
          have m1 := (hBw.cell (p := ⟨w.heap.size, 1, none⟩) jhq0).trans d19
          have m2 := (hBw.cell (p := ⟨w.heap.size, 2, none⟩) jhq0).trans jk12
          have m3 := (hBw.cell (p := ⟨w.heap.size, 3, none⟩) jhq0).trans d39
          have mhq := Nat.lt_of_lt_of_le jhq0 hBw.size
          have sqw := sq8.next hBw
          have sgw := sg.next hBw
          have s8w := s8.next hBw
          have hdr : Below wr.heap.size wr wr.drew := (Below.refl _ wr).drew
          by_cases hlt : k < xs.length
          · obtain ⟨b2, o2, x, hA7, hb2, hxk, hcx⟩ := (sx8.next hBw).at_ hlt
            subst hA7
            have hxb := hx x (List.mem_of_getElem? hxk)
            have hv := hGa.out k x hxk
            have hev1 := eval_any P x hp hxb Ag cg G hGe (by omega) wr.drew sgw.drew
            rw [hv] at hev1
            have hev2 := fun W (h : Sl W A c q) => eval_any P x hp hxb A c q hq (by omega) W h
            have hkN : (k : Int) < xs.length := by omega
            clear hxk hv
            generalize pev P q x = y at *
            go_wp2_with fail
            go_region_held3 (fun w' => w'.cell? ⟨w.heap.size, 0, none⟩ = some (.int .u64 P) ∧ w'.cell? ⟨w.heap.size, 1, none⟩ = some (.slice A q.length c) ∧ w'.cell? ⟨w.heap.size, 2, none⟩ = some (.slice (some ⟨b2, o2, none⟩) xs.length cb) ∧ w'.cell? ⟨b2, o2 + k, none⟩ = some (.int .u64 x))
              (refine ⟨?_, ?_, ?_, ?_⟩ <;> assumption)
              (first
                | (go_at_call 18; (with_reducible refine hev1.mono ?_); rintro e w11 ⟨rfl, hb⟩; have hB11 := hdr.trans (hb.mono hdr.size); have sq11 := sqw.next hB11; have e0 := (hB11.cell (p := ⟨w.heap.size, 0, none⟩) mhq).trans m0; have e1 := (hB11.cell (p := ⟨w.heap.size, 1, none⟩) mhq).trans m1; have e2 := (hB11.cell (p := ⟨w.heap.size, 2, none⟩) mhq).trans m2; have e4 := (hB11.cell (p := ⟨b2, o2 + k, none⟩) hb2).trans hcx; clear hb hev1)
                | (go_at_call 18; (with_reducible refine (hev2 _ sq11).mono ?_); rintro e w12 ⟨rfl, hb⟩; have hB12 := hB11.trans (hb.mono hB11.size); have f0 := (hB12.cell (p := ⟨w.heap.size, 0, none⟩) mhq).trans m0; have f1 := (hB12.cell (p := ⟨w.heap.size, 1, none⟩) mhq).trans m1; have f2 := (hB12.cell (p := ⟨w.heap.size, 2, none⟩) mhq).trans m2; have f4 := (hB12.cell (p := ⟨b2, o2 + k, none⟩) hb2).trans hcx; clear hb))
            all_goals
              go_wp2_with fail
              go_roundw
              case rel => exact ⟨k + 1, by omega, by simp, hBw.trans (hB12.mono hBw.size)⟩
              case measure => simp [intOf]; omega
          · obtain rfl : k = xs.length := by omega
            have hsub := fun W As cs (h1 : Sl W Ag cg G) (h2 : Sl W As cs S) => sub_row P hp Ag As cg cs G S hGe hSe (by omega) (by omega) W h1 h2
            unfold Row at hsub
            rw [hGb.out] at hsub
            clear hGa
            go_wp2_with fail
            go_region_held3 (fun w' => w'.cell? ⟨w.heap.size, 0, none⟩ = some (.int .u64 P) ∧ w'.cell? ⟨w.heap.size, 1, none⟩ = some (.slice A q.length c) ∧ w'.cell? ⟨w.heap.size, 3, none⟩ = some (.int .u64 s))
              (refine ⟨?_, ?_, ?_⟩ <;> assumption)
              (first
                | (go_at_call 24; (with_reducible refine (hsc _ (s8w.next hdr)).mono ?_); rintro e w11 ⟨As, cs, rfl, ss, hb⟩; have hB11 := hdr.trans (hb.mono hdr.size); have sg11 := sgw.next hB11; have e0 := (hB11.cell (p := ⟨w.heap.size, 0, none⟩) mhq).trans m0; have e1 := (hB11.cell (p := ⟨w.heap.size, 1, none⟩) mhq).trans m1; have e3 := (hB11.cell (p := ⟨w.heap.size, 3, none⟩) mhq).trans m3; clear hb)
                | (go_at_call 25; (with_reducible refine (hsub _ As cs sg11 ss).mono ?_); rintro e w12 ⟨Ak, ck, rfl, sk, hb⟩; have hB12 := hB11.trans (hb.mono hB11.size); have f0 := (hB12.cell (p := ⟨w.heap.size, 0, none⟩) mhq).trans m0; have f1 := (hB12.cell (p := ⟨w.heap.size, 1, none⟩) mhq).trans m1; have f3 := (hB12.cell (p := ⟨w.heap.size, 3, none⟩) mhq).trans m3; clear hb))
            all_goals
              have sq12 := sqw.next hB12
              have sg12 := sgw.next hB12
              have nhq := Nat.lt_of_lt_of_le mhq hB12.size
              have hBZ := (hB8.trans (hBw.mono hB8.size)).trans (hB12.mono (hB8.trans (hBw.mono hB8.size)).size)
              clear e0 e1 e3 m0 m1 m2 m3 sg11 ss hB11 hB12 hdr hsub hsc
              have hdr : Below w12.heap.size w12 w12.drew := (Below.refl _ w12).drew
              have hql := H3.out
              obtain ⟨b3, o3, q0, hA7, hb3, hqk, hcq⟩ := sq12.at_ (k := 0) (by omega)
              subst hA7
              rw [Nat.add_zero] at hcq
              have hq0' := hq q0 (List.mem_of_getElem? hqk)
              have hco := co_at hqk
              have hev1 := eval_any P 0 hp (by omega) Ag cg G hGe (by omega) w12.drew sg12.drew
              rw [hGz.out, hco] at hev1
              have hadd := fun W => add_any P q0 s hp hq0'.1 hq0'.2 hs.1 hs.2 W
              have htr := fun W (h : Sl W (some ⟨b3, o3, none⟩) c q) => trim_any (some ⟨b3, o3, none⟩) c q W h (by omega)
              have hsm := fun W At ct (h1 : Sl W Ak ck (trim q)) (h2 : Sl W At ct (trim q)) => same_b Ak At (trim q) ck ct W h1 h2 (by rw [trim_length]; have := tn_le q; omega)
              generalize fadd P q0 s = V at *
              generalize trim q = Tq at *
              clear hqk hco hql
              go_wp2_with fail
              go_region_held3 (fun w' => w'.cell? ⟨w.heap.size, 0, none⟩ = some (.int .u64 P) ∧ w'.cell? ⟨w.heap.size, 1, none⟩ = some (.slice (some ⟨b3, o3, none⟩) q.length c) ∧ w'.cell? ⟨w.heap.size, 3, none⟩ = some (.int .u64 s) ∧ w'.cell? ⟨b3, o3, none⟩ = some (.int .u64 q0))
                (refine ⟨?_, ?_, ?_, ?_⟩ <;> assumption)
                (first
                  | (go_at_call 18; (with_reducible refine hev1.mono ?_); rintro e w13 ⟨rfl, hb⟩; have hBX := hdr.trans (hb.mono hdr.size); have sqX := sq12.next hBX; have skX := sk.next hBX; have g0 := (hBX.cell (p := ⟨w.heap.size, 0, none⟩) nhq).trans f0; have g1 := (hBX.cell (p := ⟨w.heap.size, 1, none⟩) nhq).trans f1; have g3 := (hBX.cell (p := ⟨w.heap.size, 3, none⟩) nhq).trans f3; have g4 := (hBX.cell (p := ⟨b3, o3, none⟩) hb3).trans hcq; clear hb hev1)
                  | (go_at_call 26; (with_reducible refine (hadd _).mono ?_); rintro e w' ⟨rfl, rfl⟩)
                  | (go_at_call 27; (with_reducible refine (htr _ sqX).mono ?_); rintro e w14 hfr; obtain ⟨At, ct, rfl, st, hb⟩ := hfr.row; have hBY := hBX.trans (hb.mono hBX.size); have skY := skX.next hb; have i0' := (hBY.cell (p := ⟨w.heap.size, 0, none⟩) nhq).trans f0; have i1 := (hBY.cell (p := ⟨w.heap.size, 1, none⟩) nhq).trans f1; have i3 := (hBY.cell (p := ⟨w.heap.size, 3, none⟩) nhq).trans f3; have i4 := (hBY.cell (p := ⟨b3, o3, none⟩) hb3).trans hcq; clear hb hfr)
                  | (go_at_call 14; (with_reducible refine (hsm _ At ct skY st).mono ?_); rintro e w15 ⟨rfl, hb⟩; have hBV := hBY.trans (hb.mono hBY.size); have j0' := (hBV.cell (p := ⟨w.heap.size, 0, none⟩) nhq).trans f0; have j1 := (hBV.cell (p := ⟨w.heap.size, 1, none⟩) nhq).trans f1; have j3 := (hBV.cell (p := ⟨w.heap.size, 3, none⟩) nhq).trans f3; have j4 := (hBV.cell (p := ⟨b3, o3, none⟩) hb3).trans hcq; clear hb))
              all_goals
                go_wp2_with fail
                go_ret
                exact ⟨rfl, hBZ.trans (hBV.mono hBZ.size)⟩

theorem lifted (os : Os) (started : os.Started) (H : Type) (enc : TypeId × Value → H) :
    ReturnsInHanded {} Try.checked os 7 .any (Rows.shamirSecretShiftIsBijectiveSpec.pre6 enc Try.prog Try.f7 Rows.shamirSecretShiftIsBijectiveRow.domain false) (Rows.shamirSecretShiftIsBijectiveSpec.post enc Try.prog Try.f7 false true false false) := by
  refine returnsInHanded_of_change (C := Try.checked) own started (by kernel_rfl) Try.func7
    (ChangeSpec.witness6 (enc := enc) (C := Try.checked) false ⟨#[], #[.agg #[.int .u64 0, .slice none 0 0, .slice none 0 0, .int .u64 0]], []⟩ 8 (by kernel_rfl) (by kernel_rfl) (by kernel_rfl) (by kernel_rfl)) ?_
  intro W base args ds gs before hval0 hW hcnd _
  have hval : ∀ (j : Nat) t v, Try.f7.params[j]? = some t → args[j]? = some v → Value.okWide Try.prog W .any base t v := hval0
  have hW' := hW
  obtain ⟨p, q, hA0, hV, rfl, hfz, hnd⟩ := hW
  have hA : DataW.TrodAll enc Try.prog W 0 (fun _ => true) true Try.f7.params.toList args.toList ds p := hA0
  rw [Try.params7] at hA hval
  obtain ⟨v0, d0, rfl, rfl, t0⟩ := trodAll_one hA
  obtain ⟨rfl, rfl⟩ := trodVars_none hV
  clear hA0 hval0
  simp only [List.append_nil] at hW'
  have l0 : ∀ x ∈ p, x.block < W.heap.size := fun x hx => hW'.lt x (by simp [hx])
  obtain ⟨P0, A0, x0, c0, B0, y0, k0, z0, rfl, b0, e0, r0, f0, m0, g0, j0⟩ := arg_hide (hval 0 46 v0 rfl rfl) t0 l0
  refine (walk P0 A0 c0 x0 B0 k0 y0 z0 b0 e0 f0 g0 j0 W r0 m0).mono fun e W' ⟨he, hb⟩ => ?_
  subst he
  exact ⟨_, rfl, post_of_below (pa := p) (pv := []) hW' (fun _ _ _ => (trodAll_cons_mk (shut_bool Try.underlying4 _) trodAll_mk0)) (fun sp hsp => trodAll_mk1 (stay_hide t0 hb l0 sp (fun x hx => hsp x (by simp [hx])))) (fun _ _ => rfl) (by simp)
    hb (ok_one (by kernel_rfl) rfl (okWide_bool_mk Try.underlying4 _))⟩

theorem over : Rows.shamirSecretShiftIsBijectiveRow.holds Try.pinned (OpenSpec.ofChange Rows.shamirSecretShiftIsBijectiveSpec) :=
  OpenClaim.holds_of_wide 7 Try.f7 rfl rfl rfl rfl rfl rfl rfl ⟨rfl, rfl, rfl, rfl, rfl⟩ rfl rfl rfl rfl rfl (by kernel_rfl) Try.func7 (by kernel_rfl)
    (of_decide_eq_true (by kernel_rfl)) (by unfold Func.isWrapper; first | (rw [if_pos (by decide +kernel)]; kernel_rfl) | (rw [if_neg (by decide +kernel)]; exact ⟨rfl, rfl⟩))
    (fun os started H enc _ => lifted os started H enc)

theorem proved : Rows.ShamirSecretShiftIsBijectiveSaid := over
end Go.Proofs.Ytddbdjhgmeeakaa.shamirSecretShiftIsBijective
