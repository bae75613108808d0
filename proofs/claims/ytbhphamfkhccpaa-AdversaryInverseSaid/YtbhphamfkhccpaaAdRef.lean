/- bad, word, heard, told of the reference of layer 13. Nothing that lay is changed. Conditions: a supported prime, messages over its field of at most 20 words, a valid deviation. -/
import Derived.Test.YtbhphamfkhccpaaAdBc
import Derived.Test.YtbhphamfkhccpaaAGrd
namespace Go.Proofs.Ytbhphamfkhccpaa
set_option maxRecDepth 100000
open Go.RowKit PolyMath FieldMath PartyMath

set_option maxHeartbeats 1000000 in
theorem bad_any (p n t : Int) (Ac : Option Addr) (cc : Nat) (co : List Int) (vd vt : Value) (x : Int) (hl : co.length ≤ 1000) (w : World) (h : Si w Ac cc co) :
    Calls Try.prog 30 #[sv p n t (.slice Ac co.length cc) vd vt, .int .i64 x] w fun e w' => e = .returned (.bool (decide (x ∈ co))) ∧ Below w.heap.size w w' := by
  have hX1 := Lib.hid (Sx.made w p n t (.slice Ac co.length cc) vd vt)
  have hB1 := Lib.hid ((Below.refl _ w).alloc (Nat.le_refl _) (.cells #[.int .u64 p, .int .i64 n, .int .i64 t, .slice Ac co.length cc, vd, vt] 29))
  have hC1 := h.next hB1.out
  unfold sv
  go_enter Try.func30, Try.ntmps30
  go_wp2
  generalize w.alloc (.cells #[.int .u64 p, .int .i64 n, .int .i64 t, .slice Ac co.length cc, vd, vt] 29) = W1 at *
  go_loop [5] (fun i => ∃ k : Nat, k ≤ co.length ∧ i = .int .i64 k ∧ Hid (x ∉ co.take k)) (fun i => co.length - (intOf i).toNat)
  case atStart => exact ⟨0, Nat.zero_le _, rfl, Lib.hid (by simp)⟩
  case round =>
    obtain ⟨k, hk, rfl, hE⟩ := hrel
    obtain ⟨c0, c1, c2, c3, c4, c5, hlt0⟩ := id hX1.out
    by_cases hlt : k < co.length
    · obtain ⟨b, off, y, hA, hbl, hd, cx⟩ := hC1.at_ hlt
      subst hA
      have hkN : (k : Int) < co.length := by omega
      by_cases hq : y = x
      · subst hq
        have hN := Lib.hid (show y ∈ co from List.mem_of_getElem? hd)
        clear hd
        go_wp2
        go_ret
        exact ⟨by rw [decide_eq_true hN.out]; rfl, hB1.out⟩
      · have hN := Lib.hid (show x ∉ co.take (k + 1) from fun hm => by
          rw [List.take_add_one, hd] at hm
          rcases List.mem_append.1 hm with h1 | h1
          · exact hE.out h1
          · exact hq (List.mem_singleton.1 h1).symm)
        have hqb : (y == x) = false := beq_eq_false_iff_ne.2 hq
        clear hd hq
        go_wp2
        go_round
        case rel => exact ⟨k + 1, by omega, by simp, hN⟩
        case measure => simp [intOf]; omega
    · obtain rfl : k = co.length := by omega
      have hN := Lib.hid (show x ∉ co by have := hE.out; rwa [List.take_length] at this)
      go_wp2
      go_ret
      exact ⟨by rw [decide_eq_false hN.out]; rfl, hB1.out⟩
theorem corrupt_any (p n t : Int) (Ac : Option Addr) (cc : Nat) (co : List Int) (vd vt : Value) (x : Int) (hl : co.length ≤ 1000) (w : World) (h : Si w Ac cc co) :
    Calls Try.prog 18 #[sv p n t (.slice Ac co.length cc) vd vt, .int .i64 x] w fun e w' => e = .returned (.bool (decide (x ∈ co))) ∧ Below w.heap.size w w' := by
  have hB1 := (Below.refl _ w).alloc (Nat.le_refl _) (.cells #[.int .u64 p, .int .i64 n, .int .i64 t, .slice Ac co.length cc, vd, vt] 29)
  have hb := fun W h => bad_any p n t Ac cc co vd vt x hl W h
  unfold sv at hb ⊢
  go_enter Try.func18, Try.ntmps18
  go_wp2_with fail
  refine (hb _ (h.next hB1)).mono ?_; rintro e w1 ⟨rfl, hb1⟩
  go_wp2_with fail
  go_ret
  exact ⟨rfl, hB1.trans (hb1.mono hB1.size)⟩
theorem word_any (A : Option Addr) (c n : Nat) (l : List Int) (hn : l.length = n) (i : Nat) (w : World) (h : Sl w A c l) :
    Calls Try.prog 47 #[.slice A n c, .int .i64 i] w fun e w' => e = .returned (.int .u64 (co l i)) ∧ w = w' := by
  by_cases hi : i < l.length
  · obtain ⟨b, off, x, rfl, _, hx, hc⟩ := h.at_ hi
    have e2 : co l i = x := co_at hx
    have hiN : (i : Int) < n := by omega
    rw [e2]
    clear hx e2 hn
    go_enter Try.func47, Try.ntmps47
    go_wp2
    go_ret
    exact ⟨rfl, rfl⟩
  · have e2 : co l i = 0 := by unfold co; rw [List.getElem?_eq_none (by omega)]; rfl
    rw [e2]
    have hiN : (n : Int) ≤ i := by omega
    clear hn h e2
    go_enter Try.func47, Try.ntmps47
    go_wp2
    go_ret
    exact ⟨rfl, rfl⟩
/-- A call hands back a message: the slice at A itself, or one in new memory. -/
def Told (w : World) (A : Option Addr) (l : List Int) (e : Ending) (w' : World) (r : List Int) : Prop :=
  ∃ A2 c2, e = .returned (.slice A2 r.length c2) ∧ Sl w' A2 c2 r ∧ (A2 = A ∧ r = l ∨ ∀ ad, A2 = some ad → w.heap.size ≤ ad.block) ∧ Below w.heap.size w w'
theorem told_none {p : Int} {d : Dv} {l : List Int} (hl : El p l) (hk : d.kind = 3) (h0 : 0 ≤ d.at_) : told p d l 0 = l := by
  unfold told
  rw [if_neg (by omega)]
  split
  · rename_i h
    have hb := hl _ (co_mem (xs := l) (i := d.at_.toNat) (by omega))
    have : wrd p d.kind d.k (co l d.at_.toNat) 0 = co l d.at_.toNat := by
      unfold wrd
      rw [if_neg (by omega), if_neg (by omega), if_pos hk]
      unfold fadd fmul
      rw [Int.mul_zero, Int.zero_emod, Int.add_zero]
      exact Int.emod_eq_of_lt hb.1 hb.2
    rw [this, set_self (by omega)]
  · rfl
set_option maxHeartbeats 4000000 in
theorem rTold_any (p n t : Int) (hp : OkP p) (Ac : Option Addr) (cc : Nat) (cor : List Int) (vd vt : Value) (hco : cor.length ≤ 1000) (d : Dv) (N : Nat) (hd : dvB N d = true) (hk : Wd d.k) (A : Option Addr) (c : Nat) (l : List Int) (hl : Okm p l) (A' : Option Addr) (c' : Nat) (h : List Int) (hh : El p h)
    (w : World) (hc : Si w Ac cc cor) (hs : Sl w A c l) (hs' : Sl w A' c' h) :
    Calls Try.prog 31 #[sv p n t (.slice Ac cor.length cc) vd vt, dvv d, .slice A l.length c, .slice A' h.length c'] w fun e w' => Told w A l e w' (told p d l (ech cor d h)) := by
  obtain ⟨i0, hi, hz0, hz1, hz2⟩ := info_parts info_u64
  obtain ⟨rnd, frm, to, at_, kind, k, of_, src⟩ := d
  have hd' := hd
  rw [dvB_is, decide_eq_true_eq] at hd'
  obtain ⟨r0, a0, s0, f1, f2, t0, t1, k1, k2, o1, o2, o3⟩ := hd'
  obtain ⟨at_, rfl⟩ := Int.eq_ofNat_of_zero_le a0
  obtain ⟨src, rfl⟩ := Int.eq_ofNat_of_zero_le s0
  change Wd k at hk
  have hbd := hp.bd
  have hk0 : 0 ≤ k % p := Int.emod_nonneg _ (by omega)
  have hkp : k % p < p := Int.emod_lt_of_pos _ (by omega)
  have hkt : k.tmod p = k % p := Int.tmod_eq_emod_of_nonneg hk.1
  have hB1 := Lib.hid (bnew ((Below.refl _ w).alloc (Nat.le_refl _) (.cells #[.int .u64 p, .int .i64 n, .int .i64 t, .slice Ac cor.length cc, vd, vt] 29)) (.cells #[.int .i64 rnd, .int .i64 frm, .int .i64 to, .int .i64 at_, .int .i64 kind, .int .u64 k, .int .i64 of_, .int .i64 src] 41) (Nat.le_refl _))
  have hX1 := Lib.hid ((Sx.made w p n t (.slice Ac cor.length cc) vd vt).next ((Below.refl _ _).alloc (Nat.le_refl _) (.cells #[.int .i64 rnd, .int .i64 frm, .int .i64 to, .int .i64 at_, .int .i64 kind, .int .u64 k, .int .i64 of_, .int .i64 src] 41)))
  have hD1 := Dx.made (w.alloc (.cells #[.int .u64 p, .int .i64 n, .int .i64 t, .slice Ac cor.length cc, vd, vt] 29)) ⟨rnd, frm, to, (at_ : Int), kind, k, of_, (src : Int)⟩
  rw [World.size_alloc] at hD1
  dsimp only at hD1
  have hDH := Lib.hid hD1
  clear hD1
  unfold sv dvv Told
  by_cases h4 : kind = 4
  · rw [show told p ⟨rnd, frm, to, (at_ : Int), kind, k, of_, src⟩ l _ = [] from if_pos h4]
    subst h4
    go_enter Try.func31, Try.ntmps31
    go_wp2
    go_ret
    exact ⟨none, 0, rfl, Sl.nothing _, .inr (fun ad e => by cases e), hB1.out⟩
  have h4' : (kind == 4) = false := beq_eq_false_iff_ne.2 h4
  by_cases ha : (at_ : Int) < l.length
  case neg =>
    rw [show told p ⟨rnd, frm, to, (at_ : Int), kind, k, of_, src⟩ l _ = l from (if_neg h4).trans (if_neg ha)]
    have ha' : (l.length : Int) ≤ at_ := by omega
    clear h4
    go_enter Try.func31, Try.ntmps31
    go_wp2
    go_ret
    exact ⟨A, c, rfl, hs.next hB1.out, .inl (by first | rfl | exact ⟨rfl, rfl⟩), hB1.out⟩
  have haN : at_ < l.length := by omega
  obtain ⟨y, hy⟩ : ∃ y, l[at_]? = some y := ⟨_, List.getElem?_eq_getElem haN⟩
  have hyb := hl.1 y (List.mem_of_getElem? hy)
  have hco2 : co l at_ = y := co_at hy
  have hT : ∀ x, told p ⟨rnd, frm, to, (at_ : Int), kind, k, of_, (src : Int)⟩ l x = l.set at_ (wrd p kind k y x) := fun x => by
    refine (if_neg h4).trans ((if_pos ha).trans ?_)
    show l.set (at_ : Int).toNat (wrd p kind k (co l (at_ : Int).toNat) x) = _
    rw [Int.toNat_natCast, hco2]
  have hTN : kind = 3 → told p ⟨rnd, frm, to, (at_ : Int), kind, k, of_, (src : Int)⟩ l 0 = l := fun h3 => told_none hl.1 h3 (by show (0 : Int) ≤ at_; omega)
  have hlit := own_lit0 ((w.alloc (.cells #[.int .u64 p, .int .i64 n, .int .i64 t, .slice Ac cor.length cc, vd, vt] 29)).alloc (.cells #[.int .i64 rnd, .int .i64 frm, .int .i64 to, .int .i64 at_, .int .i64 kind, .int .u64 k, .int .i64 of_, .int .i64 src] 41))
  rw [World.size_alloc, World.size_alloc] at hlit
  have hs2 := Lib.hid ((hs.next hB1.out).push (.cells #[] 22))
  have hl20 := hl.2
  have hsz2 : Hid (((w.alloc (.cells #[.int .u64 p, .int .i64 n, .int .i64 t, .slice Ac cor.length cc, vd, vt] 29)).alloc (.cells #[.int .i64 rnd, .int .i64 frm, .int .i64 to, .int .i64 at_, .int .i64 kind, .int .u64 k, .int .i64 of_, .int .i64 src] 41)).heap.size = w.heap.size + 1 + 1) := Lib.hid (by rw [World.size_alloc, World.size_alloc])
  have hlen0 : 0 < l.length := by omega
  have hSet : ∀ z : Int, (l.set at_ z).length = l.length := fun z => List.length_set
  have hSetH := Lib.hid hSet
  have hYH := Lib.hid hy
  obtain ⟨hy0, hyp⟩ := hyb
  clear hSet hy hco2 hl
  have key : ∀ (v' : Value) (w3 : World), w3.ownsRow (w.heap.size + 1 + 1) 22 1 v' (0 + l.length) ((([] : List Int) ++ l).map (Value.int .u64)) → (((w.alloc (.cells #[.int .u64 p, .int .i64 n, .int .i64 t, .slice Ac cor.length cc, vd, vt] 29)).alloc (.cells #[.int .i64 rnd, .int .i64 frm, .int .i64 to, .int .i64 at_, .int .i64 kind, .int .u64 k, .int .i64 of_, .int .i64 src] 41)).alloc (.cells #[] 22)).grownBy w3 (some (w.heap.size + 1 + 1)) →
      ∃ g cb, v' = .slice (some ⟨g, 0, none⟩) l.length cb ∧ OwnAt w3 (w.heap.size + 1 + 1) g l.length cb l ∧ Below w.heap.size w w3 ∧ Sx w3 w.heap.size p n t (.slice Ac cor.length cc) vd vt ∧ Dx w3 (w.heap.size + 1) ⟨rnd, frm, to, (at_ : Int), kind, k, of_, (src : Int)⟩ := by
    intro v' w3 hown hg
    rw [Nat.zero_add, List.nil_append] at hown
    obtain ⟨g, cb, rfl, _, _⟩ := World.ownsRow.form hown hlen0
    have hb : Below ((w.alloc (.cells #[.int .u64 p, .int .i64 n, .int .i64 t, .slice Ac cor.length cc, vd, vt] 29)).alloc (.cells #[.int .i64 rnd, .int .i64 frm, .int .i64 to, .int .i64 at_, .int .i64 kind, .int .u64 k, .int .i64 of_, .int .i64 src] 41)).heap.size ((w.alloc (.cells #[.int .u64 p, .int .i64 n, .int .i64 t, .slice Ac cor.length cc, vd, vt] 29)).alloc (.cells #[.int .i64 rnd, .int .i64 frm, .int .i64 to, .int .i64 at_, .int .i64 kind, .int .u64 k, .int .i64 of_, .int .i64 src] 41)) w3 := (bnew (Below.refl _ _) (.cells #[] 22) (Nat.le_refl _)).grown hg (by simp) (fun q e => by injection e with e; rw [hsz2.out]; omega)
    exact ⟨g, cb, rfl, hown, hB1.out.trans (hb.mono (by rw [hsz2.out]; omega)), hX1.out.next hb, hDH.out.next hb⟩
  by_cases h1 : kind = 1
  · subst h1
    rw [hT, show wrd p 1 k y _ = k % p from rfl]
    clear hT hTN
    go_enter Try.func31, Try.ntmps31
    go_wp2_with (at_builtin; refine wpList_append_sl (by rfl) _ _ rfl (w.heap.size + 1 + 1) _ 0 l.length [] l rfl hlit.out A c rfl rfl hs2.out (by omega) (by simp) ?_; intro v' w3 hown hg; obtain ⟨g, cb, rfl, hO, hB3, hX3, hD3⟩ := key _ _ hown hg; clear hown hg; have hcell := hO.cell hYH.out; have hfz := hO.frozen at_; have hP := fun z => Lib.hid (hO.put at_ z); have hglt := hO.lt; have hBH := Lib.hid hB3; have hXH := Lib.hid hX3; have hOH := Lib.hid hO; obtain ⟨e0, e1, e2, e3, e4, e5, e6, e7, hlty⟩ := id hD3; dsimp only at e0 e1 e2 e3 e4 e5 e6 e7; obtain ⟨c0, c1, c2, c3, c4, c5, hltx⟩ := id hX3; have hDH4 := Lib.hid hD3; clear hB3 hX3 hO)
    go_ret
    exact ⟨some ⟨g, 0, none⟩, cb, by rw [hSetH.out]; rfl, (hP _).out.sl, .inr (fun ad e => by injection e with e; rw [← e]; show w.heap.size ≤ g; omega), hBH.out.setCell (p := ⟨g, at_, none⟩) (show w.heap.size ≤ g by omega) _⟩
  by_cases h2 : kind = 2
  · subst h2
    rw [hT, show wrd p 2 k y _ = fadd p y (k % p) from rfl]
    clear hT hTN
    go_enter Try.func31, Try.ntmps31
    go_wp2_with (at_builtin; refine wpList_append_sl (by rfl) _ _ rfl (w.heap.size + 1 + 1) _ 0 l.length [] l rfl hlit.out A c rfl rfl hs2.out (by omega) (by simp) ?_; intro v' w3 hown hg; obtain ⟨g, cb, rfl, hO, hB3, hX3, hD3⟩ := key _ _ hown hg; clear hown hg; have hcell := hO.cell hYH.out; have hfz := hO.frozen at_; have hP := fun z => Lib.hid (hO.put at_ z); have hglt := hO.lt; have hBH := Lib.hid hB3; have hXH := Lib.hid hX3; have hOH := Lib.hid hO; obtain ⟨e0, e1, e2, e3, e4, e5, e6, e7, hlty⟩ := id hD3; dsimp only at e0 e1 e2 e3 e4 e5 e6 e7; obtain ⟨c0, c1, c2, c3, c4, c5, hltx⟩ := id hX3; have hDH4 := Lib.hid hD3; clear hB3 hX3 hO)
    refine wp_region_still_tail 11 (by kernel_rfl) (by kernel_rfl) ?_
    simp only [List.take_succ_cons, List.take_zero, List.drop_succ_cons, List.drop_zero]
    change wpStill _ _ (World.drew _) (fun a' => wpList _ _ _ _ a' (World.drew _)) _ _
    repeat still_step
    still_call (still_of (rAdd_any _ _ _ hp (by omega) (by omega) (by omega) (by omega) _))
    repeat still_step
    refine wpStill_nil ?_
    go_wp2
    go_ret
    exact ⟨some ⟨g, 0, none⟩, cb, by rw [hSetH.out]; rfl, (hP _).out.drew.sl, .inr (fun ad e => by injection e with e; rw [← e]; show w.heap.size ≤ g; omega), (hBH.out.setCell (p := ⟨g, at_, none⟩) (show w.heap.size ≤ g by omega) _).drew⟩
  obtain rfl : kind = 3 := by omega
  have hof := o3 rfl
  have hbd2 := fun W hW => bad_any p n t Ac cc cor vd vt of_ hco W hW
  unfold sv at hbd2
  by_cases h3 : of_ ∈ cor
  · have he : ech cor ⟨rnd, frm, to, (at_ : Int), 3, k, of_, (src : Int)⟩ h = 0 := if_neg fun q => q.2 h3
    rw [he, hTN rfl]
    rw [decide_eq_true h3] at hbd2
    clear hT hTN he h3
    go_enter Try.func31, Try.ntmps31
    go_wp2_with (at_builtin; refine wpList_append_sl (by rfl) _ _ rfl (w.heap.size + 1 + 1) _ 0 l.length [] l rfl hlit.out A c rfl rfl hs2.out (by omega) (by simp) ?_; intro v' w3 hown hg; obtain ⟨g, cb, rfl, hO, hB3, hX3, hD3⟩ := key _ _ hown hg; clear hown hg; have hcell := hO.cell hYH.out; have hfz := hO.frozen at_; have hP := fun z => Lib.hid (hO.put at_ z); have hglt := hO.lt; have hBH := Lib.hid hB3; have hXH := Lib.hid hX3; have hOH := Lib.hid hO; obtain ⟨e0, e1, e2, e3, e4, e5, e6, e7, hlty⟩ := id hD3; dsimp only at e0 e1 e2 e3 e4 e5 e6 e7; obtain ⟨c0, c1, c2, c3, c4, c5, hltx⟩ := id hX3; have hDH4 := Lib.hid hD3; clear hB3 hX3 hO)
    refine (hbd2 _ (hc.next hBH.out)).mono ?_; rintro e w4 ⟨rfl, hb4⟩
    go_wp2_with fail
    go_ret
    exact ⟨some ⟨g, 0, none⟩, cb, rfl, hOH.out.sl.next hb4, .inr (fun ad e => by injection e with e; rw [← e]; show w.heap.size ≤ g; omega), hBH.out.trans (hb4.mono hBH.out.size)⟩
  · have he : ech cor ⟨rnd, frm, to, (at_ : Int), 3, k, of_, (src : Int)⟩ h = co h src := if_pos ⟨rfl, h3⟩
    rw [he, hT, show wrd p 3 k y (co h src) = fadd p y (fmul p (k % p) (co h src)) from rfl]
    rw [decide_eq_false h3] at hbd2
    have hw := fun W hW => word_any A' c' h.length h rfl src W hW
    have hwb := el_co (by omega : 0 < p) hh src
    have hwt : (co h src).tmod p = co h src := by rw [Int.tmod_eq_emod_of_nonneg hwb.1]; exact Int.emod_eq_of_lt hwb.1 hwb.2
    have hm := fmul_bd p (k % p) (co h src) (by omega)
    obtain ⟨hw0, hwp⟩ := hwb
    have hpz : ¬ p = 0 := by omega
    clear hT hTN he h3
    generalize co h src = z at *
    go_enter Try.func31, Try.ntmps31
    go_wp2_with (at_builtin; refine wpList_append_sl (by rfl) _ _ rfl (w.heap.size + 1 + 1) _ 0 l.length [] l rfl hlit.out A c rfl rfl hs2.out (by omega) (by simp) ?_; intro v' w3 hown hg; obtain ⟨g, cb, rfl, hO, hB3, hX3, hD3⟩ := key _ _ hown hg; clear hown hg; have hcell := hO.cell hYH.out; have hfz := hO.frozen at_; have hP := fun z => Lib.hid (hO.put at_ z); have hglt := hO.lt; have hBH := Lib.hid hB3; have hXH := Lib.hid hX3; have hOH := Lib.hid hO; obtain ⟨e0, e1, e2, e3, e4, e5, e6, e7, hlty⟩ := id hD3; dsimp only at e0 e1 e2 e3 e4 e5 e6 e7; obtain ⟨c0, c1, c2, c3, c4, c5, hltx⟩ := id hX3; have hDH4 := Lib.hid hD3; clear hB3 hX3 hO)
    refine (hbd2 _ (hc.next hBH.out)).mono ?_; rintro e w4 ⟨rfl, hb4⟩
    have hO4 : OwnAt w4 (w.heap.size + 1 + 1) g l.length cb l := own_belowN hOH.out hb4
    have hD4 := hDH4.out.next hb4
    clear hcell hfz e0 e1 e2 e3 e4 e5 e6 e7 c0 c1 c2 c3 c4 c5 hP
    have hcell := hO4.cell hYH.out
    have hfz := hO4.frozen at_
    have hP := fun z => Lib.hid (hO4.put at_ z)
    have hB4 := Lib.hid (hBH.out.trans (hb4.mono hBH.out.size))
    have hs4 := hs'.next hB4.out
    obtain ⟨e0, e1, e2, e3, e4, e5, e6, e7, hlty⟩ := id hD4
    dsimp only at e0 e1 e2 e3 e4 e5 e6 e7
    clear hO4 hD4 hb4
    go_wp2
    refine wp_region_still_tail 19 (by kernel_rfl) (by kernel_rfl) ?_
    simp only [List.take_succ_cons, List.take_zero, List.drop_succ_cons, List.drop_zero]
    change wpStill _ _ (World.drew _) (fun a' => wpList _ _ _ _ a' (World.drew _)) _ _
    repeat still_step
    still_call (still_of (hw _ (hs4.next (Below.refl _ _).drew)))
    repeat still_step
    still_call (still_of (rMul_any _ _ _ hp hk0 hkp hw0 hwp _))
    repeat still_step
    still_call (still_of (rAdd_any _ _ _ hp hy0 hyp hm.1 hm.2 _))
    repeat still_step
    refine wpStill_nil ?_
    go_wp2
    go_ret
    exact ⟨some ⟨g, 0, none⟩, cb, by rw [hSetH.out]; rfl, (hP _).out.drew.sl, .inr (fun ad e => by injection e with e; rw [← e]; show w.heap.size ≤ g; omega), (hB4.out.setCell (p := ⟨g, at_, none⟩) (show w.heap.size ≤ g by omega) _).drew⟩
end Go.Proofs.Ytbhphamfkhccpaa
