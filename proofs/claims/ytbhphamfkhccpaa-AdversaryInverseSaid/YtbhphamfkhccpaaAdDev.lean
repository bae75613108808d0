/- What package adversary does with one deviation: Contains of package slices, concerns, echoed, deviated. Conditions: a supported prime, messages over its field of at most 20 words, a valid deviation. -/
import Derived.Test.YtbhphamfkhccpaaAdMem
import Derived.Deep.RegionHeld3
import Derived.BigGuard
namespace Go.Proofs.Ytbhphamfkhccpaa
set_option maxRecDepth 100000
open Go.RowKit PolyMath FieldMath PartyMath

theorem indexI_any (A : Option Addr) (c : Nat) (xs : List Int) (x : Int) (hl : xs.length ≤ 1000) (w : World) (h : Si w A c xs) :
    Calls Try.prog 53 #[.slice A xs.length c, .int .i64 x] w fun e w' => (∃ r : Int, e = .returned (.int .i64 r) ∧ decide (0 ≤ r) = decide (x ∈ xs)) ∧ w = w' := by
  go_enter Try.func53, Try.ntmps53
  go_wp2
  go_loop [8] (fun i => ∃ k : Nat, k ≤ xs.length ∧ i = .int .i64 k ∧ Hid (x ∉ xs.take k)) (fun i => xs.length - (intOf i).toNat)
  case atStart => exact ⟨0, Nat.zero_le _, rfl, Lib.hid (by simp)⟩
  case round =>
    obtain ⟨k, hk, rfl, hE⟩ := hrel
    by_cases hlt : k < xs.length
    · obtain ⟨b, off, y, hA, hbl, hd, c0⟩ := h.at_ hlt
      subst hA
      have hkN : (k : Int) < xs.length := by omega
      by_cases hq : x = y
      · subst hq
        have hN := Lib.hid (show x ∈ xs from List.mem_of_getElem? hd)
        clear hd
        go_wp2
        go_ret
        exact ⟨⟨k, rfl, by have := hN.out; simp [this]⟩, rfl⟩
      · have hN := Lib.hid (show x ∉ xs.take (k + 1) from fun hm => by
          rw [List.take_add_one, hd] at hm
          rcases List.mem_append.1 hm with h1 | h1
          · exact hE.out h1
          · exact hq (List.mem_singleton.1 h1))
        have hqb : (x == y) = false := beq_eq_false_iff_ne.2 hq
        clear hd hq
        go_wp2
        go_round
        case rel => exact ⟨k + 1, by omega, by simp, hN⟩
        case measure => simp [intOf]; omega
    · obtain rfl : k = xs.length := by omega
      have hN := Lib.hid (show x ∉ xs by have := hE.out; rwa [List.take_length] at this)
      go_wp2
      go_ret
      exact ⟨⟨-1, rfl, by have := hN.out; simp [this]⟩, rfl⟩
theorem contI_any (A : Option Addr) (c : Nat) (xs : List Int) (x : Int) (hl : xs.length ≤ 1000) (w : World) (h : Si w A c xs) :
    Calls Try.prog 41 #[.slice A xs.length c, .int .i64 x] w fun e w' => e = .returned (.bool (decide (x ∈ xs))) ∧ w = w' := by
  have hi := indexI_any A c xs x hl w h
  go_enter Try.func41, Try.ntmps41
  go_wp2_with fail
  refine hi.mono ?_; rintro e w1 ⟨⟨r, rfl, hr⟩, rfl⟩
  have hR := Lib.hid hr
  clear hr
  go_wp2_with fail
  go_ret
  exact ⟨congrArg (fun b => Ending.returned (.bool b)) hR.out, rfl⟩

set_option maxHeartbeats 1000000 in
theorem concerns_any (d : Dv) (j : Int) (w : World) :
    Calls Try.prog 28 #[dvv d, .int .i64 j] w fun e w' => e = .returned (.bool (cnc d j)) ∧ Below w.heap.size w w' := by
  obtain ⟨rnd, frm, to, at_, kind, k, of_, src⟩ := d
  unfold dvv
  by_cases h1 : j = frm
  · rw [show cnc ⟨rnd, frm, to, at_, kind, k, of_, src⟩ j = false from decide_eq_false fun h => h.1 h1]
    have h1' : (j != frm) = false := by rw [bne_eq_false_iff_eq]; exact h1
    clear h1
    go_enter Try.func28, Try.ntmps28
    go_wp2
    go_ret
    exact ⟨rfl, (Below.refl _ w).alloc (Nat.le_refl _) _⟩
  · have h1' : (j != frm) = true := bne_iff_ne.2 h1
    by_cases h2 : to = 0
    · rw [show cnc ⟨rnd, frm, to, at_, kind, k, of_, src⟩ j = true from decide_eq_true ⟨h1, .inl h2⟩]
      subst h2
      clear h1
      go_enter Try.func28, Try.ntmps28
      go_wp2
      go_ret
      exact ⟨rfl, (Below.refl _ w).alloc (Nat.le_refl _) _⟩
    · have h2' : (to == 0) = false := beq_eq_false_iff_ne.2 h2
      have e : cnc ⟨rnd, frm, to, at_, kind, k, of_, src⟩ j = (to == j) := by
        unfold cnc
        by_cases h3 : to = j
        · rw [decide_eq_true ⟨h1, .inr h3⟩]; exact (beq_iff_eq.2 h3).symm
        · rw [decide_eq_false (fun h => h.2.elim h2 h3)]; exact (beq_eq_false_iff_ne.2 h3).symm
      rw [e]
      clear h1 h2 e
      go_enter Try.func28, Try.ntmps28
      go_wp2
      go_ret
      exact ⟨rfl, (Below.refl _ w).alloc (Nat.le_refl _) _⟩

set_option maxHeartbeats 2000000 in
theorem echoed_any (p n t : Int) (Ac : Option Addr) (cc : Nat) (co : List Int) (vd vt : Value) (d : Dv) (N : Nat) (hd : dvB N d = true) (hN : N ≤ 13) (hco : co.length ≤ 1000) (A : Option Addr) (c : Nat) (f : Nat → List Int) (hf : ∀ i, (f i).length ≤ 20)
    (w : World) (hc : Si w Ac cc co) (h : Sf w A c N f) :
    Calls Try.prog 26 #[sv p n t (.slice Ac co.length cc) vd vt, dvv d, .slice A N c] w fun e w' => e = .returned (.int .u64 (eB co d f)) ∧ Below w.heap.size w w' := by
  obtain ⟨rnd, frm, to, at_, kind, k, of_, src⟩ := d
  have hd' := hd
  rw [dvB_is, decide_eq_true_eq] at hd'
  obtain ⟨r0, a0, s0, f1, f2, t0, t1, k1, k2, o1, o2, o3⟩ := hd'
  obtain ⟨src, rfl⟩ := Int.eq_ofNat_of_zero_le s0
  unfold sv dvv
  have bA := Lib.hid ((Below.refl _ w).alloc (Nat.le_refl _) (.cells #[.int .u64 p, .int .i64 n, .int .i64 t, .slice Ac co.length cc, vd, vt] 29))
  by_cases h1 : kind = 3
  case neg =>
    rw [show eB co ⟨rnd, frm, to, at_, kind, k, of_, src⟩ f = 0 from if_neg fun h => h1 h.1]
    have h1' : (kind != 3) = true := bne_iff_ne.2 h1
    clear h1
    go_enter Try.func26, Try.ntmps26
    go_wp2
    go_ret
    exact ⟨rfl, bnew bA.out _ (Nat.le_refl _)⟩
  subst h1
  have hcc := fun W h => contI_any Ac cc co of_ hco W h
  have hC1 := Lib.hid (hc.push (.cells #[.int .u64 p, .int .i64 n, .int .i64 t, .slice Ac co.length cc, vd, vt] 29))
  have hC2 := Lib.hid (hC1.out.push (.cells #[.int .i64 rnd, .int .i64 frm, .int .i64 to, .int .i64 at_, .int .i64 3, .int .u64 k, .int .i64 of_, .int .i64 src] 41))
  by_cases h2 : of_ ∈ co
  · rw [show eB co ⟨rnd, frm, to, at_, 3, k, of_, src⟩ f = 0 from if_neg fun h => h.2 h2]
    rw [decide_eq_true h2] at hcc
    clear h2
    go_enter Try.func26, Try.ntmps26
    go_wp2_with fail
    refine (hcc _ hC2.out).mono ?_; rintro e w1 ⟨rfl, rfl⟩
    go_wp2_with fail
    go_ret
    exact ⟨rfl, bnew bA.out _ (Nat.le_refl _)⟩
  rw [decide_eq_false h2] at hcc
  have hof := o3 rfl
  obtain ⟨m, rfl⟩ : ∃ m : Nat, of_ = (m : Int) + 1 := ⟨(of_ - 1).toNat, by omega⟩
  have em : ((m : Int) + 1 - 1).toNat = m := by omega
  have h12 := (h.push (.cells #[.int .u64 p, .int .i64 n, .int .i64 t, .slice Ac co.length cc, vd, vt] 29)).push (.cells #[.int .i64 rnd, .int .i64 frm, .int .i64 to, .int .i64 at_, .int .i64 3, .int .u64 k, .int .i64 ((m : Int) + 1), .int .i64 src] 41)
  obtain ⟨b, off, A', c', rfl, hb, hcell, hsl⟩ := h12.at_ (j := m) (by omega)
  have e1 : eB co ⟨rnd, frm, to, at_, 3, k, (m : Int) + 1, (src : Int)⟩ f = PolyMath.co (f m) src := by
    refine (if_pos ⟨rfl, h2⟩).trans ?_
    show PolyMath.co (f ((m : Int) + 1 - 1).toNat) (src : Int).toNat = _
    rw [em]; rfl
  rw [e1]
  have hfl := hf m
  have i0 : (N : Int) ≤ 13 := by omega
  have i2 : (m : Int) < (N : Int) := by omega
  clear h2 e1 h12 em
  generalize f m = l at *
  by_cases h3 : (src : Int) < l.length
  · obtain ⟨b2, off2, x, rfl, hb2, hx, hcell2⟩ := hsl.at_ (k := src) (by omega)
    have e2 : PolyMath.co l src = x := co_at hx
    rw [e2]
    clear hx e2
    go_enter Try.func26, Try.ntmps26
    go_wp2_with fail
    refine (hcc _ hC2.out).mono ?_; rintro e w1 ⟨rfl, rfl⟩
    go_wp2_with fail
    go_ret
    exact ⟨rfl, bnew bA.out _ (Nat.le_refl _)⟩
  · have e2 : PolyMath.co l src = 0 := by unfold PolyMath.co; rw [List.getElem?_eq_none (by omega)]; rfl
    rw [e2]
    have h3' : (l.length : Int) ≤ src := by omega
    clear e2 hsl
    go_enter Try.func26, Try.ntmps26
    go_wp2_with fail
    refine (hcc _ hC2.out).mono ?_; rintro e w1 ⟨rfl, rfl⟩
    go_wp2_with fail
    go_ret
    exact ⟨rfl, bnew bA.out _ (Nat.le_refl _)⟩
/-- A message behind a deviation, as the call hands it back: the row itself, written, or nothing. -/
def Dev (B : Nat) (w : World) (u : Value) (e : Ending) (w' : World) (r : List Int) : Prop :=
  ∃ v, e = .returned v ∧ w'.ownsRow B 22 1 v r.length (r.map (Value.int .u64)) ∧ w.grownBy w' u.ownBlock ∧ (∀ b, v.ownBlock = some b → u.ownBlock = some b)
set_option maxHeartbeats 4000000 in
theorem deviated_any (p : Int) (hp : OkP p) (d : Dv) (N : Nat) (hd : dvB N d = true) (hk : Wd d.k) (x : Int) (hx : 0 ≤ x ∧ x < p) (l : List Int) (hl : El p l) (hl20 : l.length ≤ 20) (B : Nat) (u : Value)
    (w : World) (h : w.ownsRow B 22 1 u l.length (l.map (Value.int .u64))) :
    Calls Try.prog 29 #[.int .u64 p, dvv d, u, .int .u64 x] w fun e w' => Dev B w u e w' (told p d l x) := by
  obtain ⟨rnd, frm, to, at_, kind, k, of_, src⟩ := d
  have hd' := hd
  rw [dvB_is, decide_eq_true_eq] at hd'
  obtain ⟨r0, a0, s0, f1, f2, t0, t1, k1, k2, o1, o2, o3⟩ := hd'
  obtain ⟨at_, rfl⟩ := Int.eq_ofNat_of_zero_le a0
  change Wd k at hk
  have hbd := hp.bd
  have hred := fun W => reduce_any p k hp hk.1 hk.2 W
  have hk0 : 0 ≤ k % p := Int.emod_nonneg _ (by omega)
  have hkp : k % p < p := Int.emod_lt_of_pos _ (by omega)
  obtain ⟨hx0, hxp⟩ := hx
  unfold dvv Dev
  have gA := Lib.hid (World.grownBy_alloc w (.cells #[.int .i64 rnd, .int .i64 frm, .int .i64 to, .int .i64 at_, .int .i64 kind, .int .u64 k, .int .i64 of_, .int .i64 src] 41) u.ownBlock)
  by_cases h4 : kind = 4
  · rw [show told p ⟨rnd, frm, to, (at_ : Int), kind, k, of_, src⟩ l x = [] from if_pos h4]
    subst h4
    go_enter Try.func29, Try.ntmps29
    go_wp2_with fail
    refine (hred _).mono ?_; rintro e w1 ⟨rfl, rfl⟩
    go_wp2_with fail
    go_ret
    exact ⟨_, rfl, World.ownsRow_nil _ _ _ _, gA.out, fun b e => by cases e⟩
  have h4' : (kind != 4) = true := bne_iff_ne.2 h4
  by_cases ha : (at_ : Int) < l.length
  case neg =>
    rw [show told p ⟨rnd, frm, to, (at_ : Int), kind, k, of_, src⟩ l x = l from (if_neg h4).trans (if_neg ha)]
    obtain ⟨A, c, rfl, hs⟩ := own_form h
    have h' := Lib.hid (World.ownsRow.alloc h (.cells #[.int .i64 rnd, .int .i64 frm, .int .i64 to, .int .i64 at_, .int .i64 kind, .int .u64 k, .int .i64 of_, .int .i64 src] 41))
    have ha' : (l.length : Int) ≤ at_ := by omega
    clear h hs h4
    go_enter Try.func29, Try.ntmps29
    go_wp2
    go_ret
    exact ⟨_, rfl, h'.out, gA.out, fun b e => e⟩
  have haN : at_ < l.length := by omega
  obtain ⟨g, cb, rfl, hg, hglt⟩ := World.ownsRow.form h (by omega)
  have hO : OwnAt w B g l.length cb l := h
  have hO1 := hO.push (.cells #[.int .i64 rnd, .int .i64 frm, .int .i64 to, .int .i64 at_, .int .i64 kind, .int .u64 k, .int .i64 of_, .int .i64 src] 41)
  obtain ⟨y, hy⟩ : ∃ y, l[at_]? = some y := ⟨_, List.getElem?_eq_getElem haN⟩
  have hyb := hl y (List.mem_of_getElem? hy)
  have hcell := hO1.cell hy
  have hfz := hO1.frozen at_
  have hco : co l at_ = y := co_at hy
  have hT : told p ⟨rnd, frm, to, (at_ : Int), kind, k, of_, src⟩ l x = l.set at_ (wrd p kind k y x) := by
    refine (if_neg h4).trans ((if_pos ha).trans ?_)
    show l.set (at_ : Int).toNat (wrd p kind k (co l (at_ : Int).toNat) x) = _
    rw [Int.toNat_natCast, hco]
  rw [hT]
  have hP := fun z o => Lib.hid ((hO.put at_ z).push o)
  have hG := fun z o => Lib.hid (grown_trans (hO.grow at_ z) (World.grownBy_alloc (w.setCell ⟨g, at_, none⟩ (.int .u64 z)) o (some g)))
  have hne : g ≠ w.heap.size := by omega
  have hL : ∀ z : Int, (l.set at_ z).length = l.length := fun z => List.length_set
  have hLH := Lib.hid hL
  obtain ⟨hy0, hyp⟩ := hyb
  clear h hO hO1 hy hco hT hl haN hL gA
  by_cases h1 : kind = 1
  · subst h1
    rw [show wrd p 1 k y x = k % p from rfl]
    go_enter Try.func29, Try.ntmps29
    go_wp2_with fail
    refine (hred _).mono ?_; rintro e w1 ⟨rfl, rfl⟩
    go_wp2_with fail
    go_ret
    exact ⟨_, rfl, by rw [hLH.out]; exact (hP _ _).out, (hG _ _).out, fun b e => e⟩
  by_cases h2 : kind = 2
  · subst h2
    rw [show wrd p 2 k y x = fadd p y (k % p) from rfl]
    go_enter Try.func29, Try.ntmps29
    go_wp2_with fail
    refine (hred _).mono ?_; rintro e w1 ⟨rfl, rfl⟩
    go_wp2_with fail
    refine wp_region_still_tail 11 (by kernel_rfl) (by kernel_rfl) ?_
    simp only [List.take_succ_cons, List.take_zero, List.drop_succ_cons, List.drop_zero]
    change wpStill _ _ (World.drew _) (fun a' => wpList _ _ _ _ a' (World.drew _)) _ _
    repeat still_step
    still_call (still_of (add_any _ _ _ hp (by omega) (by omega) (by omega) (by omega) _))
    repeat still_step
    refine wpStill_nil ?_
    go_wp2
    go_ret
    exact ⟨_, rfl, by rw [hLH.out]; exact ((hP _ _).out).drew, grown_drew (hG _ _).out, fun b e => e⟩
  by_cases h3 : kind = 3
  · subst h3
    rw [show wrd p 3 k y x = fadd p y (fmul p (k % p) x) from rfl]
    have hm := fmul_bd p (k % p) x (by omega)
    go_enter Try.func29, Try.ntmps29
    go_wp2_with fail
    refine (hred _).mono ?_; rintro e w1 ⟨rfl, rfl⟩
    go_wp2_with fail
    refine wp_region_still_tail 14 (by kernel_rfl) (by kernel_rfl) ?_
    simp only [List.take_succ_cons, List.take_zero, List.drop_succ_cons, List.drop_zero]
    change wpStill _ _ (World.drew _) (fun a' => wpList _ _ _ _ a' (World.drew _)) _ _
    repeat still_step
    still_call (still_of (mul_any _ _ _ hp (by omega) (by omega) (by omega) (by omega) _))
    repeat still_step
    still_call (still_of (add_any _ _ _ hp (by omega) (by omega) (by omega) (by omega) _))
    repeat still_step
    refine wpStill_nil ?_
    go_wp2
    go_ret
    exact ⟨_, rfl, by rw [hLH.out]; exact ((hP _ _).out).drew, grown_drew (hG _ _).out, fun b e => e⟩
  omega
end Go.Proofs.Ytbhphamfkhccpaa
