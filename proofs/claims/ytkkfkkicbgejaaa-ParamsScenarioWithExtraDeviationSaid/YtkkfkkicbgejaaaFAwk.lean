/- The examples of the document for layer 12 hold: awake returns true. Nothing that lay is changed. No conditions. -/
import Derived.Test.YtkkfkkicbgejaaaFSce
import Derived.Test.YtkkfkkicbgejaaaFVan
namespace Go.Proofs.Ytkkfkkicbgejaaa
set_option maxRecDepth 100000
open Go.RowKit PolyMath FieldMath PartyMath

theorem Si.lit (w : World) (xs : List Int) (hl : xs.length ≤ 1000) : Si (w.alloc (.cells (xs.map (Value.int .i64)).toArray 3)) (some ⟨w.heap.size, 0, none⟩) xs.length xs :=
  Si.of_own (base := w.heap.size) (n := xs.length) (World.ownsRow_lit w (xs.map (Value.int .i64)).toArray xs.length (Nat.le_refl _) (by simp only [maxLen]; omega) (by simp))
theorem Si.l1 (w : World) (x : Int) : Si (w.alloc (.cells #[.int .i64 x] 3)) (some ⟨w.heap.size, 0, none⟩) 1 [x] := Si.lit w [x] (by show (1 : Nat) ≤ 1000; omega)
theorem Si.l2 (w : World) (x y : Int) : Si (w.alloc (.cells #[.int .i64 x, .int .i64 y] 3)) (some ⟨w.heap.size, 0, none⟩) 2 [x, y] := Si.lit w [x, y] (by show (2 : Nat) ≤ 1000; omega)
theorem Si.l3 (w : World) (x y z : Int) : Si (w.alloc (.cells #[.int .i64 x, .int .i64 y, .int .i64 z] 3)) (some ⟨w.heap.size, 0, none⟩) 3 [x, y, z] := Si.lit w [x, y, z] (by show (3 : Nat) ≤ 1000; omega)

/-- One of the two scenarios of the examples, laid out. -/
def laidS (W : World) (a b : Nat) (x : Int) : World :=
  ((W.alloc (.cells #[.int .u64 x] 22)).alloc (.cells #[.slice none 0 0, .slice (some ⟨a, 0, none⟩) 1 1, .slice none 0 0, .slice none 0 0] 33)).alloc (.cells #[.int .u64 31, .int .i64 4, .int .i64 1, .slice none 0 0, .slice none 0 0, .slice (some ⟨b, 0, none⟩) 4 4] 32)
/-- The scenario in block c, its tapes in block b. -/
structure Exa (w : World) (c b : Nat) (x : Int) : Prop where
  sx : Sx w c 31 4 1 (.slice none 0 0) (.slice none 0 0) (.slice (some ⟨b, 0, none⟩) 4 4)
  ts : Sll w (some ⟨b, 0, none⟩) 4 [[], [x], [], []]
theorem Exa.next {w w' : World} {c b : Nat} {x : Int} (h : Exa w c b x) (hb : Below w.heap.size w w') : Exa w' c b x := ⟨h.sx.next hb, h.ts.next hb⟩
theorem laidS_below (W : World) (a b : Nat) (x : Int) : Below W.heap.size W (laidS W a b x) := bnew (bnew ((Below.refl _ W).alloc (Nat.le_refl _) _) _ (Nat.le_refl _)) _ (Nat.le_refl _)
theorem laidS_size (W : World) (a b : Nat) (x : Int) : (laidS W a b x).heap.size = W.heap.size + 1 + 1 + 1 := by unfold laidS; rw [World.size_alloc, World.size_alloc, World.size_alloc]
theorem laidS_exa (W : World) (x : Int) {a b c : Nat} (ha : a = W.heap.size) (hb : b = W.heap.size + 1) (hc : c = W.heap.size + 1 + 1) : Exa (laidS W a b x) c b x := by
  have h1 := Sl.l1 W x
  have h2 : Sll ((W.alloc (.cells #[.int .u64 x] 22)).alloc (.cells #[.slice none 0 0, .slice (some ⟨a, 0, none⟩) 1 1, .slice none 0 0, .slice none 0 0] 33)) (some ⟨b, 0, none⟩) 4 [[], [x], [], []] := by
    have h := World.ownsRow_lit (base := W.heap.size) (e := 33) (size := 1) (W.alloc (.cells #[.int .u64 x] 22)) #[.slice none 0 0, .slice (some ⟨a, 0, none⟩) 1 1, .slice none 0 0, .slice none 0 0] 4 (by simp) (by decide) rfl
    rw [World.size_alloc, ← hb] at h
    refine Sll.of_own h ⟨⟨none, 0, rfl, Sl.nothing _⟩, ⟨some ⟨a, 0, none⟩, 1, rfl, ?_⟩, ⟨none, 0, rfl, Sl.nothing _⟩, ⟨none, 0, rfl, Sl.nothing _⟩, trivial⟩
    rw [ha]; exact h1.push _
  refine ⟨?_, h2.push _⟩
  have h := Sx.made ((W.alloc (.cells #[.int .u64 x] 22)).alloc (.cells #[.slice none 0 0, .slice (some ⟨a, 0, none⟩) 1 1, .slice none 0 0, .slice none 0 0] 33)) 31 4 1 (.slice none 0 0) (.slice none 0 0) (.slice (some ⟨b, 0, none⟩) 4 4)
  rw [World.size_alloc, World.size_alloc, ← hc] at h
  exact h
/-- What awake has laid out. -/
structure Pre (w W : World) : Prop where
  below : Below w.heap.size w W
  bx : Bx W w.heap.size 31 4 1
  yes : Exa W (w.heap.size + 1 + 1 + 1) (w.heap.size + 1 + 1) 30
  no : Exa W (w.heap.size + 1 + 1 + 1 + 1 + 1 + 1) (w.heap.size + 1 + 1 + 1 + 1 + 1) 31
theorem Pre.next {w W W' : World} (h : Pre w W) (hb : Below W.heap.size W W') : Pre w W' := ⟨h.below.trans (hb.mono h.below.size), h.bx.next hb, h.yes.next hb, h.no.next hb⟩
theorem Pre.push {w W : World} (h : Pre w W) (o : Obj) : Pre w (W.alloc o) := h.next ((Below.refl _ W).alloc (Nat.le_refl _) o)
theorem pre (w : World) : Pre w (laidS (laidS (w.alloc (.cells #[.int .u64 31, .int .i64 4, .int .i64 1] 24)) (w.heap.size + 1) (w.heap.size + 1 + 1) 30) (w.heap.size + 1 + 1 + 1 + 1) (w.heap.size + 1 + 1 + 1 + 1 + 1) 31) := by
  have hb0 := (Below.refl w.heap.size w).alloc (Nat.le_refl _) (.cells #[.int .u64 31, .int .i64 4, .int .i64 1] 24)
  have hx0 := Bx.made w 31 4 1
  have s0 := World.size_alloc w (.cells #[.int .u64 31, .int .i64 4, .int .i64 1] 24)
  generalize w.alloc (.cells #[.int .u64 31, .int .i64 4, .int .i64 1] 24) = W1 at *
  have hb1 := laidS_below W1 (w.heap.size + 1) (w.heap.size + 1 + 1) 30
  have e1 := laidS_exa W1 30 (a := w.heap.size + 1) (b := w.heap.size + 1 + 1) (c := w.heap.size + 1 + 1 + 1) s0.symm (by omega) (by omega)
  have s1 := laidS_size W1 (w.heap.size + 1) (w.heap.size + 1 + 1) 30
  have hx1 := hx0.next hb1
  generalize laidS W1 (w.heap.size + 1) (w.heap.size + 1 + 1) 30 = W2 at *
  have hb2 := laidS_below W2 (w.heap.size + 1 + 1 + 1 + 1) (w.heap.size + 1 + 1 + 1 + 1 + 1) 31
  have e2 := laidS_exa W2 31 (a := w.heap.size + 1 + 1 + 1 + 1) (b := w.heap.size + 1 + 1 + 1 + 1 + 1) (c := w.heap.size + 1 + 1 + 1 + 1 + 1 + 1) (by omega) (by omega) (by omega)
  have hB1 := hb0.trans (hb1.mono hb0.size)
  exact ⟨hB1.trans (hb2.mono hB1.size), hx1.next hb2, e1.next hb2, e2⟩

/-- What the document's examples say. -/
theorem ex_vS1 : vS 31 4 1 = true := by decide +kernel
theorem ex_vS2 : vS 31 6 2 = false := by decide +kernel
theorem ex_vC0 : vC 31 4 1 [] = true := by decide +kernel
theorem ex_vC1 : vC 31 4 1 [3] = true := by decide +kernel
theorem ex_vC2 : vC 31 4 1 [3, 4] = false := by decide +kernel
theorem ex_ext : ext [] 4 1 = [1] := by decide +kernel
theorem ex_hon : hon [3] 4 = [1, 2, 4] := by decide +kernel
theorem ex_van : vp 31 [1] (ext [3] 4 0) = [1, 10] := by decide +kernel
theorem ex_yes : scB 31 4 1 [] [] [[], [30], [], []] = true := by decide +kernel
theorem ex_no : scB 31 4 1 [] [] [[], [31], [], []] = false := by decide +kernel
theorem ex_c0 : Coal 31 4 1 [] := by
  obtain ⟨N, T, hN, hT, h⟩ := Coal.of ex_vC0
  obtain rfl : N = 4 := by omega
  obtain rfl : T = 1 := by omega
  exact h
theorem ex_c1 : Coal 31 4 1 [3] := by
  obtain ⟨N, T, hN, hT, h⟩ := Coal.of ex_vC1
  obtain rfl : N = 4 := by omega
  obtain rfl : T = 1 := by omega
  exact h

theorem nums1 {x : Int} (h : Wi x) : Nums [x] := fun y hy => by rw [List.mem_singleton] at hy; subst hy; exact h
theorem nums2 {x y : Int} (h : Wi x) (k : Wi y) : Nums [x, y] := fun z hz => by
  simp only [List.mem_cons, List.not_mem_nil, or_false] at hz
  rcases hz with rfl | rfl
  · exact h
  · exact k
theorem wi_of {x : Int} (h : 0 ≤ x) (k : x ≤ 100) : Wi x := by unfold Wi; omega
theorem ex_coal1 (A : Option Addr) (c : Nat) (W : World) (h : Si W A c [3]) : Calls Try.prog 12 #[.agg #[.int .u64 31, .int .i64 4, .int .i64 1], .slice A 1 c] W fun e w' => e = .returned (.bool true) ∧ Below W.heap.size W w' := by
  have := coal_any 31 4 1 (wi_of (by omega) (by omega)) (wi_of (by omega) (by omega)) A c [3] (by show (1 : Nat) ≤ 1000; omega) (nums1 (wi_of (by omega) (by omega))) W h
  rw [ex_vC1] at this
  exact this
theorem ex_coal2 (A : Option Addr) (c : Nat) (W : World) (h : Si W A c [3, 4]) : Calls Try.prog 12 #[.agg #[.int .u64 31, .int .i64 4, .int .i64 1], .slice A 2 c] W fun e w' => e = .returned (.bool false) ∧ Below W.heap.size W w' := by
  have := coal_any 31 4 1 (wi_of (by omega) (by omega)) (wi_of (by omega) (by omega)) A c [3, 4] (by show (2 : Nat) ≤ 1000; omega) (nums2 (wi_of (by omega) (by omega)) (wi_of (by omega) (by omega))) W h
  rw [ex_vC2] at this
  exact this
theorem ex_ext1 (W : World) : Calls Try.prog 16 #[.agg #[.int .u64 31, .int .i64 4, .int .i64 1], .slice none 0 0] W fun e w' => ∃ A c, e = .returned (.slice A 1 c) ∧ Si w' A c [1] ∧ Below W.heap.size W w' := by
  refine Calls.mono (ext_any 31 4 1 none 0 [] ex_c0 W (Si.nothing W)) ?_
  rintro e w' ⟨v, rfl, hO, hb⟩
  rw [show ext [] 4 (1 - ([] : List Int).length) = [1] from ex_ext] at hO
  obtain ⟨A, c, rfl, hs⟩ := hO.form
  exact ⟨A, c, rfl, hs, hb⟩
theorem ex_hon1 (A : Option Addr) (c : Nat) (W : World) (h : Si W A c [3]) : Calls Try.prog 17 #[.agg #[.int .u64 31, .int .i64 4, .int .i64 1], .slice A 1 c] W fun e w' => ∃ A c, e = .returned (.slice A 3 c) ∧ Si w' A c [1, 2, 4] ∧ Below W.heap.size W w' := by
  refine Calls.mono (hon_any 31 4 1 A c [3] ex_c1 W h) ?_
  rintro e w' ⟨v, rfl, hO, hb⟩
  rw [ex_hon] at hO
  obtain ⟨A, c, rfl, hs⟩ := hO.form
  exact ⟨A, c, rfl, hs, hb⟩
theorem ex_van1 (A : Option Addr) (c : Nat) (W : World) (h : Si W A c [3]) : Calls Try.prog 22 #[.agg #[.int .u64 31, .int .i64 4, .int .i64 1], .slice A 1 c] W fun e w' => ∃ A c, e = .returned (.slice A 2 c) ∧ Sl w' A c [1, 10] ∧ Below W.heap.size W w' := by
  refine Calls.mono (van_any 31 4 1 A c [3] ex_c1 W h) ?_
  rintro e w' ⟨A', c', rfl, hs, hb⟩
  rw [show vp 31 [1] (ext [3] 4 (1 - [(3 : Int)].length)) = [1, 10] from ex_van] at hs ⊢
  exact ⟨A', c', rfl, hs, hb⟩
theorem ex_fit (x : Int) : Fit 4 1 [] [] [[], [x], [], []] where
  wn := wi_of (by omega) (by omega)
  wt := wi_of (by omega) (by omega)
  nums := fun x hx => by cases hx
  lds := Nat.zero_le _
  lts := by show (4 : Nat) ≤ 1000; omega
  lws := fun r hr => by
    simp only [List.mem_cons, List.not_mem_nil, or_false] at hr
    rcases hr with rfl | rfl | rfl | rfl
    · exact Nat.zero_le _
    · show (1 : Nat) ≤ 1000; omega
    · exact Nat.zero_le _
    · exact Nat.zero_le _
theorem ex_scen (x : Int) (r : Bool) (hr : scB 31 4 1 [] [] [[], [x], [], []] = r) (b : Nat) (W : World) (h : Sll W (some ⟨b, 0, none⟩) 4 [[], [x], [], []]) : Calls Try.prog 14 #[.agg #[.int .u64 31, .int .i64 4, .int .i64 1, .slice none 0 0, .slice none 0 0, .slice (some ⟨b, 0, none⟩) 4 4]] W fun e w' => e = .returned (.bool r) ∧ Below W.heap.size W w' := by
  have := scen_any 31 4 1 none none (some ⟨b, 0, none⟩) 0 0 4 [] [] [[], [x], [], []] (ex_fit x) (Nat.zero_le _) W ⟨Si.nothing _, Sd.nothing _, h⟩
  rw [hr] at this
  exact this

set_option maxHeartbeats 4000000 in
theorem awake_any (w : World) : Calls Try.prog 9 #[] w fun e w' => e = .returned (.bool true) ∧ Below w.heap.size w w' := by
  have hpre := pre w
  unfold laidS at hpre
  have hV1 := fun W => valid_any 31 4 1 (by decide) W
  have hV2 := fun W => valid_any 31 6 2 (by decide) W
  rw [ex_vS1] at hV1
  rw [ex_vS2] at hV2
  unfold pv at hV1 hV2
  go_enter Try.func9, Try.ntmps9
  go_wp2_with fail
  refine (hV1 _).mono ?_; rintro e w1 ⟨rfl, hb⟩
  have h1 := hpre.next hb
  clear hb hpre hV1
  go_wp2_with fail
  refine (hV2 _).mono ?_; rintro e w2 ⟨rfl, hb⟩
  have h2 := h1.next hb
  clear hb h1 hV2
  have hp2 := Lib.hid h2
  obtain ⟨c0, c1, c2, hl⟩ := h2.bx
  have hne : w.heap.size ≠ w2.heap.size := by omega
  clear h2 hl
  go_wp2_with fail
  refine (ex_coal1 _ _ _ (Si.l1 w2 3)).mono ?_; rintro e w3 ⟨rfl, hb⟩
  have h3 := (hp2.out.push _).next hb
  clear hb hp2 c0 c1 c2 hne
  have hp3 := Lib.hid h3
  obtain ⟨c0, c1, c2, hl⟩ := h3.bx
  have hne : w.heap.size ≠ w3.heap.size := by omega
  clear h3 hl
  go_wp2_with fail
  refine (ex_coal2 _ _ _ (Si.l2 w3 3 4)).mono ?_; rintro e w4 ⟨rfl, hb⟩
  have h4 := (hp3.out.push _).next hb
  clear hb hp3 c0 c1 c2 hne
  have hp4 := Lib.hid h4
  obtain ⟨c0, c1, c2, hl⟩ := h4.bx
  clear h4 hl
  go_wp2_with fail
  refine (ex_ext1 _).mono ?_; rintro e w5 ⟨A5, k5, rfl, s5, hb⟩
  have h5 := hp4.out.next hb
  clear hb hp4 c0 c1 c2
  have hp5 := Lib.hid h5
  clear h5
  go_wp2_with fail
  refine (ints_any A5 _ 1 1 k5 1 [1] [1] rfl rfl (by decide) (by decide) _ (s5.push _) (Si.l1 w5 1)).mono ?_; rintro e w6 ⟨rfl, m, rfl⟩
  have h6 := (hp5.out.push (.cells #[.int .i64 1] 3)).next (below_drewN (Below.refl _ _) m)
  clear hp5 s5
  generalize (w5.alloc (.cells #[.int .i64 1] 3)).drewN m = w6 at *
  have hp6 := Lib.hid h6
  obtain ⟨c0, c1, c2, hl⟩ := h6.bx
  have hne : w.heap.size ≠ w6.heap.size := by omega
  clear h6 hl
  rw [decide_eq_true rfl]
  go_wp2_with fail
  refine (ex_hon1 _ _ _ (Si.l1 w6 3)).mono ?_; rintro e w7 ⟨A7, k7, rfl, s7, hb⟩
  have h7 := (hp6.out.push _).next hb
  clear hb hp6 c0 c1 c2 hne
  have hp7 := Lib.hid h7
  clear h7
  go_wp2_with fail
  refine (ints_any A7 _ 3 3 k7 3 [1, 2, 4] [1, 2, 4] rfl rfl (by decide) (by decide) _ (s7.push _) (Si.l3 w7 1 2 4)).mono ?_; rintro e w8 ⟨rfl, m, rfl⟩
  have h8 := (hp7.out.push (.cells #[.int .i64 1, .int .i64 2, .int .i64 4] 3)).next (below_drewN (Below.refl _ _) m)
  clear hp7 s7
  generalize (w7.alloc (.cells #[.int .i64 1, .int .i64 2, .int .i64 4] 3)).drewN m = w8 at *
  have hp8 := Lib.hid h8
  obtain ⟨c0, c1, c2, hl⟩ := h8.bx
  have hne : w.heap.size ≠ w8.heap.size := by omega
  clear h8 hl
  rw [decide_eq_true rfl]
  go_wp2_with fail
  refine (ex_van1 _ _ _ (Si.l1 w8 3)).mono ?_; rintro e w9 ⟨A9, k9, rfl, s9, hb⟩
  have h9 := (hp8.out.push _).next hb
  clear hb hp8 c0 c1 c2 hne
  have hp9 := Lib.hid h9
  clear h9
  go_wp2_with fail
  refine (same_is A9 _ [1, 10] k9 2 _ (s9.push _) (Sl.l2 w9 1 10) (by decide)).mono ?_; rintro e wa ⟨rfl, m, rfl⟩
  have ha := (hp9.out.push (.cells #[.int .u64 1, .int .u64 10] 22)).next (below_drewN (Below.refl _ _) m)
  clear hp9 s9
  generalize (w9.alloc (.cells #[.int .u64 1, .int .u64 10] 22)).drewN m = wa at *
  have hpa := Lib.hid ha
  obtain ⟨c0, c1, c2, c3, c4, c5, hl⟩ := ha.yes.sx
  clear ha hl
  go_wp2_with fail
  refine (ex_scen 30 true ex_yes _ _ hpa.out.yes.ts).mono ?_; rintro e wb ⟨rfl, hb⟩
  have hb' := hpa.out.next hb
  clear hb hpa c0 c1 c2 c3 c4 c5
  have hpb := Lib.hid hb'
  obtain ⟨c0, c1, c2, c3, c4, c5, hl⟩ := hb'.no.sx
  clear hb' hl
  go_wp2_with fail
  refine (ex_scen 31 false ex_no _ _ hpb.out.no.ts).mono ?_; rintro e wc ⟨rfl, hb⟩
  have hc' := hpb.out.next hb
  go_wp2_with fail
  go_ret
  exact ⟨rfl, hc'.below⟩
end Go.Proofs.Ytkkfkkicbgejaaa
