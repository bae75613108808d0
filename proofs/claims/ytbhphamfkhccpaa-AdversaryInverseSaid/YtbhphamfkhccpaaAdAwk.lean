/- The examples of the document for layer 13 hold: awake returns true. Nothing that lay is changed. No conditions. -/
import Derived.Test.YtbhphamfkhccpaaAdMay
namespace Go.Proofs.Ytbhphamfkhccpaa
set_option maxRecDepth 100000
open Go.RowKit PolyMath FieldMath PartyMath

theorem cell_of {w : World} {b : Nat} {cs : Array Value} {t : TypeId} {fz : Nat × Nat} (h : w.heap[b]? = some (.cells cs t fz)) (i : Nat) : w.cell? ⟨b, i, none⟩ = cs[i]? := cell_of_row w b i cs t fz h
theorem Si.one (w : World) (x : Int) : Si (w.alloc (.cells #[.int .i64 x] 3)) (some ⟨w.heap.size, 0, none⟩) 1 [x] :=
  Si.of_own (base := w.heap.size) (n := 1) (World.ownsRow_lit w #[.int .i64 x] 1 (Nat.le_refl _) (by decide) rfl)

theorem info_scn : (Try.prog.info? 29).map (·.size) = some 6 := by kernel_rfl
set_option maxHeartbeats 2000000 in
theorem four_any (A : Option Addr) (n c : Nat) (w : World) :
    Calls Try.prog 21 #[.slice A n c] w fun e w' => ∃ x y, e = .returned (sv 31 4 1 (.slice (some ⟨x, 0, none⟩) 1 1) (.slice A n c) (.slice (some ⟨y, 0, none⟩) 4 4)) ∧ Si w' (some ⟨x, 0, none⟩) 1 [2] ∧ Below w.heap.size w w' := by
  have hrow := ((Below.refl _ (w.alloc (.cells #[.int .u64 31, .int .i64 4, .int .i64 1, .slice (some ⟨w.heap.size + 1, 0, none⟩) 1 1, .slice A n c, .slice (some ⟨w.heap.size + 1 + 1, 0, none⟩) 4 4] 29))).alloc (Nat.le_refl _) (.cells #[.int .i64 2] 3)).block w.heap.size (by simp)
  have hs1 := Si.one (w.alloc (.cells #[.int .u64 31, .int .i64 4, .int .i64 1, .slice (some ⟨w.heap.size + 1, 0, none⟩) 1 1, .slice A n c, .slice (some ⟨w.heap.size + 1 + 1, 0, none⟩) 4 4] 29)) 2
  rw [World.size_alloc] at hs1
  have hrowH := Lib.hid (hrow.trans (heap_alloc_new w _))
  have hsH := Lib.hid hs1
  clear hrow hs1
  go_enter Try.func21, Try.ntmps21
  go_wp2
  refine bodyPost_ret (v := sv 31 4 1 (.slice (some ⟨w.heap.size + 1, 0, none⟩) 1 1) (.slice A n c) (.slice (some ⟨w.heap.size + 1 + 1, 0, none⟩) 4 4)) ?_ rfl ⟨_, _, rfl, hsH.out.push _, bnew (bnew ((Below.refl _ w).alloc (Nat.le_refl _) _) _ (Nat.le_refl _)) _ (Nat.le_refl _)⟩
  exact results_cell_row (h := rfl) (g := w.heap.size) (t := 29) (cs := #[.int .u64 31, .int .i64 4, .int .i64 1, .slice (some ⟨w.heap.size + 1, 0, none⟩) 1 1, .slice A n c, .slice (some ⟨w.heap.size + 1 + 1, 0, none⟩) 4 4]) (fr := (0, 0)) (d := _) (hp := rfl) (hg := (Below.heap_alloc _ _ _ (by simp; omega)).trans hrowH.out) (hu := Try.underlying29) (hd := rfl) (hi := info_scn) _ _

/-- Four messages laid out: one word, two words, none, one word. -/
def lay4 (W : World) (a x y d : Int) : World :=
  (((W.alloc (.cells #[.int .u64 a] 22)).alloc (.cells #[.int .u64 x, .int .u64 y] 22)).alloc (.cells #[.int .u64 d] 22)).alloc (.cells #[.slice (some ⟨W.heap.size, 0, none⟩) 1 1, .slice (some ⟨W.heap.size + 1, 0, none⟩) 2 2, .slice none 0 0, .slice (some ⟨W.heap.size + 1 + 1, 0, none⟩) 1 1] 42)
def f4 (a x y d : Int) : Nat → List Int := rAt [[a], [x, y], [], [d]]
theorem lay4_below (W : World) (a x y d : Int) : Below W.heap.size W (lay4 W a x y d) := bnew (bnew (bnew ((Below.refl _ W).alloc (Nat.le_refl _) _) _ (Nat.le_refl _)) _ (Nat.le_refl _)) _ (Nat.le_refl _)
theorem lay4_sf (W : World) (a x y d : Int) : Sf (lay4 W a x y d) (some ⟨W.heap.size + 1 + 1 + 1, 0, none⟩) 4 4 (f4 a x y d) := by
  have h0 := ((Sl.l1 W a).push (.cells #[.int .u64 x, .int .u64 y] 22)).push (.cells #[.int .u64 d] 22)
  have h1 := (Sl.l2 (W.alloc (.cells #[.int .u64 a] 22)) x y).push (.cells #[.int .u64 d] 22)
  have h3 := Sl.l1 ((W.alloc (.cells #[.int .u64 a] 22)).alloc (.cells #[.int .u64 x, .int .u64 y] 22)) d
  have hr := World.ownsRow_lit (base := W.heap.size) (e := 42) (size := 1) (((W.alloc (.cells #[.int .u64 a] 22)).alloc (.cells #[.int .u64 x, .int .u64 y] 22)).alloc (.cells #[.int .u64 d] 22)) #[.slice (some ⟨W.heap.size, 0, none⟩) 1 1, .slice (some ⟨W.heap.size + 1, 0, none⟩) 2 2, .slice none 0 0, .slice (some ⟨W.heap.size + 1 + 1, 0, none⟩) 1 1] 4 (by simp only [World.size_alloc]; omega) (by decide) rfl
  simp only [World.size_alloc] at h0 h1 h3 hr
  refine ⟨Nat.le_refl _, fun _ => ⟨W.heap.size + 1 + 1 + 1, 0, rfl, by unfold lay4; simp only [World.size_alloc]; omega, fun j hj => ?_⟩⟩
  have hc := World.ownsRow.cellAt hr j (by omega)
  rw [Nat.zero_add]
  match j, hj with
  | 0, _ => exact ⟨_, _, hc, h0.push _⟩
  | 1, _ => exact ⟨_, _, hc, h1.push _⟩
  | 2, _ => exact ⟨none, 0, hc, Sl.nothing _⟩
  | 3, _ => exact ⟨_, _, hc, h3.push _⟩
theorem fin1_of {p : Int} {rows : List (List Int)} (h : ∀ r ∈ rows, Okm p r) : Fin1 p (rAt rows) := fun i => by
  unfold rAt
  cases e : rows[i]? with
  | none => exact ⟨(fun z hz => by cases hz), Nat.zero_le _⟩
  | some r => exact h r (List.mem_of_getElem? e)
theorem ex_fin : Fin1 31 (f4 7 5 6 1) := fin1_of fun r hr => by
  simp only [List.mem_cons, List.not_mem_nil, or_false] at hr
  rcases hr with rfl | rfl | rfl | rfl <;> refine ⟨fun z hz => ?_, by decide⟩ <;> simp only [List.mem_cons, List.not_mem_nil, or_false] at hz <;> omega
theorem ex_co : Coal 31 4 1 [2] := by
  obtain ⟨N, T, hN, hT, h⟩ := Coal.of (show vC 31 4 1 [2] = true by decide +kernel)
  obtain rfl : N = 4 := by omega
  obtain rfl : T = 1 := by omega
  exact h
theorem ex_ok (d : Dv) (hd : dvB 4 d = true) (hk : Wd d.k) : Ok13 31 4 1 [2] [d] where
  coal := ex_co
  dv := fun x hx => by rw [List.mem_singleton] at hx; subst hx; exact hd
  wk := fun x hx => by rw [List.mem_singleton] at hx; subst hx; exact hk
  len := by show (1 : Nat) ≤ 40; omega
def exA : Dv := ⟨0, 2, 0, 1, 2, 30, 1, 0⟩
def exB : Dv := ⟨0, 2, 0, 0, 3, 2, 1, 0⟩
def exC : Dv := ⟨0, 3, 0, 0, 4, 0, 1, 0⟩
theorem ex_a : ∀ i, i < 4 → bcF 31 [2] 0 [exA] (f4 7 5 6 1) i = f4 7 5 5 1 i := fun i hi => by
  match i, hi with
  | 0, _ => decide +kernel
  | 1, _ => decide +kernel
  | 2, _ => decide +kernel
  | 3, _ => decide +kernel
theorem ex_b : ∀ i, i < 4 → bcF 31 [2] 0 [exB] (f4 7 5 6 1) i = f4 7 19 6 1 i := fun i hi => by
  match i, hi with
  | 0, _ => decide +kernel
  | 1, _ => decide +kernel
  | 2, _ => decide +kernel
  | 3, _ => decide +kernel
theorem ex_c : ∀ i, i < 4 → bcF 31 [2] 0 [exC] (f4 7 5 6 1) i = f4 7 5 6 1 i := fun i hi => by
  match i, hi with
  | 0, _ => decide +kernel
  | 1, _ => decide +kernel
  | 2, _ => decide +kernel
  | 3, _ => decide +kernel
theorem bc_short {p : Int} (hp : 0 < p) {cor : List Int} {r : Int} {ds : List Dv} {f : Nat → List Int} (hf : Fin1 p f) : ∀ i, (bcF p cor r ds f i).length ≤ 20 := fun i => (fB_ok hp cor f (ds.filter (eff cor r)) hf i).2
theorem ms_short {p : Int} (hp : 0 < p) {cor : List Int} {N : Nat} {r : Int} {ds : List Dv} {f : Nat → Nat → List Int} (hf : Fin2 p f) : ∀ i j, (msF p cor N r ds f i j).length ≤ 20 := fun i j => (fM_ok hp cor N f (ds.filter (eff cor r)) hf i j).2
theorem Sd.one (w : World) (d : Dv) : Sd (w.alloc (.cells #[.int .i64 d.rnd, .int .i64 d.frm, .int .i64 d.to, .int .i64 d.at_, .int .i64 d.kind, .int .u64 d.k, .int .i64 d.of_, .int .i64 d.src] 41)) (some ⟨w.heap.size, 0, none⟩) 1 [d] := OD.sd (OD.one w d (B := 0) (Nat.zero_le _))
/-- One of the examples' calls. -/
theorem ex_call (d : Dv) (hd : dvB 4 d = true) (hk : Wd d.k) (Ac Ad At A : Option Addr) (c : Nat) (w : World) (hc : Si w Ac 1 [2]) (hs : Sd w Ad 1 [d]) (hm : Sf w A c 4 (f4 7 5 6 1)) :
    Calls Try.prog 16 #[.agg #[.int .u64 31, .int .i64 4, .int .i64 1, .slice Ac 1 1, .slice Ad 1 1, .slice At 4 4], .int .i64 0, .slice A 4 c] w fun e w' => ∃ A' c', e = .returned (.slice A' 4 c') ∧ Sf w' A' c' 4 (bcF 31 [2] 0 [d] (f4 7 5 6 1)) ∧ Below w.heap.size w w' :=
  bc_any 31 4 1 Ac Ad 1 1 [2] [d] (.slice At 4 4) 0 (ex_ok d hd hk) A c (f4 7 5 6 1) ex_fin w hc hs hm

set_option maxHeartbeats 8000000 in
theorem awake_any (w : World) : Calls Try.prog 11 #[] w fun e w' => e = .returned (.bool true) ∧ Below w.heap.size w w' := by
  have hm0 := lay4_sf w 7 5 6 1
  have hB0 := lay4_below w 7 5 6 1
  have hs0 : (lay4 w 7 5 6 1).heap.size = w.heap.size + 1 + 1 + 1 + 1 := by unfold lay4; simp only [World.size_alloc]
  unfold lay4 at hm0 hB0 hs0
  go_enter Try.func11, Try.ntmps11
  go_wp2_with fail
  generalize (((w.alloc (.cells #[.int .u64 7] 22)).alloc (.cells #[.int .u64 5, .int .u64 6] 22)).alloc (.cells #[.int .u64 1] 22)).alloc (.cells #[.slice (some ⟨w.heap.size, 0, none⟩) 1 1, .slice (some ⟨w.heap.size + 1, 0, none⟩) 2 2, .slice none 0 0, .slice (some ⟨w.heap.size + 1 + 1, 0, none⟩) 1 1] 42) = W0 at *
  rw [← hs0]
  have hM0 := Lib.hid hm0
  have hBB0 := Lib.hid hB0
  clear hm0 hB0 hs0
  have hd0 := Lib.hid ((Below.refl W0.heap.size W0).alloc (Nat.le_refl _) (.cells #[.int .i64 0, .int .i64 2, .int .i64 0, .int .i64 1, .int .i64 2, .int .u64 30, .int .i64 1, .int .i64 0] 41))
  have hsd0 := Lib.hid (Sd.one W0 exA)
  refine (four_any _ _ _ _).mono ?_; rintro e v0 ⟨x, y, rfl, hsi, hb⟩
  unfold sv
  go_wp2_with fail
  have hw0 := hd0.out.trans (hb.mono hd0.out.size)
  refine (ex_call exA (by decide +kernel) (by unfold Wd; decide) _ _ _ _ _ _ hsi (Sd.next hsd0.out hb) (hM0.out.next hw0)).mono ?_; rintro e W1 ⟨Aa, ca, rfl, hRa, hb2⟩
  have hw := hw0.trans (hb2.mono hw0.size)
  have hM1 := Lib.hid (hM0.out.next hw)
  have hBB1 := Lib.hid (hBB0.out.trans (hw.mono hBB0.out.size))
  replace hRa := Lib.hid hRa
  clear hd0 hsd0 hsi hb hb2 hw hw0 hM0 hBB0
  go_wp2_with fail
  have hd1 := Lib.hid ((Below.refl W1.heap.size W1).alloc (Nat.le_refl _) (.cells #[.int .i64 0, .int .i64 2, .int .i64 0, .int .i64 0, .int .i64 3, .int .u64 2, .int .i64 1, .int .i64 0] 41))
  have hsd1 := Lib.hid (Sd.one W1 exB)
  refine (four_any _ _ _ _).mono ?_; rintro e v1 ⟨x, y, rfl, hsi, hb⟩
  unfold sv
  go_wp2_with fail
  have hw1 := hd1.out.trans (hb.mono hd1.out.size)
  refine (ex_call exB (by decide +kernel) (by unfold Wd; decide) _ _ _ _ _ _ hsi (Sd.next hsd1.out hb) (hM1.out.next hw1)).mono ?_; rintro e W2 ⟨Ab, cb, rfl, hRb, hb2⟩
  have hw := hw1.trans (hb2.mono hw1.size)
  have hM2 := Lib.hid (hM1.out.next hw)
  have hBB2 := Lib.hid (hBB1.out.trans (hw.mono hBB1.out.size))
  replace hRa := Lib.hid (hRa.out.next hw)
  replace hRb := Lib.hid hRb
  clear hd1 hsd1 hsi hb hb2 hw hw1 hM1 hBB1
  go_wp2_with fail
  have hd2 := Lib.hid ((Below.refl W2.heap.size W2).alloc (Nat.le_refl _) (.cells #[.int .i64 0, .int .i64 3, .int .i64 0, .int .i64 0, .int .i64 4, .int .u64 0, .int .i64 1, .int .i64 0] 41))
  have hsd2 := Lib.hid (Sd.one W2 exC)
  refine (four_any _ _ _ _).mono ?_; rintro e v2 ⟨x, y, rfl, hsi, hb⟩
  unfold sv
  go_wp2_with fail
  have hw2 := hd2.out.trans (hb.mono hd2.out.size)
  refine (ex_call exC (by decide +kernel) (by unfold Wd; decide) _ _ _ _ _ _ hsi (Sd.next hsd2.out hb) (hM2.out.next hw2)).mono ?_; rintro e W3 ⟨Ac, cc, rfl, hRc, hb2⟩
  have hw := hw2.trans (hb2.mono hw2.size)
  have hM3 := Lib.hid (hM2.out.next hw)
  have hBB3 := Lib.hid (hBB2.out.trans (hw.mono hBB2.out.size))
  replace hRa := Lib.hid (hRa.out.next hw)
  replace hRb := Lib.hid (hRb.out.next hw)
  replace hRc := Lib.hid hRc
  clear hd2 hsd2 hsi hb hb2 hw hw2 hM2 hBB2
  go_wp2_with fail
  have hl1 := lay4_sf W3 7 5 5 1
  have hb1 := lay4_below W3 7 5 5 1
  unfold lay4 at hl1 hb1
  refine (same_yes _ _ _ _ 4 _ _ (by decide) ex_a (fun i _ => bc_short (by decide) ex_fin i) _ (hRa.out.next hb1) hl1).mono ?_; rintro e W4 ⟨rfl, hb⟩
  have hw := hb1.trans (hb.mono hb1.size)
  replace hRb := Lib.hid (hRb.out.next hw)
  replace hRc := Lib.hid (hRc.out.next hw)
  have hM4 := Lib.hid (hM3.out.next hw)
  have hBB4 := Lib.hid (hBB3.out.trans (hw.mono hBB3.out.size))
  clear hl1 hb1 hb hw hM3 hBB3 hRa
  go_wp2_with fail
  have hl1 := lay4_sf W4 7 19 6 1
  have hb1 := lay4_below W4 7 19 6 1
  unfold lay4 at hl1 hb1
  refine (same_yes _ _ _ _ 4 _ _ (by decide) ex_b (fun i _ => bc_short (by decide) ex_fin i) _ (hRb.out.next hb1) hl1).mono ?_; rintro e W5 ⟨rfl, hb⟩
  have hw := hb1.trans (hb.mono hb1.size)
  replace hRc := Lib.hid (hRc.out.next hw)
  have hM5 := Lib.hid (hM4.out.next hw)
  have hBB5 := Lib.hid (hBB4.out.trans (hw.mono hBB4.out.size))
  clear hl1 hb1 hb hw hM4 hBB4 hRb
  go_wp2_with fail
  refine (same_yes _ _ _ _ 4 _ _ (by decide) ex_c (fun i _ => bc_short (by decide) ex_fin i) _ hRc.out hM5.out).mono ?_; rintro e W6 ⟨rfl, hb⟩
  go_wp2_with fail
  go_ret
  exact ⟨rfl, hBB5.out.trans (hb.mono hBB5.out.size)⟩
end Go.Proofs.Ytbhphamfkhccpaa
