/- Arguments of layer 9's laws: an integer, the structs Asked, Hide, Two and Params, arrays of two slices, of two and of three words; they read behind the call as before where only new memory was made. No conditions. -/
import Derived.Test.YtddbdjhgmeeakaaMC
import Derived.Test.YtddbdjhgmeeakaaMB
import Derived.Test.YtddbdjhgmeeakaaMD
import Derived.ChangeSlices
import Derived.Carry
import Derived.OpenShut
import Derived.Deep.Matrix
namespace Go.Proofs.Ytddbdjhgmeeakaa
set_option maxRecDepth 100000
open Go.ChangeShapes Go.WideShapes Go.ChangeAt Go.RowKit Go.Joins Go.Deep Go.WideElems PolyMath MatMath

theorem cells_row : Try.prog.cellsOf 23 = 1 := by kernel_rfl
theorem cells_asked : Try.prog.cellsOf 40 = 2 := by kernel_rfl
theorem cells_hide : Try.prog.cellsOf 46 = 4 := by kernel_rfl
theorem cells_two9 : Try.prog.cellsOf 59 = 6 := by kernel_rfl
theorem cells_params : Try.prog.cellsOf 55 = 3 := by kernel_rfl
theorem cells_sharing : Try.prog.cellsOf 57 = 1 := by kernel_rfl
theorem cells_w3 : Try.prog.cellsOf 52 = 3 := by kernel_rfl
theorem cells_w2 : Try.prog.cellsOf 71 = 2 := by kernel_rfl
theorem cells_s2 : Try.prog.cellsOf 70 = 2 := by kernel_rfl
/-- An int. -/
def Wi (x : Int) : Prop := -9223372036854775808 ≤ x ∧ x ≤ 9223372036854775807
theorem bounds_i {a : Int} (h : (Lit.int .i64 a).wf = true) : Wi a := by
  have e1 : IntKind.i64.min = -9223372036854775808 := rfl
  have e2 : IntKind.i64.max = 9223372036854775807 := rfl
  simp only [Lit.wf, Bool.and_eq_true, decide_eq_true_eq] at h
  unfold Wi
  omega
theorem okWide_array {P : Program} {w : World} {r : Reach} {base n : Nat} {e t : TypeId} {v : Value} (ht : P.underlying t = some (.array n e)) (h : Value.okWide P w r base t v) : ∃ cs, v = .agg cs ∧ cs.size = P.cellsOf t := by
  simp only [Value.okWide, ht] at h
  obtain ⟨cs, h1, h2, _⟩ := h
  exact ⟨cs, h1, h2⟩
section
variable {H : Type} {enc : TypeId × Value → H}
theorem long_sl {W : World} {v : Value} {fuel : Nat} {y : DataW H × List MemPlace} {A : Option Addr} {n c : Nat} (hf : DataW.trod enc Try.prog W 0 (fun _ => true) true fuel 23 [v] = some y) (hv : v = .slice A n c) : n ≤ 9223372036854775807 := by
  rcases open_ints Try.underlying23 Try.underlying22 cells_u64 hf with ⟨hcs, hx⟩ | ⟨a, len', cap', zs, hcs, _, hl, hm, hz, hx, hcell, hwz⟩
  · injection hcs with hcs _
    rw [hv] at hcs
    injection hcs with _ h2 _
    omega
  · injection hcs with hcs _
    rw [hv] at hcs
    injection hcs with _ h2 _
    unfold maxLen at hm
    omega
theorem open_ll9 {t : TypeId} (ht : Try.prog.underlying t = some (.slice 23)) {W : World} {v : Value} {fuel : Nat} {y : DataW H × List MemPlace} (hf : DataW.trod enc Try.prog W 0 (fun _ => true) true fuel t [v] = some y) (hlt : ∀ x ∈ y.2, x.block < W.heap.size) :
    ∃ A rows c, v = .slice A rows.length c ∧ Sll W A c rows ∧ (∀ r ∈ rows, Words r) ∧ rows.length ≤ 9223372036854775807 := by
  rcases Deep.open_int_rows ht Try.underlying23 Try.underlying22 cells_row cells_u64 hf with ⟨hcs, hx⟩ | ⟨a, len', cap', A, L, C, Z, hcs, _, hl, hm, hx, hall⟩
  · injection hcs with hcs _
    subst hcs
    exact ⟨none, [], 0, rfl, Sll.nothing W, fun l hl => (by cases hl), Nat.zero_le _⟩
  · injection hcs with hcs _
    subst hcs hx
    have hlen : ∀ r, r < len' → ((Z r).take (L r)).length = L r := fun r hr => by
      obtain ⟨_, h1, _, h3, _⟩ := hall r (by omega)
      rw [List.length_take]
      omega
    refine ⟨some a, (List.range len').map fun r => (Z r).take (L r), cap', by rw [List.length_map, List.length_range], ⟨by rw [List.length_map, List.length_range]; omega, (fun h => by cases h), fun ad e hn => ?_⟩, fun l hl x hx => ?_, by rw [List.length_map, List.length_range]; simp only [maxLen] at hm; omega⟩
    · injection e with e
      subst e
      have hpos : 0 < len' := by
        rcases Nat.eq_zero_or_pos len' with h0 | h0
        · rw [h0] at hn; exact absurd rfl hn
        · exact h0
      obtain ⟨b, off, spot⟩ := a
      have hspot : spot = none := by simpa [Addr.add] using World.cell?_spot (hall 0 (by omega)).1
      subst hspot
      refine ⟨b, off, rfl, hlt (.cell b off) (List.mem_append_left _ (MemPlace.mem_row.2 ⟨0, by omega, by simp⟩)), fun j l hl => ?_⟩
      rw [List.getElem?_map] at hl
      obtain ⟨r, hr, rfl⟩ := Option.map_eq_some_iff.1 hl
      obtain ⟨hjl, rfl⟩ := List.getElem?_eq_some_iff.1 hr
      rw [List.length_range] at hjl
      simp only [List.getElem_range]
      obtain ⟨h1, h2, h3, h4, h5, h6, h7⟩ := hall j (by omega)
      refine ⟨A j, C j, by rw [hlen j hjl, ← add_plain]; exact h1, by rw [hlen j hjl]; omega, h6, fun ar hA hne => ?_⟩
      have hLp : 0 < L j := by
        rcases Nat.eq_zero_or_pos (L j) with h0 | h0
        · rw [h0, List.take_zero] at hne; exact absurd rfl hne
        · exact h0
      obtain ⟨_, hc⟩ := h7 ar hA
      obtain ⟨b2, off2, spot2⟩ := ar
      have hspot2 : spot2 = none := by simpa [Addr.add] using World.cell?_spot (hc 0 (by omega))
      subst hspot2
      refine ⟨b2, off2, rfl, ?_, fun i x hx => ?_⟩
      · refine hlt (.cell b2 off2) (List.mem_append_right _ (List.mem_flatMap.2 ⟨j, List.mem_range.2 (by omega), ?_⟩))
        simp only [Deep.intRowPlaces, hA]
        exact MemPlace.mem_row.2 ⟨0, by omega, by simp⟩
      · have hi : i < L j := by have := (List.getElem?_eq_some_iff.1 hx).1; rw [hlen j hjl] at this; exact this
        rw [← add_plain, hc i (by omega)]
        rw [List.getElem?_take, if_pos hi] at hx
        rw [List.getD_eq_getElem?_getD, hx]; rfl
    · obtain ⟨r, hr, rfl⟩ := List.mem_map.1 hl
      rw [List.mem_range] at hr
      obtain ⟨_, _, _, _, h5, _⟩ := hall r (by omega)
      have h1 := h5 x (List.mem_of_mem_take hx)
      have e1 : IntKind.u64.min = 0 := rfl
      have e2 : IntKind.u64.max = 18446744073709551615 := rfl
      simp only [Lit.wf, Bool.and_eq_true, decide_eq_true_eq] at h1
      omega
theorem arg_int {W : World} {base : Nat} {v : Value} {d : DataW H} {p : List MemPlace} (hval : Value.okWide Try.prog W .any base 3 v) (h : DataW.Trod enc Try.prog W 0 (fun _ => true) true 3 v d p) : ∃ x, v = .int .i64 x ∧ Wi x := by
  obtain ⟨n, rfl, rfl, rfl, wf⟩ := open_int Try.underlying3 hval h
  exact ⟨n, rfl, bounds_i wf⟩
theorem arg_asked {W : World} {base : Nat} {v : Value} {d : DataW H} {p : List MemPlace} (hval : Value.okWide Try.prog W .any base 40 v) (h : DataW.Trod enc Try.prog W 0 (fun _ => true) true 40 v d p) (hlt : ∀ x ∈ p, x.block < W.heap.size) :
    ∃ (B : Option Addr) (ps : List (Int × Int)) (cb : Nat) (s : Int), v = .agg #[.slice B ps.length cb, .int .u64 s] ∧ Wd s ∧ Pt W B cb ps ∧ PWords ps := by
  obtain ⟨v0, v1, y0, y1, n, rfl, _, rfl, h0, h1⟩ := open_agg2 Try.underlying40 (by kernel_rfl) cells_asked hval h
  obtain ⟨a1, e1, rfl, w1⟩ := DataW.trod_int Try.underlying22 h1
  obtain ⟨B, ps, cb, rfl, sp, wp⟩ := open_pt Try.underlying31 Try.underlying34 cells_pt rfl rfl cells_u64 cells_u64 Try.underlying22 Try.underlying22 h0 (fun x hx => hlt x (by simp [hx]))
  simp at e1
  subst e1
  exact ⟨B, ps, cb, a1, rfl, bounds_w w1, sp, wp⟩
theorem arg_hide {W : World} {base : Nat} {v : Value} {d : DataW H} {p : List MemPlace} (hval : Value.okWide Try.prog W .any base 46 v) (h : DataW.Trod enc Try.prog W 0 (fun _ => true) true 46 v d p) (hlt : ∀ x ∈ p, x.block < W.heap.size) :
    ∃ (P : Int) (A : Option Addr) (q : List Int) (c : Nat) (B : Option Addr) (xs : List Int) (cb : Nat) (s : Int), v = .agg #[.int .u64 P, .slice A q.length c, .slice B xs.length cb, .int .u64 s] ∧ Wd P ∧ Wd s ∧ Sl W A c q ∧ Words q ∧ Sl W B cb xs ∧ Words xs ∧ q.length ≤ 9223372036854775807 := by
  obtain ⟨v0, v1, v2, v3, y0, y1, y2, y3, n, rfl, _, rfl, h0, h1, h2, h3⟩ := open_agg4 Try.underlying46 (by kernel_rfl) cells_hide hval h
  obtain ⟨a0, e0, rfl, w0⟩ := DataW.trod_int Try.underlying22 h0
  obtain ⟨a3, e3, rfl, w3⟩ := DataW.trod_int Try.underlying22 h3
  obtain ⟨A, xa, ca, rfl, sa, wa⟩ := open_sl h1 (fun x hx => hlt x (by simp [hx]))
  have hlong := long_sl h1 rfl
  obtain ⟨B, xb, cb, rfl, sb, wb⟩ := open_sl h2 (fun x hx => hlt x (by simp [hx]))
  simp at e0 e3
  subst e0 e3
  exact ⟨a0, A, xa, ca, B, xb, cb, a3, rfl, bounds_w w0, bounds_w w3, sa, wa, sb, wb, hlong⟩
theorem arg_params {W : World} {base : Nat} {v : Value} {d : DataW H} {p : List MemPlace} (hval : Value.okWide Try.prog W .any base 55 v) (h : DataW.Trod enc Try.prog W 0 (fun _ => true) true 55 v d p) :
    ∃ (P N T : Int), v = .agg #[.int .u64 P, .int .i64 N, .int .i64 T] ∧ Wd P ∧ Wi N ∧ Wi T := by
  obtain ⟨v0, v1, v2, y0, y1, y2, n, rfl, _, rfl, h0, h1, h2⟩ := open_agg3 Try.underlying55 (by kernel_rfl) cells_params hval h
  obtain ⟨a0, e0, rfl, w0⟩ := DataW.trod_int Try.underlying22 h0
  obtain ⟨a1, e1, rfl, w1⟩ := DataW.trod_int Try.underlying3 h1
  obtain ⟨a2, e2, rfl, w2⟩ := DataW.trod_int Try.underlying3 h2
  simp at e0 e1 e2
  subst e0 e1 e2
  exact ⟨a0, a1, a2, rfl, bounds_w w0, bounds_i w1, bounds_i w2⟩
theorem arg_w3 {W : World} {base : Nat} {v : Value} {d : DataW H} {p : List MemPlace} (hval : Value.okWide Try.prog W .any base 52 v) (h : DataW.Trod enc Try.prog W 0 (fun _ => true) true 52 v d p) :
    ∃ x y z : Int, v = .agg #[.int .u64 x, .int .u64 y, .int .u64 z] ∧ Wd x ∧ Wd y ∧ Wd z := by
  obtain ⟨cs, rfl, hsz⟩ := okWide_array Try.underlying52 hval
  obtain ⟨c0, c1, c2, rfl⟩ := array3 (hsz.trans cells_w3)
  obtain ⟨fuel, hf⟩ := h
  obtain ⟨xs, m, _, _, _, hxl, hfa⟩ := DataW.trod_array Try.underlying52 hf
  match xs, hxl with
  | [y0, y1, y2], _ =>
    have g0 := hfa 0 (by omega)
    have g1 := hfa 1 (by omega)
    have g2 := hfa 2 (by omega)
    rw [cells_u64] at g0 g1 g2
    simp [Value.cells] at g0 g1 g2
    obtain ⟨a0, e0, _, w0⟩ := DataW.trod_int Try.underlying22 g0
    obtain ⟨a1, e1, _, w1⟩ := DataW.trod_int Try.underlying22 g1
    obtain ⟨a2, e2, _, w2⟩ := DataW.trod_int Try.underlying22 g2
    simp at e0 e1 e2
    subst e0 e1 e2
    exact ⟨a0, a1, a2, rfl, bounds_w w0, bounds_w w1, bounds_w w2⟩
theorem arg_w2 {W : World} {base : Nat} {v : Value} {d : DataW H} {p : List MemPlace} (hval : Value.okWide Try.prog W .any base 71 v) (h : DataW.Trod enc Try.prog W 0 (fun _ => true) true 71 v d p) :
    ∃ x y : Int, v = .agg #[.int .u64 x, .int .u64 y] ∧ Wd x ∧ Wd y := by
  obtain ⟨cs, rfl, hsz⟩ := okWide_array Try.underlying71 hval
  obtain ⟨c0, c1, rfl⟩ := array2 (hsz.trans cells_w2)
  obtain ⟨fuel, hf⟩ := h
  obtain ⟨xs, m, _, _, _, hxl, hfa⟩ := DataW.trod_array Try.underlying71 hf
  match xs, hxl with
  | [y0, y1], _ =>
    have g0 := hfa 0 (by omega)
    have g1 := hfa 1 (by omega)
    rw [cells_u64] at g0 g1
    simp [Value.cells] at g0 g1
    obtain ⟨a0, e0, _, w0⟩ := DataW.trod_int Try.underlying22 g0
    obtain ⟨a1, e1, _, w1⟩ := DataW.trod_int Try.underlying22 g1
    simp at e0 e1
    subst e0 e1
    exact ⟨a0, a1, rfl, bounds_w w0, bounds_w w1⟩
theorem arg_s2 {W : World} {base : Nat} {v : Value} {d : DataW H} {p : List MemPlace} (hval : Value.okWide Try.prog W .any base 70 v) (h : DataW.Trod enc Try.prog W 0 (fun _ => true) true 70 v d p) (hlt : ∀ x ∈ p, x.block < W.heap.size) :
    ∃ (A : Option Addr) (a : List Int) (c : Nat) (B : Option Addr) (b : List Int) (cb : Nat), v = .agg #[.slice A a.length c, .slice B b.length cb] ∧ Sl W A c a ∧ Words a ∧ Sl W B cb b ∧ Words b := by
  obtain ⟨cs, rfl, hsz⟩ := okWide_array Try.underlying70 hval
  obtain ⟨c0, c1, rfl⟩ := array2 (hsz.trans cells_s2)
  obtain ⟨fuel, hf⟩ := h
  obtain ⟨xs, m, _, hx, _, hxl, hfa⟩ := DataW.trod_array Try.underlying70 hf
  match xs, hxl with
  | [y0, y1], _ =>
    have g0 := hfa 0 (by omega)
    have g1 := hfa 1 (by omega)
    rw [cells_row] at g0 g1
    simp [Value.cells] at g0 g1
    simp only [Prod.mk.injEq] at hx
    have hp := hx.2
    subst hp
    obtain ⟨A, xa, ca, rfl, sa, wa⟩ := open_sl g0 (fun x hx => hlt x (by simp [hx]))
    obtain ⟨B, xb, cb, rfl, sb, wb⟩ := open_sl g1 (fun x hx => hlt x (by simp [hx]))
    exact ⟨A, xa, ca, B, xb, cb, rfl, sa, wa, sb, wb⟩
theorem arg_two9 {W : World} {base : Nat} {v : Value} {d : DataW H} {p : List MemPlace} (hval : Value.okWide Try.prog W .any base 59 v) (h : DataW.Trod enc Try.prog W 0 (fun _ => true) true 59 v d p) (hlt : ∀ x ∈ p, x.block < W.heap.size) :
    ∃ (P N T : Int) (A : Option Addr) (a : List (List Int)) (c : Nat) (B : Option Addr) (b : List (List Int)) (cb : Nat) (K : Int), v = .agg #[.int .u64 P, .int .i64 N, .int .i64 T, .slice A a.length c, .slice B b.length cb, .int .u64 K] ∧ Wd P ∧ Wi N ∧ Wi T ∧ Wd K ∧ Sll W A c a ∧ (∀ r ∈ a, Words r) ∧ Sll W B cb b ∧ (∀ r ∈ b, Words r) := by
  obtain ⟨cs, rfl, hsz⟩ := okWide_struct Try.underlying59 hval
  obtain ⟨c0, c1, c2, c3, c4, c5, rfl⟩ := array6 (hsz.trans cells_two9)
  obtain ⟨fuel, hf⟩ := h
  obtain ⟨xs, n, _, hx, _, hxl, hfa⟩ := DataW.trod_struct Try.underlying59 hf
  match xs, hxl with
  | [y0, y1, y2, y3], _ =>
    have g0 := hfa 0 _ rfl
    have g1 := hfa 1 _ rfl
    have g2 := hfa 2 _ rfl
    have g3 := hfa 3 _ rfl
    change DataW.trod _ _ _ _ _ _ _ 55 (List.take (Try.prog.cellsOf 55) (List.drop 0 [c0, c1, c2, c3, c4, c5])) = _ at g0
    rw [cells_params] at g0
    simp at g0
    change DataW.trod _ _ _ _ _ _ _ 57 (List.take (Try.prog.cellsOf 57) (List.drop 3 [c0, c1, c2, c3, c4, c5])) = _ at g1
    rw [cells_sharing] at g1
    simp at g1
    change DataW.trod _ _ _ _ _ _ _ 57 (List.take (Try.prog.cellsOf 57) (List.drop 4 [c0, c1, c2, c3, c4, c5])) = _ at g2
    rw [cells_sharing] at g2
    simp at g2
    change DataW.trod _ _ _ _ _ _ _ 22 (List.take (Try.prog.cellsOf 22) (List.drop 5 [c0, c1, c2, c3, c4, c5])) = _ at g3
    rw [cells_u64] at g3
    simp at g3
    simp only [Prod.mk.injEq] at hx
    have hp := hx.2
    subst hp
    obtain ⟨ys, m, _, hy, _, hyl, hga⟩ := DataW.trod_struct Try.underlying55 g0
    match ys, hyl with
    | [z0, z1, z2], _ =>
      have k0 := hga 0 _ rfl
      have k1 := hga 1 _ rfl
      have k2 := hga 2 _ rfl
      have ci : Try.prog.cellsOf 3 = 1 := by kernel_rfl
      change DataW.trod _ _ _ _ _ _ _ 22 (List.take (Try.prog.cellsOf 22) (List.drop 0 [c0, c1, c2])) = _ at k0
      rw [cells_u64] at k0
      simp at k0
      change DataW.trod _ _ _ _ _ _ _ 3 (List.take (Try.prog.cellsOf 3) (List.drop 1 [c0, c1, c2])) = _ at k1
      rw [ci] at k1
      simp at k1
      change DataW.trod _ _ _ _ _ _ _ 3 (List.take (Try.prog.cellsOf 3) (List.drop 2 [c0, c1, c2])) = _ at k2
      rw [ci] at k2
      simp at k2
      obtain ⟨a0, e0, _, w0⟩ := DataW.trod_int Try.underlying22 k0
      obtain ⟨a1, e1, _, w1⟩ := DataW.trod_int Try.underlying3 k1
      obtain ⟨a2, e2, _, w2⟩ := DataW.trod_int Try.underlying3 k2
      obtain ⟨a3, e3, _, w3⟩ := DataW.trod_int Try.underlying22 g3
      obtain ⟨A, xa, ca, rfl, sa, wa, _⟩ := open_ll9 Try.underlying57 g1 (fun x hx => hlt x (by simp [hx]))
      obtain ⟨B, xb, cb, rfl, sb, wb, _⟩ := open_ll9 Try.underlying57 g2 (fun x hx => hlt x (by simp [hx]))
      try simp at e0
      try simp at e1
      try simp at e2
      try simp at e3
      subst e0 e1 e2 e3
      exact ⟨a0, a1, a2, A, xa, ca, B, xb, cb, a3, rfl, bounds_w w0, bounds_i w1, bounds_i w2, bounds_w w3, sa, wa, sb, wb⟩
theorem stay_int {W W' : World} {v : Value} {d : DataW H} {p : List MemPlace} (h : DataW.Trod enc Try.prog W 0 (fun _ => true) true 3 v d p) (hb : Below W.heap.size W W') (hlt : ∀ x ∈ p, x.block < W.heap.size) (sp : Nat → Bool) (hsp : ∀ x ∈ p, sp x.block = true) :
    DataW.Trod enc Try.prog W' 0 sp true 3 v d p :=
  WideElems.Trod_stays laidOut (by kernel_rfl) (of_decide_eq_true (by kernel_rfl)) h (fun x hx => hb.same (hlt x hx)) hsp
theorem stay_asked {W W' : World} {v : Value} {d : DataW H} {p : List MemPlace} (h : DataW.Trod enc Try.prog W 0 (fun _ => true) true 40 v d p) (hb : Below W.heap.size W W') (hlt : ∀ x ∈ p, x.block < W.heap.size) (sp : Nat → Bool) (hsp : ∀ x ∈ p, sp x.block = true) :
    DataW.Trod enc Try.prog W' 0 sp true 40 v d p :=
  WideElems.Trod_stays laidOut (by kernel_rfl) (of_decide_eq_true (by kernel_rfl)) h (fun x hx => hb.same (hlt x hx)) hsp
theorem stay_hide {W W' : World} {v : Value} {d : DataW H} {p : List MemPlace} (h : DataW.Trod enc Try.prog W 0 (fun _ => true) true 46 v d p) (hb : Below W.heap.size W W') (hlt : ∀ x ∈ p, x.block < W.heap.size) (sp : Nat → Bool) (hsp : ∀ x ∈ p, sp x.block = true) :
    DataW.Trod enc Try.prog W' 0 sp true 46 v d p :=
  WideElems.Trod_stays laidOut (by kernel_rfl) (of_decide_eq_true (by kernel_rfl)) h (fun x hx => hb.same (hlt x hx)) hsp
theorem stay_params {W W' : World} {v : Value} {d : DataW H} {p : List MemPlace} (h : DataW.Trod enc Try.prog W 0 (fun _ => true) true 55 v d p) (hb : Below W.heap.size W W') (hlt : ∀ x ∈ p, x.block < W.heap.size) (sp : Nat → Bool) (hsp : ∀ x ∈ p, sp x.block = true) :
    DataW.Trod enc Try.prog W' 0 sp true 55 v d p :=
  WideElems.Trod_stays laidOut (by kernel_rfl) (of_decide_eq_true (by kernel_rfl)) h (fun x hx => hb.same (hlt x hx)) hsp
theorem stay_w3 {W W' : World} {v : Value} {d : DataW H} {p : List MemPlace} (h : DataW.Trod enc Try.prog W 0 (fun _ => true) true 52 v d p) (hb : Below W.heap.size W W') (hlt : ∀ x ∈ p, x.block < W.heap.size) (sp : Nat → Bool) (hsp : ∀ x ∈ p, sp x.block = true) :
    DataW.Trod enc Try.prog W' 0 sp true 52 v d p :=
  WideElems.Trod_stays laidOut (by kernel_rfl) (of_decide_eq_true (by kernel_rfl)) h (fun x hx => hb.same (hlt x hx)) hsp
theorem stay_w2 {W W' : World} {v : Value} {d : DataW H} {p : List MemPlace} (h : DataW.Trod enc Try.prog W 0 (fun _ => true) true 71 v d p) (hb : Below W.heap.size W W') (hlt : ∀ x ∈ p, x.block < W.heap.size) (sp : Nat → Bool) (hsp : ∀ x ∈ p, sp x.block = true) :
    DataW.Trod enc Try.prog W' 0 sp true 71 v d p :=
  WideElems.Trod_stays laidOut (by kernel_rfl) (of_decide_eq_true (by kernel_rfl)) h (fun x hx => hb.same (hlt x hx)) hsp
theorem stay_s2 {W W' : World} {v : Value} {d : DataW H} {p : List MemPlace} (h : DataW.Trod enc Try.prog W 0 (fun _ => true) true 70 v d p) (hb : Below W.heap.size W W') (hlt : ∀ x ∈ p, x.block < W.heap.size) (sp : Nat → Bool) (hsp : ∀ x ∈ p, sp x.block = true) :
    DataW.Trod enc Try.prog W' 0 sp true 70 v d p :=
  WideElems.Trod_stays laidOut (by kernel_rfl) (of_decide_eq_true (by kernel_rfl)) h (fun x hx => hb.same (hlt x hx)) hsp
theorem stay_two9 {W W' : World} {v : Value} {d : DataW H} {p : List MemPlace} (h : DataW.Trod enc Try.prog W 0 (fun _ => true) true 59 v d p) (hb : Below W.heap.size W W') (hlt : ∀ x ∈ p, x.block < W.heap.size) (sp : Nat → Bool) (hsp : ∀ x ∈ p, sp x.block = true) :
    DataW.Trod enc Try.prog W' 0 sp true 59 v d p :=
  WideElems.Trod_stays laidOut (by kernel_rfl) (of_decide_eq_true (by kernel_rfl)) h (fun x hx => hb.same (hlt x hx)) hsp
end
end Go.Proofs.Ytddbdjhgmeeakaa
