/- made and many of layer 8's laws: points of a polynomial at 1, 2, .., some of them altered, and which; nothing that lay is changed. Conditions: as said. -/
import Derived.Test.YtelkmbhhaopafaaVLaw
namespace Go.Proofs.Ytelkmbhhaopafaa
set_option maxRecDepth 100000
open Go.RowKit PolyMath FieldMath MatMath

/-- The slice at A with capacity c holds the flags bs. -/
structure Sb (w : World) (A : Option Addr) (c : Nat) (bs : List Bool) : Prop where
  cap : bs.length ≤ c
  nil : A = none → c = 0
  rd : ∀ ad, A = some ad → bs ≠ [] → ∃ b off, ad = ⟨b, off, none⟩ ∧ b < w.heap.size ∧ ∀ j x, bs[j]? = some x → w.cell? ⟨b, off + j, none⟩ = some (.bool x)
section
variable {w w' : World} {A : Option Addr} {c : Nat} {bs : List Bool}
theorem Sb.at_ {k : Nat} (h : Sb w A c bs) (hk : k < bs.length) : ∃ b off x, A = some ⟨b, off, none⟩ ∧ b < w.heap.size ∧ bs[k]? = some x ∧ w.cell? ⟨b, off + k, none⟩ = some (.bool x) := by
  cases hA : A with
  | none => have := h.nil hA; have := h.cap; omega
  | some ad =>
    obtain ⟨b, off, rfl, hb, hc⟩ := h.rd ad hA (fun e => by rw [e] at hk; simp at hk)
    exact ⟨b, off, bs[k], rfl, hb, List.getElem?_eq_getElem hk, hc k _ (List.getElem?_eq_getElem hk)⟩
theorem Sb.next (h : Sb w A c bs) (hb : Below w.heap.size w w') : Sb w' A c bs :=
  ⟨h.cap, h.nil, fun ad hA hn => by
    obtain ⟨b, off, e, hlt, hc⟩ := h.rd ad hA hn
    exact ⟨b, off, e, Nat.lt_of_lt_of_le hlt hb.size, fun j x hx => (hb.cell (p := ⟨b, off + j, none⟩) hlt).trans (hc j x hx)⟩⟩
end
theorem Sb.of_own {w : World} {base g n c : Nat} {bs : List Bool} (h : w.ownsRow base 4 1 (.slice (some ⟨g, 0, none⟩) n c) n (bs.map Value.bool)) : Sb w (some ⟨g, 0, none⟩) c bs := by
  have hl : bs.length = n := by simpa using h.1
  rcases h.2 with ⟨hv, _⟩ | ⟨g', cap, cur, hv, _, hh, h1, h2, h3, h4⟩
  · cases hv
  · injection hv with hA hn hc
    injection hA with hA
    injection hA with hA
    subst hA hc
    refine ⟨by omega, (fun h => absurd h (by simp)), (fun ad hA _ => ?_)⟩
    injection hA with hA
    subst hA
    refine ⟨g, 0, rfl, (Array.getElem?_eq_some_iff.1 hh).1, fun j x hx => ?_⟩
    have hj := (List.getElem?_eq_some_iff.1 hx).1
    have h5 : (cur.toList.take (n * 1))[j]? = some (.bool x) := by rw [h4, List.getElem?_map, hx]; rfl
    rw [List.getElem?_take, if_pos (by omega), Array.getElem?_toList] at h5
    rw [cell_of_row w g (0 + j) cur 4 (0, 0) hh, Nat.zero_add]
    exact h5

/-- Points of G at 1, 2, .., altered where the flag says so. -/
structure Alt (p : Int) (G : List Int) (n : Nat) (ps : List (Int × Int)) (bs : List Bool) : Prop where
  pl : ps.length = n
  bl : bs.length = n
  at_ : ∀ (i : Nat) (x y : Int), ps[i]? = some (x, y) → x = (i : Int) + 1 ∧ 0 ≤ y ∧ y < p ∧ (bs[i]? = some false → y = pev p G x) ∧ (bs[i]? = some true → y ≠ pev p G x)
/-- The points that are not altered yet. -/
def bpts (p : Int) (G : List Int) (k : Nat) : List (Int × Int) := (List.range k).map fun i : Nat => ((i : Int) + 1, pev p G ((i : Int) + 1))
theorem bpts_len (p : Int) (G : List Int) (k : Nat) : (bpts p G k).length = k := by unfold bpts; simp
theorem bpts_next (p : Int) (G : List Int) (k : Nat) : bpts p G (k + 1) = bpts p G k ++ [((k : Int) + 1, pev p G ((k : Int) + 1))] := by unfold bpts; rw [List.range_succ, List.map_append]; rfl
theorem Alt.start {p : Int} (hp : 0 < p) (G : List Int) (n : Nat) : Alt p G n (bpts p G n) (List.replicate n false) where
  pl := bpts_len _ _ _
  bl := by simp
  at_ := fun i x y h => by
    unfold bpts at h
    rw [List.getElem?_map] at h
    obtain ⟨j, hj, e⟩ := Option.map_eq_some_iff.1 h
    obtain ⟨h1, h2⟩ := List.getElem?_eq_some_iff.1 hj
    rw [List.getElem_range] at h2
    subst h2
    injection e with e1 e2
    subst e1 e2
    have hb := pev_bd hp G ((i : Int) + 1)
    refine ⟨rfl, hb.1, hb.2, fun _ => rfl, fun h => ?_⟩
    obtain ⟨_, h3⟩ := List.getElem?_eq_some_iff.1 h
    simp at h3
theorem Alt.step {p : Int} {G : List Int} {n k : Nat} {ps : List (Int × Int)} {bs : List Bool} {x y d : Int} (h : Alt p G n ps bs) (hp : 0 < p) (hk : k < n) (hxy : ps[k]? = some (x, y)) (hb : bs[k]? = some false) (hd : 1 ≤ d ∧ d < p) : Alt p G n (ps.set k (x, fadd p y d)) (bs.set k true) where
  pl := by rw [List.length_set]; exact h.pl
  bl := by rw [List.length_set]; exact h.bl
  at_ := fun i x' y' hi => by
    by_cases e : i = k
    · subst e
      rw [List.getElem?_set_self (by rw [h.pl]; exact hk)] at hi
      injection hi with hi
      injection hi with e1 e2
      subst e1 e2
      obtain ⟨a1, a2, a3, a4, _⟩ := h.at_ i x y hxy
      have hbd := fadd_bd p y d hp
      refine ⟨a1, hbd.1, hbd.2, fun h9 => ?_, fun _ h9 => ?_⟩
      · rw [List.getElem?_set_self (by rw [h.bl]; exact hk)] at h9
        cases h9
      · rw [← a4 hb] at h9
        have h8 := fadd_cancel (p := p) (a := d) (b := 0) (c := y) (by omega) (by omega) (by unfold fadd; rw [Int.add_comm d y, Int.zero_add]; unfold fadd at h9; rw [h9]; exact (small a2 a3).symm)
        omega
    · rw [List.getElem?_set_ne (fun q => e q.symm)] at hi
      obtain ⟨a1, a2, a3, a4, a5⟩ := h.at_ i x' y' hi
      rw [List.getElem?_set_ne (fun q => e q.symm)]
      exact ⟨a1, a2, a3, a4, a5⟩
theorem pcells_set : ∀ (ps : List (Int × Int)) (k : Nat) (x y z : Int), ps[k]? = some (x, y) → (pcells ps).set (k * 2 + 1) (.int .u64 z) = pcells (ps.set k (x, z))
  | q :: ps, 0, x, y, z, h => by
    simp at h
    subst h
    rfl
  | q :: ps, k + 1, x, y, z, h => by
    have := pcells_set ps k x y z (by simpa using h)
    rw [show (k + 1) * 2 + 1 = k * 2 + 1 + 1 + 1 by omega, List.set_cons_succ, pcells, pcells, List.set_cons_succ, List.set_cons_succ, this]
theorem Alt.px {p : Int} {G : List Int} {n : Nat} {ps : List (Int × Int)} {bs : List Bool} (h : Alt p G n ps bs) {i : Nat} (hi : i < n) : co (PolyMath.px ps) i = (i : Int) + 1 := by
  have hl : i < ps.length := by rw [h.pl]; exact hi
  have e := List.getElem?_eq_getElem hl
  rw [px_at (x := ps[i].1) (y := ps[i].2) e]
  exact (h.at_ i _ _ e).1
theorem Alt.x {p : Int} {G : List Int} {n : Nat} {ps : List (Int × Int)} {bs : List Bool} (h : Alt p G n ps bs) (hn : (n : Int) < p) : El p (PolyMath.px ps) := fun z hz => by
  obtain ⟨i, hi, e⟩ := mem_co hz
  rw [px_len, h.pl] at hi
  rw [h.px hi] at e
  omega
theorem Alt.y {p : Int} {G : List Int} {n : Nat} {ps : List (Int × Int)} {bs : List Bool} (h : Alt p G n ps bs) : El p (py ps) := fun z hz => by
  unfold py at hz
  obtain ⟨q, hq, rfl⟩ := List.mem_map.1 hz
  obtain ⟨i, hi, e⟩ := List.mem_iff_getElem.1 hq
  obtain ⟨_, a2, a3, _⟩ := h.at_ i q.1 q.2 (by rw [List.getElem?_eq_getElem hi, e])
  exact ⟨a2, a3⟩
theorem Alt.sort {p : Int} {G : List Int} {n : Nat} {ps : List (Int × Int)} {bs : List Bool} (h : Alt p G n ps bs) : SortTo (PolyMath.px ps) n := fun a b h1 h2 => by
  rw [h.px (by omega), h.px h2]; omega
theorem Alt.nodup {p : Int} {G : List Int} {n : Nat} {ps : List (Int × Int)} {bs : List Bool} (h : Alt p G n ps bs) : (PolyMath.px ps).Nodup := by
  refine List.pairwise_iff_getElem.2 fun i j hi hj hij e => ?_
  have h1 := h.px (i := i) (by rw [← h.pl, ← px_len]; exact hi)
  have h2 := h.px (i := j) (by rw [← h.pl, ← px_len]; exact hj)
  rw [co_get hi] at h1
  rw [co_get hj, ← e, h1] at h2
  omega
/-- How many flags are set among the first k. -/
def cnt (bs : List Bool) (k : Nat) : Nat := ((List.range k).filter fun i => bs[i]?.getD false).length
theorem cnt_yes {bs : List Bool} {k : Nat} (h : bs[k]? = some true) : cnt bs (k + 1) = cnt bs k + 1 := by
  unfold cnt; rw [List.range_succ, List.filter_append, List.length_append]; simp [h]
theorem cnt_no {bs : List Bool} {k : Nat} (h : bs[k]? = some false) : cnt bs (k + 1) = cnt bs k := by
  unfold cnt; rw [List.range_succ, List.filter_append, List.length_append]; simp [h]
theorem cnt_le (bs : List Bool) (k : Nat) : cnt bs k ≤ k := by unfold cnt; exact Nat.le_trans (List.length_filter_le _ _) (by simp)
/-- The altered points are the errors. -/
theorem Alt.errs {p : Int} {G : List Int} {n : Nat} {ps : List (Int × Int)} {bs : List Bool} (h : Alt p G n ps bs) : PolyMath.errs p G ps = (List.range n).filter fun i => bs[i]?.getD false := by
  unfold PolyMath.errs
  rw [h.pl]
  refine List.filter_congr fun i hi => ?_
  rw [List.mem_range] at hi
  have hl : i < ps.length := by rw [h.pl]; exact hi
  have e := List.getElem?_eq_getElem hl
  have hbl : i < bs.length := by rw [h.bl]; exact hi
  have eb := List.getElem?_eq_getElem hbl
  obtain ⟨_, _, _, a4, a5⟩ := h.at_ i ps[i].1 ps[i].2 e
  rw [px_at (x := ps[i].1) (y := ps[i].2) e, py_at (x := ps[i].1) (y := ps[i].2) e, eb, Option.getD_some]
  rw [eb] at a4 a5
  cases hv : bs[i] with
  | false => rw [hv] at a4; rw [a4 rfl]; simp
  | true => rw [hv] at a5; exact bne_iff_ne.2 fun e9 => a5 rfl e9.symm
theorem Alt.count {p : Int} {G : List Int} {n : Nat} {ps : List (Int × Int)} {bs : List Bool} (h : Alt p G n ps bs) : (PolyMath.errs p G ps).length = cnt bs n := by rw [h.errs]; rfl

set_option maxHeartbeats 1000000 in
theorem many_any (A : Option Addr) (c : Nat) (bs : List Bool) (hl : bs.length ≤ 1000) (w : World) (h : Sb w A c bs) :
    Calls Try.prog 20 #[.slice A bs.length c] w fun e w' => e = .returned (.int .i64 (cnt bs bs.length : Nat)) ∧ w' = w := by
  go_enter Try.func20, Try.ntmps20
  go_wp2
  go_loopw [3, 4] (fun s i wr => ∃ (k m : Nat), k ≤ bs.length ∧ m ≤ k ∧ s = .int .i64 m ∧ i = .int .i64 k ∧ Hid (m = cnt bs k) ∧ wr = w) (fun _ i _ => bs.length - (intOf i).toNat)
  case atStart => exact ⟨0, 0, Nat.zero_le _, Nat.le_refl _, rfl, rfl, Lib.hid rfl, rfl⟩
  case round =>
    obtain ⟨k, m, hk, hm, rfl, rfl, hC, rfl⟩ := hrel
    by_cases hlt : k < bs.length
    · obtain ⟨b, off, x, hA, _, hx, hcx⟩ := h.at_ hlt
      subst hA
      have hkN : (k : Int) < bs.length := by omega
      cases x with
      | true =>
        have hC2 : Hid (m + 1 = cnt bs (k + 1)) := Lib.hid (by rw [cnt_yes hx, hC.out])
        clear hx hC
        go_wp2
        go_roundw
        case rel => exact ⟨k + 1, m + 1, by omega, by omega, by simp, by simp, hC2, by first | rfl | trivial⟩
        case measure => simp [intOf]; omega
      | false =>
        have hC2 : Hid (m = cnt bs (k + 1)) := Lib.hid (by rw [cnt_no hx, hC.out])
        clear hx hC
        go_wp2
        go_roundw
        case rel => exact ⟨k + 1, m, by omega, by omega, by simp, by simp, hC2, by first | rfl | trivial⟩
        case measure => simp [intOf]; omega
    · obtain rfl : k = bs.length := by omega
      go_wp2
      go_ret
      exact ⟨by rw [← hC.out]; rfl, rfl⟩

theorem info_bool : (Try.prog.info? 4).map (fun i => (i.zero, i.size, i.bytes)) = some (some (.bool false), 1, 1) := by kernel_rfl
/-- What made hands back. -/
def MadeE (p : Int) (G : List Int) (n : Nat) (w : World) (e : Ending) (w' : World) : Prop :=
  ∃ ps bs A c B cb D cd, Alt p G n ps bs ∧ e = .returned (.tuple #[.int .u64 p, .slice A G.length c, .slice B n cb, .slice D n cd]) ∧ Sl w' A c G ∧ Pt w' B cb ps ∧ Sb w' D cd bs ∧ Below w.heap.size w w'

set_option maxHeartbeats 8000000 in
theorem made8_row (P : Int) (hP0 : 0 ≤ P) (hP : P ≤ 18446744073709551615) (AF : Option Addr) (cF : Nat) (F : List Int) (wF : ∀ x ∈ F, 0 ≤ x ∧ x ≤ 18446744073709551615) (N : Nat) (bN : N ≤ 255) (BC : Option Addr) (cC : Nat) (C : List (Int × Int)) (wC : PWords C) (w : World) (sF : Sl w AF cF F) (sC : Pt w BC cC C) :
    Calls Try.prog 19 #[.agg #[.int .u64 P, .slice AF F.length cF, .int .u8 N, .slice BC C.length cC]] w fun e w' => MadeE (fitP P) (wdN (fitP P) F 4) (1 + N % 13) w e w' := by
  obtain ⟨i0, hi, hz0, hz1, hz2⟩ := info_parts info_pt
  obtain ⟨i1, hi1, hy0, hy1, hy2⟩ := info_parts info_bool
  have hp := fitP_ok P
  have hfit := fun W => rFit_any P hP0 hP W
  have hww := fun W h => words8_row (fitP P) hp 4 (by omega) AF cF F wF W h
  have hB0 : Below w.heap.size w (w.alloc (.cells #[.int .u64 P, .slice AF F.length cF, .int .u8 N, .slice BC C.length cC] 42)) := (Below.refl _ w).alloc (Nat.le_refl _) _
  have hlt0 : w.heap.size < (w.alloc (.cells #[.int .u64 P, .slice AF F.length cF, .int .u8 N, .slice BC C.length cC] 42)).heap.size := by simp
  have k1 : (w.alloc (.cells #[.int .u64 P, .slice AF F.length cF, .int .u8 N, .slice BC C.length cC] 42)).cell? ⟨w.heap.size, 1, none⟩ = some (.slice AF F.length cF) := by go_simp
  have k2 : (w.alloc (.cells #[.int .u64 P, .slice AF F.length cF, .int .u8 N, .slice BC C.length cC] 42)).cell? ⟨w.heap.size, 2, none⟩ = some (.int .u8 N) := by go_simp
  have k3 : (w.alloc (.cells #[.int .u64 P, .slice AF F.length cF, .int .u8 N, .slice BC C.length cC] 42)).cell? ⟨w.heap.size, 3, none⟩ = some (.slice BC C.length cC) := by go_simp
  generalize fitP P = p at *
  have hbd := hp.bd
  have hwd := wdN_el (p := p) (by omega) F 4
  have hwl := wdN_len p F 4
  generalize wdN p F 4 = G at *
  obtain ⟨m, hm⟩ : ∃ m, m = N % 13 := ⟨_, rfl⟩
  have hm13 : m < 13 := by omega
  have tm : (N : Int).tmod 13 = (m : Int) := by rw [Int.tmod_eq_emod_of_nonneg (by omega)]; omega
  obtain ⟨n, hn⟩ : ∃ n, n = 1 + N % 13 := ⟨_, rfl⟩
  rw [← hn]
  have hn1 : 1 ≤ n ∧ n ≤ 13 := by omega
  have hnI : (1 : Int) + (m : Int) = (n : Int) := by omega
  have wm8 : IntKind.u8.wrap (m : Int) = (m : Int) := by
    have e1 : IntKind.u8.wrap (m : Int) = (m : Int) % 256 := rfl
    omega
  have wmi : IntKind.i64.wrap (m : Int) = (m : Int) := IntWalk.i64_in _ (by omega)
  have wmn : IntKind.i64.wrap (1 + (m : Int)) = (n : Int) := by rw [hnI]; exact IntWalk.i64_in _ (by omega)
  clear hm hn hnI
  go_enter Try.func19, Try.ntmps19
  go_wp2_with fail
  refine (hfit _).mono ?_
  rintro e w1 ⟨rfl, b1⟩
  have hB1 := hB0.trans (b1.mono hB0.size)
  have d1 := (b1.cell (p := ⟨w.heap.size, 1, none⟩) hlt0).trans k1
  have d2 := (b1.cell (p := ⟨w.heap.size, 2, none⟩) hlt0).trans k2
  have d3 := (b1.cell (p := ⟨w.heap.size, 3, none⟩) hlt0).trans k3
  have hlt1 : w.heap.size < w1.heap.size := Nat.lt_of_lt_of_le hlt0 b1.size
  have sF1 := sF.next hB1
  clear k1 k2 k3 hlt0 hB0 b1 hfit
  go_wp2_with fail
  refine (hww w1 sF1).mono ?_
  rintro e w2 ⟨A2, c2, rfl, s2, b2⟩
  have hB2 := hB1.trans (b2.mono hB1.size)
  have e2 := (b2.cell (p := ⟨w.heap.size, 2, none⟩) hlt1).trans d2
  have e3 := (b2.cell (p := ⟨w.heap.size, 3, none⟩) hlt1).trans d3
  have hlt2 : w.heap.size < w2.heap.size := Nat.lt_of_lt_of_le hlt1 b2.size
  have sC2 := sC.next hB2
  clear d1 d2 d3 hlt1 hB1 b2 hww sF1
  go_wp2_with fail
  go_loopw [9, 10] (fun v i wr => ∃ k : Nat, k ≤ n ∧ i = .int .i64 ((k : Int) + 1) ∧ wr.ownsRow w2.heap.size 49 2 v k (pcells (bpts p G k)) ∧ Below w2.heap.size w2 wr) (fun _ i _ => n + 1 - (intOf i).toNat)
  case atStart => exact ⟨0, Nat.zero_le _, rfl, World.ownsRow_nil _ _ _ _, Below.refl _ _⟩
  case round =>
    obtain ⟨k, hk, rfl, hrow, hB⟩ := hrel
    have hsz := hB.size
    by_cases hlt : k < n
    · have hev := rEval_any p ((k : Int) + 1) hp (by omega) A2 c2 G hwd (by omega) wr (s2.next hB)
      have hNX := Lib.hid (bpts_next p G k)
      have hkn : (k : Int) + 1 ≤ n := by omega
      have wk : IntKind.u64.wrap ((k : Int) + 1) = (k : Int) + 1 := IntWalk.u64_in _ (by omega)
      have wk2 : IntKind.i64.wrap ((k : Int) + 1 + 1) = (k : Int) + 1 + 1 := IntWalk.i64_in _ (by omega)
      have hk9 : k ≤ 13 := by omega
      generalize pev p G ((k : Int) + 1) = y at *
      generalize hx9 : (k : Int) + 1 = x at *
      have HX := Lib.hid hx9
      clear hx9
      go_wp2_with (first
        | (go_at_call 25; refine hev.mono ?_; rintro e w' ⟨rfl, rfl⟩)
        | (at_builtin; refine wpList_append_own _ rfl _ _ 23 rfl w2.heap.size 49 i0 _ 2 16 Try.underlying23 hi hz0 hz1 hz2 rfl (by decide) _ _ _ rfl (hrow.alloc _) ⟨wr.heap.size, 0, none⟩ 1 1 [.int .u64 x, .int .u64 y] rfl rfl (World.news_of_block (cs := #[.int .u64 x, .int .u64 y]) (t := 49) (fr := (0, 0)) (World.alloc_heap_new wr _)) (by simp [Value.oneCell']) (by simp only [maxLen]; omega) (by omega) (by simp; omega) ?_; intro v' w3 hown' hgrow _))
      have hB3 : Below w2.heap.size w2 w3 := (hB.alloc hsz _).grown hgrow (by simp; omega) (fun k e => (hrow.lt k e).1)
      go_roundw
      case rel => exact ⟨k + 1, by omega, by rw [show ((k + 1 : Nat) : Int) + 1 = x + 1 from by have := HX.out; omega], by rw [hNX.out, pcells_snoc]; exact hown', hB3⟩
      case measure => simp [intOf]; have := HX.out; omega
    · obtain rfl : k = n := by omega
      obtain ⟨g, cap, rfl, hgb, hglt⟩ := World.ownsRow.form hrow (by omega)
      have hb8 : i1.bytes * k ≤ 281474976710656 := by rw [hy2]; omega
      have hB8 := Lib.hid hb8
      have hkp : ¬ (k : Int) + 1 ≤ k := by omega
      have HR := Lib.hid hrow
      clear hb8 hrow hlt
      go_wp2_with (at_make; refine wpList_make_full _ rfl _ _ 43 rfl wr.heap.size 4 i1 (.bool false) 1 Try.underlying43 hi1 hy0 hy1 .i64 .i64 _ _ k rfl rfl (by omega) (by omega) hB8.out (by simp only [maxLen]; omega) (Nat.le_refl _) ?_; intro w3 hown3 hgrow3)
      have hb3 : Below wr.heap.size wr w3 := (Below.refl _ wr).grown hgrow3 (Nat.le_refl _) (fun k e => by cases e)
      simp only [Value.cells, toList_madeCells_one, Nat.mul_one] at hown3
      have hF3 : w3.ownsRow wr.heap.size 4 1 (.slice (some ⟨wr.heap.size, 0, none⟩) k k) k ((List.replicate k false).map Value.bool) := by rw [List.map_replicate]; simpa using hown3
      have hP3 := own_belowN HR.out hb3
      have hB3 := hB.trans (hb3.mono hsz)
      have hA3 : Hid (Alt p G k (bpts p G k) (List.replicate k false)) := Lib.hid (Alt.start (by omega) G k)
      have hgne : g ≠ wr.heap.size := by omega
      obtain ⟨gd, hgd⟩ : ∃ gd, gd = wr.heap.size := ⟨_, rfl⟩
      rw [← hgd] at hF3 hgne ⊢
      have hgdb : w2.heap.size ≤ gd := by omega
      have HGD := Lib.hid hgd
      have sC3 := sC2
      clear hown3 hgrow3 hgd HR hB hb3 hglt hsz
      go_loopw [12] (fun i W => ∃ (j : Nat) (ps : List (Int × Int)) (bs : List Bool), j ≤ 6 ∧ j ≤ C.length ∧ i = .int .i64 j ∧ Hid (Alt p G k ps bs) ∧ W.ownsRow w2.heap.size 49 2 (.slice (some ⟨g, 0, none⟩) k cap) k (pcells ps) ∧ W.ownsRow gd 4 1 (.slice (some ⟨gd, 0, none⟩) k k) k (bs.map Value.bool) ∧ Below w2.heap.size w2 W) (fun i _ => 6 - (intOf i).toNat)
      case atStart => exact ⟨0, _, _, Nat.zero_le _, Nat.zero_le _, rfl, hA3, hP3, hF3, hB3⟩
      case round =>
        clear hA3 hP3 hF3 hB3
        rename World => W3
        obtain ⟨j, ps, bs, hj6, hjC, rfl, hAl, hPs, hFl, hBW⟩ := hrel
        have e4 := (hBW.cell (p := ⟨w.heap.size, 3, none⟩) hlt2).trans e3
        by_cases hltC : j < C.length
        · have hjCI : (j : Int) < C.length := by omega
          by_cases hlt6 : j < 6
          · have hj6I : (j : Int) < 6 := by omega
            obtain ⟨b, off, x1, x2, hA, hbl, hxy, hc1, hc2⟩ := (sC2.next hBW).at_ hltC
            subst hA
            obtain ⟨⟨hx0, hx1⟩, hx2, hx3⟩ := wC _ (List.mem_of_getElem? hxy)
            dsimp only at hx0 hx1 hx2 hx3
            have hkpos : (0 : Int) < k := by omega
            have hmn := Int.emod_nonneg x1 (show (k : Int) ≠ 0 by omega)
            have hml := Int.emod_lt_of_pos x1 hkpos
            obtain ⟨q, hq⟩ : ∃ q : Nat, (q : Int) = x1 % k := ⟨(x1 % k).toNat, by omega⟩
            have hqk : q < k := by omega
            have t1 : x1.tmod (k : Int) = (q : Int) := by rw [Int.tmod_eq_emod_of_nonneg hx0, hq]
            have wk1 : IntKind.u64.wrap (k : Int) = (k : Int) := IntWalk.u64_in _ (by omega)
            have wq1 : IntKind.u64.wrap (q : Int) = (q : Int) := IntWalk.u64_in _ (by omega)
            have wq2 : IntKind.i64.wrap (q : Int) = (q : Int) := IntWalk.i64_in _ (by omega)
            have hkne : ¬ (k : Int) = 0 := by omega
            have hr0 := Int.emod_nonneg x2 (show p - 1 ≠ 0 by omega)
            have hr1 := Int.emod_lt_of_pos x2 (show 0 < p - 1 by omega)
            obtain ⟨r, hr⟩ : ∃ r : Int, r = x2 % (p - 1) := ⟨_, rfl⟩
            rw [← hr] at hr0 hr1
            have t2 : x2.tmod (p - 1) = r := by rw [Int.tmod_eq_emod_of_nonneg hx2, hr]
            have wp1 : IntKind.u64.wrap (p - 1) = p - 1 := IntWalk.u64_in _ (by omega)
            have wr1 : IntKind.u64.wrap r = r := IntWalk.u64_in _ (by omega)
            have wr2 : IntKind.u64.wrap (1 + r) = 1 + r := IntWalk.u64_in _ (by omega)
            have hpne : ¬ p - 1 = 0 := by omega
            have hqI : (q : Int) < k := by omega
            have hpl := hAl.out.pl
            have hbl2 := hAl.out.bl
            obtain ⟨xq, yq, hxq⟩ : ∃ x y, ps[q]? = some (x, y) := ⟨_, _, List.getElem?_eq_getElem (by omega)⟩
            obtain ⟨fq, hfq⟩ : ∃ b, bs[q]? = some b := ⟨_, List.getElem?_eq_getElem (by omega)⟩
            have hyq := hAl.out.at_ q xq yq hxq
            have cy := (World.ownsRow.cellAt hPs (q * 2 + 1) (by omega)).trans (pcells_at ps q _ hxq).2
            have cf : W3.cell? ⟨gd, q, none⟩ = some (.bool fq) := (World.ownsRow.cellAt hFl q (by omega)).trans (by rw [List.getElem?_map, hfq]; rfl)
            have fy := World.ownsRow.frozenAt hPs (q * 2 + 1)
            have ff := World.ownsRow.frozenAt hFl q
            clear hxy hq hr hmn hml
            cases fq with
            | true =>
              clear hyq hfq hxq hpl hbl2
              go_wp2
              go_roundw
              case rel => exact ⟨j + 1, ps, bs, by omega, by omega, by simp, hAl, hPs, hFl, hBW⟩
              case measure => simp [intOf]; omega
            | false =>
              have hadd := fun W => rAdd_any p yq (1 + r) hp hyq.2.1 hyq.2.2.1 (by omega) (by omega) W
              have hst := World.ownsRow.stored hPs (q * 2 + 1) (.int .u64 (fadd p yq (1 + r)))
              rw [pcells_set ps q xq yq _ hxq] at hst
              have hF2 := World.ownsRow.kept hFl hst.2 (.inr (by simpa [Value.ownBlock] using fun e => hgne e.symm))
              have hst2 := World.ownsRow.stored hF2 q (.bool true)
              have hP2 := Lib.hid (World.ownsRow.kept hst.1 hst2.2 (.inr (by simpa [Value.ownBlock] using hgne)))
              have hF4 : Hid (((W3.setCell ⟨g, q * 2 + 1, none⟩ (.int .u64 (fadd p yq (1 + r)))).setCell ⟨gd, q, none⟩ (.bool true)).ownsRow gd 4 1 (.slice (some ⟨gd, 0, none⟩) k k) k ((bs.set q true).map Value.bool)) := Lib.hid (by rw [List.map_set]; exact hst2.1)
              have hA4 := Lib.hid (hAl.out.step (by omega) hqk hxq hfq (d := 1 + r) (by omega))
              have hB4 := Lib.hid ((hBW.setCell (p := ⟨g, q * 2 + 1, none⟩) hgb (.int .u64 (fadd p yq (1 + r)))).setCell (p := ⟨gd, q, none⟩) hgdb (.bool true))
              have cf2 : (W3.setCell ⟨g, q * 2 + 1, none⟩ (.int .u64 (fadd p yq (1 + r)))).cell? ⟨gd, q, none⟩ = some (.bool false) := (World.ownsRow.cellAt hF2 q (by omega)).trans (by rw [List.getElem?_map, hfq]; rfl)
              have ff2 := World.ownsRow.frozenAt hF2 q
              clear hyq hfq hxq hpl hbl2 hst hst2 hF2 hAl hPs hFl hBW
              generalize fadd p yq (1 + r) = z at *
              go_wp2_with (go_at_call 24; refine (hadd _).mono ?_; rintro e w' ⟨rfl, rfl⟩)
              go_roundw
              case rel => exact ⟨j + 1, _, _, by omega, by omega, by simp, hA4, hP2.out, hF4.out, hB4.out⟩
              case measure => simp [intOf]; omega
          · have hj6I : ¬ (j : Int) < 6 := by omega
            obtain ⟨Bf, cf, hvf, hsf⟩ := pown_form (ps := ps) hPs
            rw [hAl.out.pl] at hvf
            injection hvf with v1 v2 v3
            subst v1 v3
            have HP := Lib.hid hsf
            have HF := Lib.hid (Sb.of_own hFl)
            have HS := Lib.hid (s2.next hBW)
            have hBE := Lib.hid (hB2.trans (hBW.mono hB2.size))
            clear hsf hPs hFl hBW
            go_wp2
            refine bodyPost_ret (results_tmp4 rfl _ _ _) rfl ?_
            exact ⟨ps, bs, _, _, _, _, _, _, hAl.out, rfl, HS.out, HP.out, HF.out, hBE.out⟩
        · have hjCI : ¬ (j : Int) < C.length := by omega
          obtain ⟨Bf, cf, hvf, hsf⟩ := pown_form (ps := ps) hPs
          rw [hAl.out.pl] at hvf
          injection hvf with v1 v2 v3
          subst v1 v3
          have HP := Lib.hid hsf
          have HF := Lib.hid (Sb.of_own hFl)
          have HS := Lib.hid (s2.next hBW)
          have hBE := Lib.hid (hB2.trans (hBW.mono hB2.size))
          clear hsf hPs hFl hBW
          go_wp2
          refine bodyPost_ret (results_tmp4 rfl _ _ _) rfl ?_
          exact ⟨ps, bs, _, _, _, _, _, _, hAl.out, rfl, HS.out, HP.out, HF.out, hBE.out⟩
end Go.Proofs.Ytelkmbhhaopafaa
