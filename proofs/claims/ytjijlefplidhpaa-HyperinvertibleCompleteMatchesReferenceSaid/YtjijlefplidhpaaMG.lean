/- Texts joined: HSet, HSolve, HComp, HCompl, HCmp, HAwake, HOpen. Each says its own conditions. -/
import Derived.Test.YtjijlefplidhpaaMF
import Derived.Test.YtjijlefplidhpaaMC
import Derived.Test.YtjijlefplidhpaaME
import Derived.Test.YtjijlefplidhpaaMD
/- The set of fixed components of package hyperinvertible: newSet, has, add, addPoints, fixedComponents, missing. Nothing that lay is changed but the set itself. Conditions: at most 51 components together. -/
namespace Go.Proofs.Ytjijlefplidhpaa
set_option maxRecDepth 100000
open Go.RowKit PolyMath FieldMath MatMath

theorem info_blk : (Try.prog.info? 118).map (fun i => (i.zero, i.size, i.bytes)) = some (some (.agg (Array.replicate 52 (.bool false))), 52, 52) := by kernel_rfl
theorem blk_cells : (madeCells (Value.agg (Array.replicate 52 (.bool false))).cells (1 * 52)).toList = List.replicate 52 (.bool false) := by kernel_rfl

/-- The set at block g holds the marks S. -/
def SetAt (w : World) (base g : Nat) (S : List Bool) : Prop := w.ownsRow base 118 52 (.slice (some ⟨g, 0, none⟩) 1 1) 1 (S.map Value.bool)
def bit (S : List Bool) (i : Nat) : Bool := S[i]?.getD false
section
variable {w w' : World} {base g : Nat} {S : List Bool}
theorem SetAt.len (h : SetAt w base g S) : S.length = 52 := by have := h.1; rw [List.length_map] at this; omega
theorem SetAt.cell (h : SetAt w base g S) {i : Nat} (hi : i < 52) : w.cell? ⟨g, i, none⟩ = some (.bool (bit S i)) := by
  rw [World.ownsRow.cellAt h i (by omega), List.getElem?_map]
  unfold bit
  rw [List.getElem?_eq_getElem (by rw [h.len]; exact hi)]
  rfl
theorem SetAt.frozen (h : SetAt w base g S) (i : Nat) : w.frozen? ⟨g, i, none⟩ = false := World.ownsRow.frozenAt h i
theorem SetAt.lt (h : SetAt w base g S) : base ≤ g ∧ g < w.heap.size := World.ownsRow.lt h g rfl
theorem SetAt.put (h : SetAt w base g S) (i : Nat) : SetAt (w.setCell ⟨g, i, none⟩ (.bool true)) base g (S.set i true) := by
  have := (World.ownsRow.stored h i (.bool true)).1
  unfold SetAt
  rw [List.map_set]
  exact this
theorem SetAt.next (h : SetAt w base g S) (hb : Below w.heap.size w w') : SetAt w' base g S := own_belowN h hb
theorem SetAt.push (h : SetAt w base g S) (o : Obj) : SetAt (w.alloc o) base g S := h.next ((Below.refl _ w).alloc (Nat.le_refl _) o)
end
theorem bit_set {S : List Bool} {i : Nat} (hi : i < S.length) (j : Nat) : bit (S.set i true) j = (decide (j = i) || bit S j) := by
  unfold bit
  by_cases e : j = i
  · subst e; rw [List.getElem?_set_self hi, decide_eq_true rfl]; rfl
  · rw [List.getElem?_set_ne (fun q => e q.symm), decide_eq_false e]; rfl

theorem has_any (base g i : Nat) (S : List Bool) (hi : i < 52) (w : World) (h : SetAt w base g S) :
    Calls Try.prog 81 #[.slice (some ⟨g, 0, none⟩) 1 1, .int .i64 i] w fun e w' => e = .returned (.bool (bit S i)) ∧ w = w' := by
  have hc := h.cell hi
  have hq : (i : Int).tdiv 52 = 0 := Int.tdiv_eq_zero_of_lt (by omega) (by omega)
  have hr : (i : Int).tmod 52 = i := Int.tmod_eq_of_lt (by omega) (by omega)
  have hi' : (i : Int) < 52 := by omega
  clear h
  go_enter Try.func81, Try.ntmps81
  go_wp2
  go_ret
  exact ⟨rfl, rfl⟩
theorem setAdd_any (base g i : Nat) (S : List Bool) (hi : i < 52) (w : World) (h : SetAt w base g S) :
    Calls Try.prog 98 #[.slice (some ⟨g, 0, none⟩) 1 1, .int .i64 i] w fun e w' => (∃ v, e = .returned v) ∧ w' = w.setCell ⟨g, i, none⟩ (.bool true) := by
  have hc := h.cell hi
  have hfz := h.frozen i
  have hq : (i : Int).tdiv 52 = 0 := Int.tdiv_eq_zero_of_lt (by omega) (by omega)
  have hr : (i : Int).tmod 52 = i := Int.tmod_eq_of_lt (by omega) (by omega)
  have hi' : (i : Int) < 52 := by omega
  have hlt := h.lt
  clear h
  go_enter Try.func98, Try.ntmps98
  go_wp2
  refine bodyPost_end (results_none rfl _ _ _) rfl ?_
  exact ⟨⟨_, rfl⟩, rfl⟩
theorem newSet_any (n : Nat) (hn : n ≤ 51) (w : World) :
    Calls Try.prog 75 #[.int .i64 n] w fun e w' => ∃ g, e = .returned (.slice (some ⟨g, 0, none⟩) 1 1) ∧ SetAt w' w.heap.size g (List.replicate 52 false) ∧ Below w.heap.size w w' := by
  obtain ⟨i0, hi0, hz0, hz1, hz2⟩ := info_parts info_blk
  have hq : (n : Int).tdiv 52 = 0 := Int.tdiv_eq_zero_of_lt (by omega) (by omega)
  have hB8 : Hid (i0.bytes * 1 ≤ 281474976710656) := Lib.hid (by rw [hz2]; omega)
  go_enter Try.func75, Try.ntmps75
  go_wp2_with (at_make; refine wpList_make_full _ rfl _ _ 80 rfl w.heap.size 118 i0 (.agg (Array.replicate 52 (.bool false))) 52 Try.underlying80 hi0 hz0 hz1 .i64 .i64 _ _ 1 rfl rfl (by omega) (by omega) hB8.out (by simp only [maxLen]; omega) (Nat.le_refl _) ?_; intro w1 hown1 hgrow1)
  go_ret
  refine ⟨w.heap.size, rfl, ?_, (Below.refl _ w).grown hgrow1 (Nat.le_refl _) (fun k e => by cases e)⟩
  unfold SetAt
  rw [blk_cells] at hown1
  rw [List.map_replicate]
  exact hown1

/-- Marks put at the places of points. -/
def mark (S : List Bool) (f : Nat) (ps : List (Int × Int)) : List Bool := ps.foldl (fun S q => S.set (f + q.1.toNat) true) S
theorem mark_len (f : Nat) : ∀ (ps : List (Int × Int)) (S : List Bool), (mark S f ps).length = S.length
  | [], _ => rfl
  | q :: ps, S => by show (mark (S.set _ _) f ps).length = _; rw [mark_len f ps, List.length_set]
theorem mark_next (S : List Bool) (f : Nat) {ps : List (Int × Int)} {k : Nat} {x y : Int} (h : ps[k]? = some (x, y)) : mark S f (ps.take (k + 1)) = (mark S f (ps.take k)).set (f + x.toNat) true := by
  unfold mark
  rw [List.take_add_one, h, List.foldl_append]; rfl
theorem mark_bit (f : Nat) : ∀ (ps : List (Int × Int)) (S : List Bool), (∀ q ∈ ps, f + q.1.toNat < S.length) → ∀ i, bit (mark S f ps) i = (bit S i || decide (∃ q ∈ ps, i = f + q.1.toNat))
  | [], S, _, i => by
    rw [decide_eq_false (by rintro ⟨q, hq, _⟩; cases hq), Bool.or_false]; rfl
  | q :: ps, S, h, i => by
    show bit (mark (S.set _ _) f ps) i = _
    rw [mark_bit f ps _ (fun r hr => by rw [List.length_set]; exact h r (List.mem_cons_of_mem _ hr)) i, bit_set (h q (List.mem_cons_self ..)), Bool.eq_iff_iff]
    simp only [Bool.or_eq_true, decide_eq_true_eq, List.mem_cons]
    constructor
    · rintro ((h1 | h1) | ⟨r, hr, h1⟩)
      · exact .inr ⟨q, .inl rfl, h1⟩
      · exact .inl h1
      · exact .inr ⟨r, .inr hr, h1⟩
    · rintro (h1 | ⟨r, hr | hr, h1⟩)
      · exact .inl (.inr h1)
      · subst hr; exact .inl (.inl h1)
      · exact .inr ⟨r, hr, h1⟩
/-- The first k points lie in range and are distinct. -/
def Good (ps : List (Int × Int)) (n k : Nat) : Prop := (∀ q ∈ ps.take k, q.1 < (n : Int)) ∧ ((ps.take k).map Prod.fst).Nodup
theorem good_next {ps : List (Int × Int)} {n k : Nat} {x y : Int} (h : ps[k]? = some (x, y)) : Good ps n (k + 1) ↔ Good ps n k ∧ x < (n : Int) ∧ ∀ q ∈ ps.take k, q.1 ≠ x := by
  unfold Good
  rw [List.take_add_one, h]
  simp only [Option.toList_some, List.map_append, List.map_cons, List.map_nil, List.mem_append, List.mem_singleton, List.nodup_append]
  constructor
  · rintro ⟨h1, h2, _, h4⟩
    exact ⟨⟨fun q hq => h1 q (.inl hq), h2⟩, h1 (x, y) (.inr rfl), fun q hq e => h4 q.1 (List.mem_map.2 ⟨q, hq, rfl⟩) x rfl e⟩
  · rintro ⟨⟨h1, h2⟩, h3, h4⟩
    refine ⟨fun q hq => ?_, h2, List.nodup_cons.2 ⟨List.not_mem_nil, List.nodup_nil⟩, fun a ha b hb e => ?_⟩
    · rcases hq with hq | hq
      · exact h1 q hq
      · rw [hq]; exact h3
    · obtain ⟨q, hq, rfl⟩ := List.mem_map.1 ha
      exact h4 q hq (e.trans hb)
theorem good_all {ps : List (Int × Int)} {n k : Nat} (h : plcB ps n = true) : Good ps n k := by
  unfold plcB at h
  rw [decide_eq_true_eq] at h
  refine ⟨fun q hq => h.1 q (List.mem_of_mem_take hq), ?_⟩
  rw [List.map_take]
  exact h.2.sublist (List.take_sublist k _)
theorem plcB_end {ps : List (Int × Int)} {n : Nat} (h : Good ps n ps.length) : plcB ps n = true := by
  unfold plcB
  unfold Good at h
  rw [List.take_length] at h
  rw [decide_eq_true_eq]
  exact h

set_option maxHeartbeats 2000000 in
theorem addPts_any (g f n : Nat) (S : List Bool) (hf : f + n ≤ 52) (A : Option Addr) (c : Nat) (ps : List (Int × Int)) (hl : ps.length ≤ 100) (hw : PWords ps) (hz : ∀ j, j < n → bit S (f + j) = false)
    (w0 w : World) (hB0 : Below w0.heap.size w0 w) (hset : SetAt w w0.heap.size g S) (hp : Pt w0 A c ps) :
    Calls Try.prog 76 #[.slice (some ⟨g, 0, none⟩) 1 1, .slice A ps.length c, .int .i64 f, .int .i64 n] w fun e w' => (e = .returned (.bool (plcB ps n)) ∧ (plcB ps n = true → SetAt w' w0.heap.size g (mark S f ps))) ∧ Below w0.heap.size w0 w' := by
  have hSl := hset.len
  have hcu : IntKind.u64.wrap (n : Int) = n := IntWalk.u64_in _ (by omega)
  go_enter Try.func76, Try.ntmps76
  go_wp2
  go_loopw [13] (fun i wr => ∃ k : Nat, k ≤ ps.length ∧ i = .int .i64 k ∧ Hid (Good ps n k) ∧ SetAt wr w0.heap.size g (mark S f (ps.take k)) ∧ Below w0.heap.size w0 wr) (fun i _ => ps.length - (intOf i).toNat)
  case atStart => exact ⟨0, Nat.zero_le _, rfl, Lib.hid ⟨fun q hq => by simp at hq, by simp⟩, hset, hB0⟩
  case round =>
    obtain ⟨k, hk, rfl, hG, hS, hB⟩ := hrel
    by_cases hlt : k < ps.length
    · obtain ⟨b, off, x, y, hA, hbl, hx, hcx, hcy⟩ := (hp.next hB).at_ hlt
      subst hA
      have hxw := hw _ (List.mem_of_getElem? hx)
      have hx0 : 0 ≤ x := hxw.1.1
      have hne2 : b ≠ wr.heap.size := by omega
      have hkN : (k : Int) < ps.length := by omega
      have hgn := good_next (n := n) hx
      by_cases hxn : (n : Int) ≤ x
      · have hPB : Hid (plcB ps n = false) := Lib.hid (by
          cases e : plcB ps n with
          | false => rfl
          | true => have := (hgn.1 (good_all e)).2.1; omega)
        have hbn := bnew hB (.cells #[.int .u64 x, .int .u64 y] 56) (Nat.le_refl _)
        clear hgn hx
        go_wp2
        go_ret
        rw [hPB.out]
        exact ⟨⟨rfl, fun h => by cases h⟩, hbn⟩
      · obtain ⟨q, rfl⟩ : ∃ q : Nat, x = (q : Int) := ⟨x.toNat, by omega⟩
        have hmk : ∀ r ∈ ps.take k, f + r.1.toNat < S.length := fun r hr => by
          have h1 := hG.out.1 r hr
          have h2 := (hw r (List.mem_of_mem_take hr)).1.1
          omega
        have hbit := mark_bit f (ps.take k) S hmk (f + q)
        rw [hz q (by omega), Bool.false_or] at hbit
        have hS1 := hS.push (.cells #[.int .u64 (q : Int), .int .u64 y] 56)
        have hhas := has_any w0.heap.size g (f + q) _ (by omega) _ hS1
        have hadd := setAdd_any w0.heap.size g (f + q) _ (by omega) _ hS1
        have hci : IntKind.i64.wrap (q : Int) = q := IntWalk.i64_in _ (by omega)
        have hcast : ((f + q : Nat) : Int) = (f : Int) + q := by omega
        rw [hcast] at hhas hadd
        have hbn := bnew hB (.cells #[.int .u64 (q : Int), .int .u64 y] 56) (Nat.le_refl _)
        have hglt := hS.lt
        cases hh : bit (mark S f (ps.take k)) (f + q) with
        | true =>
          have hPB : Hid (plcB ps n = false) := Lib.hid (by
            cases e : plcB ps n with
            | false => rfl
            | true =>
              rw [hh] at hbit
              have h1 := of_decide_eq_true hbit.symm
              obtain ⟨r, hr, e1⟩ := h1
              have h2 := (hgn.1 (good_all e)).2.2 r hr
              have h3 := (hw r (List.mem_of_mem_take hr)).1.1
              omega)
          rw [hh] at hhas
          clear hgn hx hbit hmk hadd
          go_wp2_with (go_at_call 81; refine hhas.mono ?_; clear hhas; rintro e w3 ⟨rfl, rfl⟩)
          go_ret
          rw [hPB.out]
          exact ⟨⟨rfl, fun h => by cases h⟩, hbn⟩
        | false =>
          have hG2 : Hid (Good ps n (k + 1)) := Lib.hid (hgn.2 ⟨hG.out, by omega, fun r hr e => by
            rw [hh] at hbit
            exact of_decide_eq_false hbit.symm ⟨r, hr, by rw [e]; omega⟩⟩)
          have hS2 := Lib.hid ((hS.put (f + q)).push (.cells #[.int .u64 (q : Int), .int .u64 y] 56))
          have hmn := mark_next S f hx
          rw [Int.toNat_natCast] at hmn
          rw [← hmn] at hS2
          have hB2 := Lib.hid (bnew (hB.setCell (p := ⟨g, f + q, none⟩) hglt.1 (.bool true)) (.cells #[.int .u64 (q : Int), .int .u64 y] 56) (Nat.le_refl _))
          rw [hh] at hhas
          clear hgn hx hbit hmk hmn hG
          go_wp2_with (first | (go_at_call 81; refine hhas.mono ?_; clear hhas; rintro e w3 ⟨rfl, rfl⟩) | (go_at_call 98; refine hadd.mono ?_; clear hadd; rintro e w3 ⟨⟨v, rfl⟩, rfl⟩))
          go_roundw
          case rel => exact ⟨k + 1, by omega, by simp, hG2, hS2.out, hB2.out⟩
          case measure => simp [intOf]; omega
    · obtain rfl : k = ps.length := by omega
      have hPB : Hid (plcB ps n = true) := Lib.hid (plcB_end hG.out)
      rw [List.take_length] at hS
      clear hG
      go_wp2
      go_ret
      rw [hPB.out]
      exact ⟨⟨rfl, fun _ => hS⟩, hB⟩

theorem fix_ok (A B : Option Addr) (c d N L : Nat) (ins outs : List (Int × Int)) (h51 : L + N ≤ 51) (li : ins.length ≤ 100) (lo : outs.length ≤ 100) (wi : PWords ins) (wo : PWords outs) (hi : plcB ins L = true) (ho : plcB outs N = true) (w : World) (si : Pt w A c ins) (so : Pt w B d outs) :
    Calls Try.prog 47 #[.slice A ins.length c, .slice B outs.length d, .int .i64 L, .int .i64 N] w fun e w' => (∃ g S, e = .returned (.tuple #[.slice (some ⟨g, 0, none⟩) 1 1, .bool true]) ∧ SetAt w' w.heap.size g S ∧ ∀ j, j < L → bit S j = (idx ins).contains j) ∧ Below w.heap.size w w' := by
  have hcast : ((L + N : Nat) : Int) = (L : Int) + N := by omega
  have h1 := newSet_any (L + N) h51 w
  rw [hcast] at h1
  have hrep : ∀ i, bit (List.replicate 52 false) i = false := fun i => by unfold bit; rw [List.getElem?_replicate]; split <;> rfl
  have inR : ∀ {ps : List (Int × Int)} {n : Nat}, PWords ps → plcB ps n = true → ∀ q ∈ ps, 0 ≤ q.1 ∧ q.1 < (n : Int) := fun hw h q hq => by
    unfold plcB at h
    rw [decide_eq_true_eq] at h
    exact ⟨(hw q hq).1.1, h.1 q hq⟩
  have hb1 := mark_bit 0 ins (List.replicate 52 false) (fun q hq => by rw [List.length_replicate]; have := inR wi hi q hq; omega)
  have hz2 : ∀ j, j < N → bit (mark (List.replicate 52 false) 0 ins) (L + j) = false := fun j hj => by
    rw [hb1, hrep, Bool.false_or]
    refine decide_eq_false ?_
    rintro ⟨q, hq, e⟩
    have := inR wi hi q hq
    omega
  have hb2 := mark_bit L outs (mark (List.replicate 52 false) 0 ins) (fun q hq => by rw [mark_len, List.length_replicate]; have := inR wo ho q hq; omega)
  have hfin : Hid (∀ j, j < L → bit (mark (mark (List.replicate 52 false) 0 ins) L outs) j = (idx ins).contains j) := Lib.hid fun j hj => by
    rw [hb2, hb1, hrep, Bool.false_or, decide_eq_false (p := ∃ q ∈ outs, j = L + q.1.toNat) (by rintro ⟨q, hq, e⟩; omega), Bool.or_false, Bool.eq_iff_iff, decide_eq_true_eq, List.contains_iff_mem]
    constructor
    · rintro ⟨q, hq, e⟩
      exact List.mem_map.2 ⟨q, hq, by omega⟩
    · intro h
      obtain ⟨q, hq, e⟩ := List.mem_map.1 h
      exact ⟨q, hq, by omega⟩
  go_enter Try.func47, Try.ntmps47
  go_wp2_with fail
  refine h1.mono ?_
  rintro e w1 ⟨g, rfl, hS1, hB1⟩
  have h2 := addPts_any g 0 L _ (by omega) A c ins li wi (fun j _ => hrep _) w w1 hB1 hS1 si
  clear h1
  rw [hi] at h2
  go_wp2_with fail
  refine h2.mono ?_
  rintro e w2 ⟨⟨rfl, hS2⟩, hB2⟩
  have h3 := addPts_any g L N _ (by omega) B d outs lo wo hz2 w w2 hB2 (hS2 trivial) so
  rw [ho] at h3
  clear h2
  go_wp2_with fail
  refine h3.mono ?_
  rintro e w3 ⟨⟨rfl, hS3⟩, hB3⟩
  go_wp2_with fail
  go_ret2
  exact ⟨⟨g, _, rfl, hS3 trivial, hfin.out⟩, hB3⟩

theorem fix_bad (A B : Option Addr) (c d N L : Nat) (ins outs : List (Int × Int)) (h51 : L + N ≤ 51) (li : ins.length ≤ 100) (lo : outs.length ≤ 100) (wi : PWords ins) (wo : PWords outs) (hio : (plcB ins L && plcB outs N) = false) (w : World) (si : Pt w A c ins) (so : Pt w B d outs) :
    Calls Try.prog 47 #[.slice A ins.length c, .slice B outs.length d, .int .i64 L, .int .i64 N] w fun e w' => (∃ g, e = .returned (.tuple #[.slice (some ⟨g, 0, none⟩) 1 1, .bool false])) ∧ Below w.heap.size w w' := by
  have hcast : ((L + N : Nat) : Int) = (L : Int) + N := by omega
  have h1 := newSet_any (L + N) h51 w
  rw [hcast] at h1
  have hrep : ∀ i, bit (List.replicate 52 false) i = false := fun i => by unfold bit; rw [List.getElem?_replicate]; split <;> rfl
  go_enter Try.func47, Try.ntmps47
  go_wp2_with fail
  refine h1.mono ?_
  rintro e w1 ⟨g, rfl, hS1, hB1⟩
  have h2 := addPts_any g 0 L _ (by omega) A c ins li wi (fun j _ => hrep _) w w1 hB1 hS1 si
  clear h1
  cases hi : plcB ins L with
  | false =>
    rw [hi] at h2
    go_wp2_with fail
    refine h2.mono ?_
    rintro e w2 ⟨⟨rfl, _⟩, hB2⟩
    go_wp2_with fail
    go_ret2
    exact ⟨⟨g, rfl⟩, hB2⟩
  | true =>
    rw [hi, Bool.true_and] at hio
    have inR : ∀ q ∈ ins, 0 ≤ q.1 ∧ q.1 < (L : Int) := fun q hq => by
      unfold plcB at hi
      rw [decide_eq_true_eq] at hi
      exact ⟨(wi q hq).1.1, hi.1 q hq⟩
    have hz2 : ∀ j, j < N → bit (mark (List.replicate 52 false) 0 ins) (L + j) = false := fun j hj => by
      rw [mark_bit 0 ins (List.replicate 52 false) (fun q hq => by rw [List.length_replicate]; have := inR q hq; omega), hrep, Bool.false_or]
      refine decide_eq_false ?_
      rintro ⟨q, hq, e⟩
      have := inR q hq
      omega
    rw [hi] at h2
    go_wp2_with fail
    refine h2.mono ?_
    rintro e w2 ⟨⟨rfl, hS2⟩, hB2⟩
    have h3 := addPts_any g L N _ (by omega) B d outs lo wo hz2 w w2 hB2 (hS2 trivial) so
    rw [hio] at h3
    clear h2
    go_wp2_with fail
    refine h3.mono ?_
    rintro e w3 ⟨⟨rfl, _⟩, hB3⟩
    go_wp2_with fail
    go_ret2
    exact ⟨⟨g, rfl⟩, hB3⟩

theorem rest_next (n : Nat) (C : List Nat) : rest (n + 1) C = rest n C ++ if C.contains n then [] else [n] := by
  unfold rest
  rw [List.range_succ, List.filter_append]
  congr 1
  rw [List.filter_cons, List.filter_nil]
  cases C.contains n <;> rfl
theorem oI_snoc (L : List Nat) (n : Nat) : oI (L ++ [n]) = oI L ++ [(n : Int)] := by unfold oI; rw [List.map_append]; rfl

set_option maxHeartbeats 1000000 in
theorem missing_row (base g L : Nat) (S : List Bool) (C : List Nat) (hL : L ≤ 51) (hS : ∀ j, j < L → bit S j = C.contains j) (w : World) (h : SetAt w base g S) :
    Calls Try.prog 49 #[.slice (some ⟨g, 0, none⟩) 1 1, .int .i64 L] w fun e w' => RowI w e w' (oI (rest L C)) := by
  obtain ⟨i0, hi0, hz0, hz1, hz2⟩ := info_parts info_int
  have hHS := Lib.hid hS
  clear hS
  go_enter Try.func49, Try.ntmps49
  go_wp2
  go_loopw [5, 8] (fun v i wr => ∃ k n : Nat, k ≤ L ∧ n ≤ k ∧ i = .int .i64 k ∧ Hid ((rest k C).length = n) ∧ wr.ownsRow w.heap.size 3 1 v n ((oI (rest k C)).map (Value.int .i64)) ∧ Below w.heap.size w wr) (fun _ i _ => L - (intOf i).toNat)
  case atStart => exact ⟨0, 0, Nat.zero_le _, Nat.le_refl _, rfl, Lib.hid rfl, World.ownsRow_nil _ _ _ _, Below.refl _ _⟩
  case round =>
    obtain ⟨k, n, hk, hnk, rfl, hLen, hrow, hB⟩ := hrel
    have hsz := hB.size
    by_cases hlt : k < L
    · have hhas := has_any base g k S (by omega) wr (h.next hB)
      rw [hHS.out k hlt] at hhas
      have hkL : (k : Int) < L := by omega
      have hRN := rest_next k C
      cases hC : C.contains k with
      | true =>
        rw [hC] at hhas hRN
        rw [if_pos rfl, List.append_nil] at hRN
        have HRN := Lib.hid hRN
        clear hRN hC
        obtain ⟨A2, c2, hv⟩ := row_form hrow
        subst hv
        go_wp2_with (go_at_call 81; refine hhas.mono ?_; clear hhas; rintro e w3 ⟨rfl, rfl⟩)
        go_roundw
        case rel => exact ⟨k + 1, n, by omega, by omega, by simp, by rw [HRN.out]; exact hLen, by rw [HRN.out]; exact hrow, hB⟩
        case measure => simp [intOf]; omega
      | false =>
        rw [hC] at hhas hRN
        rw [if_neg (by simp)] at hRN
        have HRN := Lib.hid hRN
        clear hRN hC
        obtain ⟨A2, c2, hv⟩ := row_form hrow
        subst hv
        go_wp2_with (first | (go_at_call 81; refine hhas.mono ?_; clear hhas; rintro e w3 ⟨rfl, rfl⟩) | (at_builtin; refine wpList_append_own _ rfl _ _ 36 rfl w.heap.size 3 i0 (.int .i64 0) 1 8 Try.underlying36 hi0 hz0 hz1 hz2 rfl (by decide) _ _ _ rfl (hrow.alloc _) ⟨wr.heap.size, 0, none⟩ 1 1 [.int .i64 (k : Int)] rfl rfl (cell_one_new _ _ _) (by simp [Value.oneCell']) (by simp only [maxLen]; omega) (by omega) (by simp; omega) ?_; intro v' w2 hown' hgrow _))
        have hB2 : Below w.heap.size w w2 := (hB.alloc hsz _).grown hgrow (by simp; omega) (fun k e => (hrow.lt k e).1)
        go_roundw
        case rel => exact ⟨k + 1, n + 1, by omega, by omega, by simp, Lib.hid (by rw [HRN.out, List.length_append, hLen.out]; rfl), by rw [HRN.out, oI_snoc, List.map_append]; exact hown', hB2⟩
        case measure => simp [intOf]; omega
    · obtain rfl : k = L := by omega
      obtain ⟨A2, c2, hv, hs2⟩ := iown_form hrow
      have hl2 := Lib.hid (oI_len (rest k C))
      rw [hl2.out, hLen.out] at hv
      subst hv
      go_wp2
      go_ret
      exact ⟨A2, c2, by rw [hl2.out, hLen.out]; rfl, hs2, hB⟩
end Go.Proofs.Ytjijlefplidhpaa

/- Solve of package matrix once more: the words that it hands back lie in memory that was not there before. Conditions: a supported prime, words of its field, at most 100 rows and columns. -/
namespace Go.Proofs.Ytjijlefplidhpaa
set_option maxRecDepth 100000
open Go.RowKit PolyMath FieldMath MatMath

/-- Words and no error, in new memory. -/
def RowF (w : World) (e : Ending) (w' : World) (ys : List Int) : Prop :=
  ∃ A c, e = .returned (.tuple #[.slice A ys.length c, .int .i64 0]) ∧ Sl w' A c ys ∧ Below w.heap.size w w' ∧ ∀ ad, A = some ad → w.heap.size ≤ ad.block
def SolF (p : Int) (A : List (List Int)) (b : List Int) (w : World) (e : Ending) (w' : World) : Prop :=
  (∃ x, slv p A b = some x ∧ RowF w e w' x) ∨ (slv p A b = none ∧ e = .returned (.tuple #[.slice none 0 0, .int .i64 6]) ∧ Below w.heap.size w w')

set_option maxRecDepth 100000 in
set_option maxHeartbeats 4000000 in
theorem solve_far (p : Int) (hp : OkP p) (A B : Option Addr) (c cv : Nat) (rows : List (List Int)) (b : List Int) (hz : Sized rows) (hE : ∀ r ∈ rows, El p r) (hbE : El p b) (hr : rect rows = true) (hn : rows.length = b.length) (w : World) (h : Sll w A c rows) (sb : Sl w B cv b) :
    Calls Try.prog 79 #[.int .u64 p, .slice A rows.length c, .slice B b.length cv] w fun e w' => SolF p rows b w e w' := by
  obtain ⟨i0, hi0, hz0, hz1, hz2⟩ := info_parts info_u64
  have hbd := hp.bd
  have hN := hz.1
  have h1 := rectangular_any A c rows (by omega) w h
  have hmat := mat_of hr hE
  rw [hr] at h1
  have hnc : ncol rows ≤ 100 := hz.2 0
  have hn' : ((rows.length : Int) != b.length) = false := by rw [hn]; simp
  have hcp := fun h : 0 < ncol rows => ncol_pos h
  have hmat2 := augL_mat (p := p) (by omega) hmat hbE
  have hELF := elim_ok hp.good hmat2 (ncol rows)
  have hb8 : Hid (i0.bytes * ncol rows ≤ 281474976710656) := Lib.hid (by rw [hz2]; omega)
  have HS : Hid (slv p rows b = if (fnd (elim p (augL rows b) (ncol rows)).R (elim p (augL rows b) (ncol rows)).pv.length (ncol rows)).isSome = true then none else some (solF (elim p (augL rows b) (ncol rows)) (ncol rows) (elim p (augL rows b) (ncol rows)).pv.length)) := Lib.hid rfl
  have HN := Lib.hid hn
  clear hr hn
  go_enter Try.func79, Try.ntmps79
  go_wp2_with fail
  refine h1.mono ?_; rintro e w1 ⟨rfl, hB1⟩
  have hs1 := h.next hB1
  have sb1 := sb.next hB1
  have h2 := columns_any A c rows w1 hs1
  clear h1 h sb
  go_wp2_with fail
  refine h2.mono ?_; rintro e w' ⟨rfl, rfl⟩
  clear h2
  have hs2 := hs1.push (.cells #[.int .i64 (ncol rows : Int)] 3)
  have sb2 := sb1.push (.cells #[.int .i64 (ncol rows : Int)] 3)
  have hBox := Boxed.new w1 3 (.int .i64 (ncol rows : Int))
  have hB2 := hB1.alloc hB1.size (.cells #[.int .i64 (ncol rows : Int)] 3)
  have h3 := cloneRows_any A c rows _ hs2 (by omega) (fun i => by have := hz.2 i; omega)
  have hlt2 : w1.heap.size < (w1.alloc (.cells #[.int .i64 (ncol rows : Int)] 3)).heap.size := by simp
  go_wp2_with fail
  refine h3.mono ?_; rintro e w3 ⟨v, vs, rfl, hM, hB3⟩
  clear h3 hs1 sb1
  generalize hw2 : w1.alloc (.cells #[.int .i64 (ncol rows : Int)] 3) = w2 at *
  clear hw2
  have hbx3 := (hB3.cell (p := ⟨w1.heap.size, 0, none⟩) hlt2).trans hBox.cell
  have sb3 := sb2.next hB3
  have hNb : rows.length ≤ 1000 := by omega
  generalize hS : elim p (augL rows b) (ncol rows) = S at *
  have HSE := Lib.hid hS
  clear hS
  rcases hM.head.2 with ⟨rfl, h0⟩ | ⟨g, cap, cur, rfl, hr5⟩
  · have hR0 : rows = [] := List.eq_nil_of_length_eq_zero h0
    have hb0 : b = [] := List.eq_nil_of_length_eq_zero (by rw [← HN.out]; exact h0)
    subst hR0 hb0
    have hnc0 : ncol ([] : List (List Int)) = 0 := rfl
    have hSL : Hid (slv p [] [] = some []) := Lib.hid rfl
    have hBend : Below w.heap.size w w3 := hB2.trans (hB3.mono hB2.size)
    have hcon := contains_solve (.pointer (some ⟨w1.heap.size, 0, none⟩)) (fun r => co r 0 != 0) none 0 0 [] rfl (by omega) w3 (Sll.nothing _) (fun i A' c' hi hs => absurd hi (Nat.not_lt_zero _))
    have hb80 : Hid (i0.bytes * 0 ≤ 281474976710656) := Lib.hid (by omega)
    rw [hnc0] at hbx3
    rw [hnc0]
    clear hELF hmat hmat2 HS hb8 hBox h0 hN hE hbE hz hcp hnc hn' hlt2 HSE hM sb3 hs2 sb2 HN hNb S
    go_wp2_with fail
    go_loopw [33] (fun i wr => i = .int .i64 0 ∧ wr = w3) (fun i _ => (intOf i).toNat)
    case atStart => exact ⟨rfl, rfl⟩
    case round =>
      obtain ⟨rfl, rfl⟩ := hrel
      go_wp2_with (first | (at_make; refine wpList_make_full _ rfl _ _ 31 rfl wr.heap.size 22 i0 (.int .u64 0) 1 Try.underlying31 hi0 hz0 hz1 .i64 .i64 _ _ 0 rfl rfl (by omega) (by omega) hb80.out (by simp only [maxLen]; omega) (Nat.le_refl _) ?_; intro w5 hown5 hgrow5; have hB5 : Below wr.heap.size wr w5 := (Below.refl _ wr).grown hgrow5 (Nat.le_refl _) (fun k e => by cases e); clear hown5 hgrow5) | (go_at_call 73; refine hcon.mono ?_; rintro e w' ⟨rfl, rfl⟩) | (go_at_call 44; refine (elim_none p none 0 0 wr).mono ?_; rintro e w' ⟨rfl, rfl⟩))
      go_loopw [66] (fun i wr => i = .int .i64 0 ∧ wr = w5) (fun i _ => (intOf i).toNat)
      case atStart => exact ⟨rfl, rfl⟩
      case round =>
        obtain ⟨rfl, rfl⟩ := hrel
        go_wp2
        go_ret2
        exact .inl ⟨_, hSL.out, _, _, rfl, Sl.blank _ _ _, hBend.trans (hB5.mono hBend.size), fun ad e => by injection e with e; subst e; exact hBend.size⟩
  · have hcapN : rows.length ≤ cap := by have h5 := hM.sll.cap; exact h5
    clear hr5
    go_wp2_with fail
    go_loopw [33] (fun i wr => ∃ (k : Nat) (us : List Value), k ≤ b.length ∧ i = .int .i64 k ∧ MP w2.heap.size wr (.slice (some ⟨g, 0, none⟩) rows.length cap) rows.length rows.length us (augK rows b k) ∧ Below w2.heap.size w2 wr) (fun i _ => b.length - (intOf i).toNat)
    case atStart => exact ⟨0, vs, Nat.zero_le _, rfl, by rw [augK_zero]; exact hM, hB3⟩
    case round =>
      obtain ⟨k, us, hk, rfl, hMk, hBk⟩ := hrel
      by_cases hlt : k < b.length
      · obtain ⟨bb, ob, y, hBB, hbb, hy, hcy⟩ := (sb2.next hBk).at_ hlt
        subst hBB
        have hkr : k < rows.length := by rw [HN.out]; exact hlt
        obtain ⟨u, hu, huo⟩ := hMk.row k hkr
        rw [augK_ro b k hkr, if_neg (by omega), (hmat.ro hkr).1] at huo
        obtain ⟨Au, cu, rfl⟩ := row_form huo
        have hcell := hMk.cell hkr hu
        have hNX : Hid ((augK rows b k).set k (ro rows k ++ [y]) = augK rows b (k + 1)) := Lib.hid (by rw [← co_at hy]; exact augK_next hkr)
        have hMA := hMk.next ((Below.refl _ wr).alloc (Nat.le_refl _) (.cells #[.int .u64 y] 22))
        have huA := huo.alloc (.cells #[.int .u64 y] 22)
        have hszk : w2.heap.size ≤ wr.heap.size := hBk.size
        have hkb : (k : Int) < b.length := by omega
        have hkr' : (k : Int) < rows.length := by omega
        have hfar := fun x (e : (Value.slice Au (ncol rows) cu).ownBlock = some x) => hMk.far hkr hu e
        have hlenr := Lib.hid (hmat.ro hkr).1
        have hgl := World.ownsRow.lt hMk.head g rfl
        have hMAH := Lib.hid hMA
        have hHa : Hid ((wr.alloc (.cells #[.int .u64 y] 22)).heap.size = wr.heap.size + 1) := Lib.hid (by simp)
        have HU := Lib.hid hu
        clear hMk hMA hy huo hu
        go_wp2_with (at_builtin; refine wpList_append_lies _ rfl _ _ 31 rfl w2.heap.size 22 i0 (.int .u64 0) 1 8 Try.underlying31 hi0 hz0 hz1 hz2 rfl (by decide) _ _ _ rfl huA ⟨wr.heap.size, 0, none⟩ 1 1 [.int .u64 y] rfl rfl (cell_one_new _ _ _) (by simp [Value.oneCell']) (by decide) (by simp only [maxLen]; omega) (by omega) (by simp; omega) (wr.heap.size + 1) hHa.out ?_; intro g5 cap5 w5 hown5 hgrow5 hat5 hlt5; have hhd5 : w5.ownsRow w2.heap.size 31 1 (.slice (some ⟨g, 0, none⟩) rows.length cap) rows.length us := World.ownsRow.kept hMAH.out.head hgrow5 (.inr fun e => hfar g e.symm rfl); have hfz5 := World.ownsRow.frozenAt hhd5 k; have hcell5 := (World.ownsRow.cellAt hhd5 k (by omega)).trans HU.out; have hgl5 : g < w5.heap.size := (World.ownsRow.lt hhd5 g rfl).2; have hown5H := Lib.hid hown5; clear hown5 hhd5)
        go_roundw
        case rel => exact ⟨k + 1, us.set k (.slice (some ⟨g5, 0, none⟩) (ncol rows + 1) cap5), by omega, by simp, by
          rw [← hNX.out]
          exact hMAH.out.lay (w' := w5) (i := k) (k' := rows.length) (by omega) hkr (by omega) hgrow5 (fun x e => ⟨hkr, _, HU.out, e⟩) (by rw [List.length_append, hlenr.out, List.map_append]; exact hown5H.out) (fun x e => by
            have e1 : g5 = x := by simpa [Value.ownBlock] using e
            subst e1
            rcases hat5 with e2 | e2
            · exact .inr e2
            · exact .inl (by rw [hHa.out]; omega)), ((hBk.alloc hszk _).grown hgrow5 (by rw [hHa.out]; omega) (fun x e => (World.ownsRow.lt huA x e).1)).setCell (p := ⟨g, k, none⟩) hgl.1 _⟩
        case measure => simp [intOf]; omega
      · obtain rfl : k = b.length := by omega
        have hEl := elimV_any p hp w2.heap.size rows.length (ncol rows + 1) (ncol rows) (.slice (some ⟨g, 0, none⟩) rows.length cap) us (augL rows b) (by omega) (by omega) (by omega) hcp hmat2 wr hBk.size (by unfold augL; rw [HN.out]; rw [HN.out] at hMk; exact hMk)
        rw [HSE.out] at hEl
        have hbxk := (hBk.cell (p := ⟨w1.heap.size, 0, none⟩) hlt2).trans hBox.cell
        have hBk2 := Lib.hid hBk
        clear hMk
        go_wp2_with fail
        refine hEl.mono ?_
        rintro e w4 ⟨pvv, vs4, rfl, hM4, hP4, hB4⟩
        obtain ⟨A9, c9, rfl⟩ := row_form hP4
        have hBx4 : Boxed w4 w1.heap.size 3 (.int .i64 (ncol rows : Int)) := ((hBk2.out.trans hB4).block w1.heap.size hlt2).trans hBox
        have hbx4 := hBx4.cell
        have hlt4 : w1.heap.size < w4.heap.size := Nat.lt_of_lt_of_le hlt2 (Nat.le_trans hBk2.out.size hB4.size)
        have hsll := hM4.sll
        have hBend : Below w.heap.size w w4 := (hB2.trans ((hBk2.out.mono hB2.size).trans (hB4.mono hB2.size)))
        have hql : S.pv.length ≤ rows.length := hELF.ech.len
        have hRl : (S.R.drop S.pv.length).length = rows.length - S.pv.length := by rw [List.length_drop, hELF.mat.rows]
        have hfNN : ∀ k, rows.length ≤ S.pv.length → fnd S.R S.pv.length k = none := fun k hge => fnd_none.2 fun i h1 h2 => by rw [hELF.mat.rows] at h2; omega
        clear hEl hM4 hbxk hbx3 hM
        generalize hq : S.pv.length = q at *
        have HQ := Lib.hid hq
        clear hq
        have hqlI : (q : Int) ≤ rows.length := by omega
        have hNcI : (rows.length : Int) ≤ cap := by omega
        by_cases hqN : q < rows.length
        · have hcq : ¬ cap = q := by omega
          have hsl := hsll.drop rfl (q := q) (by rw [hELF.mat.rows]; exact hql)
          rw [Nat.zero_add] at hsl
          have hcon := contains_solve (.pointer (some ⟨w1.heap.size, 0, none⟩)) (fun r => co r (ncol rows) != 0) (some ⟨g, q, none⟩) (cap - q) (rows.length - q) (S.R.drop q) hRl (by omega) w4 hsl (fun i A' c' hi hs => by
            have hro : ro (S.R.drop q) i = ro S.R (q + i) := by unfold ro; rw [List.getElem?_drop]
            have hl2 : (ro (S.R.drop q) i).length = ncol rows + 1 := by rw [hro]; exact (hELF.mat.ro (by rw [hRl] at hi; omega)).1
            exact solve1_any A' c' _ _ rfl (ncol rows) w1.heap.size _ hBx4 hs (by rw [hl2]; omega))
          rw [show ((S.R.drop q).findIdx? fun r => co r (ncol rows) != 0) = fnd S.R q (ncol rows) from rfl] at hcon
          clear hsl hRl hfNN
          cases hfn : fnd S.R q (ncol rows) with
          | some bq =>
            rw [hfn] at hcon
            have HR : Hid (slv p rows b = none) := Lib.hid (by rw [HS.out, hfn]; rfl)
            clear HS
            go_wp2_with (go_at_call 73; refine hcon.mono ?_; rintro e w' ⟨rfl, rfl⟩)
            go_ret2
            exact .inr ⟨HR.out, rfl, hBend⟩
          | none =>
            rw [hfn] at hcon
            have HR : Hid (slv p rows b = some (solF S (ncol rows) q)) := Lib.hid (by rw [HS.out, hfn]; rfl)
            clear HS
            go_wp2_with (first | (at_make; refine wpList_make_full _ rfl _ _ 31 rfl w4.heap.size 22 i0 (.int .u64 0) 1 Try.underlying31 hi0 hz0 hz1 .i64 .i64 _ _ (ncol rows) rfl rfl (by omega) (by omega) hb8.out (by simp only [maxLen]; omega) (Nat.le_refl _) ?_; intro w5 hown5 hgrow5; simp only [Value.cells, toList_madeCells_one, Nat.mul_one] at hown5; have hO5 : OwnAt w5 w4.heap.size w4.heap.size (ncol rows) (ncol rows) (solF S (ncol rows) 0) := (by unfold OwnAt; simpa [solF] using hown5); have hB5 : Below w4.heap.size w4 w5 := (Below.refl _ w4).grown hgrow5 (Nat.le_refl _) (fun k e => by cases e); clear hown5 hgrow5) | (go_at_call 73; refine hcon.mono ?_; rintro e w' ⟨rfl, rfl⟩))
            go_loopw [66] (fun i wr => ∃ k : Nat, k ≤ q ∧ i = .int .i64 k ∧ OwnAt wr w4.heap.size w4.heap.size (ncol rows) (ncol rows) (solF S (ncol rows) k) ∧ Below w4.heap.size w4 wr) (fun i _ => q - (intOf i).toNat)
            case atStart => exact ⟨0, Nat.zero_le _, rfl, hO5, hB5⟩
            case round =>
              obtain ⟨k, hk, rfl, hOk, hBk⟩ := hrel
              by_cases hlt : k < q
              · obtain ⟨gp, hAp, hgp, hcp⟩ := rowI_cell hP4 hlt
                subst hAp
                have hcp2 := (hBk.cell (p := ⟨gp, k, none⟩) hgp).trans hcp
                have hkr : k < rows.length := by omega
                obtain ⟨L2, hL2⟩ : ∃ L2, L2 = ncol rows + 1 := ⟨_, rfl⟩
                obtain ⟨br, or_, A7, c7, hA7, hbr, hcr, hsr⟩ := hsll.rowAt (i := k) (L := L2) (by rw [hELF.mat.rows]; exact hkr) (by rw [hL2]; exact (hELF.mat.ro hkr).1)
                injection hA7 with hA7
                injection hA7 with e1 e2
                subst e1 e2
                rw [Nat.zero_add] at hcr
                have hcr2 := (hBk.cell (p := ⟨g, k, none⟩) hbr).trans hcr
                obtain ⟨b7, o7, y, hA8, hb7, hy7, hcy7⟩ := hsr.at_ (k := ncol rows) (by rw [(hELF.mat.ro hkr).1]; omega)
                subst hA8
                have hcy := (hBk.cell (p := ⟨b7, o7 + ncol rows, none⟩) hb7).trans hcy7
                have hbxk := (hBk.cell (p := ⟨w1.heap.size, 0, none⟩) hlt4).trans hbx4
                have hpvlt : S.pv.getD k 0 < ncol rows := hELF.ech.lt k (by rw [HQ.out]; exact hlt)
                have hNX : Hid ((solF S (ncol rows) k).set (S.pv.getD k 0) y = solF S (ncol rows) (k + 1)) := Lib.hid (by show _ = (solF S (ncol rows) k).set _ (mx S.R k (ncol rows)); rw [mx_ro, co_at hy7])
                have hfz := hOk.frozen (S.pv.getD k 0)
                obtain ⟨z, hz9⟩ : ∃ z, (solF S (ncol rows) k)[S.pv.getD k 0]? = some z := ⟨_, List.getElem?_eq_getElem (by rw [solF_len]; exact hpvlt)⟩
                have hcz := hOk.cell hz9
                have hST := Lib.hid (hOk.drew.put (S.pv.getD k 0) y)
                have hBS := Lib.hid (hBk.drew.setCell (p := ⟨w4.heap.size, S.pv.getD k 0, none⟩) (Nat.le_refl _) (.int .u64 y))
                rw [hNX.out] at hST
                have hpvI : ((S.pv.getD k 0 : Nat) : Int) < ncol rows := by omega
                have hkI : (k : Int) < q := by omega
                have hkrI : (k : Int) < rows.length := by omega
                have hncI : (ncol rows : Int) < L2 := by omega
                generalize S.pv.getD k 0 = P at *
                clear hOk hz9 hy7 hcy7 hNX hsr hL2
                go_wp2
                refine wp_region_still_tail 10 (by kernel_rfl) (by kernel_rfl) ?_
                simp only [List.take_succ_cons, List.take_zero, List.drop_succ_cons, List.drop_zero]
                change wpStill _ _ (World.drew _) (fun a' => wpList _ _ _ _ a' (World.drew _)) _ _
                repeat still_step
                refine wpStill_nil ?_
                go_wp2
                go_roundw
                case rel => exact ⟨k + 1, by omega, by simp, hST.out, hBS.out⟩
                case measure => simp [intOf]; omega
              · obtain rfl : k = q := by omega
                go_wp2
                go_ret2
                exact .inl ⟨_, HR.out, _, _, by rw [solF_len]; rfl, hOk.sl, hBend.trans (hBk.mono hBend.size), fun ad e => by injection e with e; subst e; exact hBend.size⟩
        · obtain rfl : q = rows.length := by omega
          have hfn := hfNN (ncol rows) (Nat.le_refl _)
          have hcon := fun (ad : Addr) (c' : Nat) => contains_solve (.pointer (some ⟨w1.heap.size, 0, none⟩)) (fun r => co r (ncol rows) != 0) (some ad) c' 0 [] rfl (by omega) w4 ⟨Nat.zero_le _, (fun h => by cases h), fun _ _ h => absurd rfl h⟩ (fun i A' c' hi hs => absurd hi (Nat.not_lt_zero _))
          clear hRl hfNN
          by_cases hcq : cap = rows.length
          · subst hcq
            have HR : Hid (slv p rows b = some (solF S (ncol rows) rows.length)) := Lib.hid (by rw [HS.out, hfn]; rfl)
            clear HS
            go_wp2_with (first | (at_make; refine wpList_make_full _ rfl _ _ 31 rfl w4.heap.size 22 i0 (.int .u64 0) 1 Try.underlying31 hi0 hz0 hz1 .i64 .i64 _ _ (ncol rows) rfl rfl (by omega) (by omega) hb8.out (by simp only [maxLen]; omega) (Nat.le_refl _) ?_; intro w5 hown5 hgrow5; simp only [Value.cells, toList_madeCells_one, Nat.mul_one] at hown5; have hO5 : OwnAt w5 w4.heap.size w4.heap.size (ncol rows) (ncol rows) (solF S (ncol rows) 0) := (by unfold OwnAt; simpa [solF] using hown5); have hB5 : Below w4.heap.size w4 w5 := (Below.refl _ w4).grown hgrow5 (Nat.le_refl _) (fun k e => by cases e); clear hown5 hgrow5) | (go_at_call 73; refine (hcon _ _).mono ?_; rintro e w' ⟨rfl, rfl⟩))
            go_loopw [66] (fun i wr => ∃ k : Nat, k ≤ rows.length ∧ i = .int .i64 k ∧ OwnAt wr w4.heap.size w4.heap.size (ncol rows) (ncol rows) (solF S (ncol rows) k) ∧ Below w4.heap.size w4 wr) (fun i _ => rows.length - (intOf i).toNat)
            case atStart => exact ⟨0, Nat.zero_le _, rfl, hO5, hB5⟩
            case round =>
              obtain ⟨k, hk, rfl, hOk, hBk⟩ := hrel
              by_cases hlt : k < rows.length
              · obtain ⟨gp, hAp, hgp, hcp⟩ := rowI_cell hP4 hlt
                subst hAp
                have hcp2 := (hBk.cell (p := ⟨gp, k, none⟩) hgp).trans hcp
                have hkr : k < rows.length := by omega
                obtain ⟨L2, hL2⟩ : ∃ L2, L2 = ncol rows + 1 := ⟨_, rfl⟩
                obtain ⟨br, or_, A7, c7, hA7, hbr, hcr, hsr⟩ := hsll.rowAt (i := k) (L := L2) (by rw [hELF.mat.rows]; exact hkr) (by rw [hL2]; exact (hELF.mat.ro hkr).1)
                injection hA7 with hA7
                injection hA7 with e1 e2
                subst e1 e2
                rw [Nat.zero_add] at hcr
                have hcr2 := (hBk.cell (p := ⟨g, k, none⟩) hbr).trans hcr
                obtain ⟨b7, o7, y, hA8, hb7, hy7, hcy7⟩ := hsr.at_ (k := ncol rows) (by rw [(hELF.mat.ro hkr).1]; omega)
                subst hA8
                have hcy := (hBk.cell (p := ⟨b7, o7 + ncol rows, none⟩) hb7).trans hcy7
                have hbxk := (hBk.cell (p := ⟨w1.heap.size, 0, none⟩) hlt4).trans hbx4
                have hpvlt : S.pv.getD k 0 < ncol rows := hELF.ech.lt k (by rw [HQ.out]; exact hlt)
                have hNX : Hid ((solF S (ncol rows) k).set (S.pv.getD k 0) y = solF S (ncol rows) (k + 1)) := Lib.hid (by show _ = (solF S (ncol rows) k).set _ (mx S.R k (ncol rows)); rw [mx_ro, co_at hy7])
                have hfz := hOk.frozen (S.pv.getD k 0)
                obtain ⟨z, hz9⟩ : ∃ z, (solF S (ncol rows) k)[S.pv.getD k 0]? = some z := ⟨_, List.getElem?_eq_getElem (by rw [solF_len]; exact hpvlt)⟩
                have hcz := hOk.cell hz9
                have hST := Lib.hid (hOk.drew.put (S.pv.getD k 0) y)
                have hBS := Lib.hid (hBk.drew.setCell (p := ⟨w4.heap.size, S.pv.getD k 0, none⟩) (Nat.le_refl _) (.int .u64 y))
                rw [hNX.out] at hST
                have hpvI : ((S.pv.getD k 0 : Nat) : Int) < ncol rows := by omega
                have hkI : (k : Int) < rows.length := by omega
                have hkrI : (k : Int) < rows.length := by omega
                have hncI : (ncol rows : Int) < L2 := by omega
                generalize S.pv.getD k 0 = P at *
                clear hOk hz9 hy7 hcy7 hNX hsr hL2
                go_wp2
                refine wp_region_still_tail 10 (by kernel_rfl) (by kernel_rfl) ?_
                simp only [List.take_succ_cons, List.take_zero, List.drop_succ_cons, List.drop_zero]
                change wpStill _ _ (World.drew _) (fun a' => wpList _ _ _ _ a' (World.drew _)) _ _
                repeat still_step
                refine wpStill_nil ?_
                go_wp2
                go_roundw
                case rel => exact ⟨k + 1, by omega, by simp, hST.out, hBS.out⟩
                case measure => simp [intOf]; omega
              · obtain rfl : k = rows.length := by omega
                go_wp2
                go_ret2
                exact .inl ⟨_, HR.out, _, _, by rw [solF_len]; rfl, hOk.sl, hBend.trans (hBk.mono hBend.size), fun ad e => by injection e with e; subst e; exact hBend.size⟩
          · skip
            have HR : Hid (slv p rows b = some (solF S (ncol rows) rows.length)) := Lib.hid (by rw [HS.out, hfn]; rfl)
            clear HS
            go_wp2_with (first | (at_make; refine wpList_make_full _ rfl _ _ 31 rfl w4.heap.size 22 i0 (.int .u64 0) 1 Try.underlying31 hi0 hz0 hz1 .i64 .i64 _ _ (ncol rows) rfl rfl (by omega) (by omega) hb8.out (by simp only [maxLen]; omega) (Nat.le_refl _) ?_; intro w5 hown5 hgrow5; simp only [Value.cells, toList_madeCells_one, Nat.mul_one] at hown5; have hO5 : OwnAt w5 w4.heap.size w4.heap.size (ncol rows) (ncol rows) (solF S (ncol rows) 0) := (by unfold OwnAt; simpa [solF] using hown5); have hB5 : Below w4.heap.size w4 w5 := (Below.refl _ w4).grown hgrow5 (Nat.le_refl _) (fun k e => by cases e); clear hown5 hgrow5) | (go_at_call 73; refine (hcon _ _).mono ?_; rintro e w' ⟨rfl, rfl⟩))
            go_loopw [66] (fun i wr => ∃ k : Nat, k ≤ rows.length ∧ i = .int .i64 k ∧ OwnAt wr w4.heap.size w4.heap.size (ncol rows) (ncol rows) (solF S (ncol rows) k) ∧ Below w4.heap.size w4 wr) (fun i _ => rows.length - (intOf i).toNat)
            case atStart => exact ⟨0, Nat.zero_le _, rfl, hO5, hB5⟩
            case round =>
              obtain ⟨k, hk, rfl, hOk, hBk⟩ := hrel
              by_cases hlt : k < rows.length
              · obtain ⟨gp, hAp, hgp, hcp⟩ := rowI_cell hP4 hlt
                subst hAp
                have hcp2 := (hBk.cell (p := ⟨gp, k, none⟩) hgp).trans hcp
                have hkr : k < rows.length := by omega
                obtain ⟨L2, hL2⟩ : ∃ L2, L2 = ncol rows + 1 := ⟨_, rfl⟩
                obtain ⟨br, or_, A7, c7, hA7, hbr, hcr, hsr⟩ := hsll.rowAt (i := k) (L := L2) (by rw [hELF.mat.rows]; exact hkr) (by rw [hL2]; exact (hELF.mat.ro hkr).1)
                injection hA7 with hA7
                injection hA7 with e1 e2
                subst e1 e2
                rw [Nat.zero_add] at hcr
                have hcr2 := (hBk.cell (p := ⟨g, k, none⟩) hbr).trans hcr
                obtain ⟨b7, o7, y, hA8, hb7, hy7, hcy7⟩ := hsr.at_ (k := ncol rows) (by rw [(hELF.mat.ro hkr).1]; omega)
                subst hA8
                have hcy := (hBk.cell (p := ⟨b7, o7 + ncol rows, none⟩) hb7).trans hcy7
                have hbxk := (hBk.cell (p := ⟨w1.heap.size, 0, none⟩) hlt4).trans hbx4
                have hpvlt : S.pv.getD k 0 < ncol rows := hELF.ech.lt k (by rw [HQ.out]; exact hlt)
                have hNX : Hid ((solF S (ncol rows) k).set (S.pv.getD k 0) y = solF S (ncol rows) (k + 1)) := Lib.hid (by show _ = (solF S (ncol rows) k).set _ (mx S.R k (ncol rows)); rw [mx_ro, co_at hy7])
                have hfz := hOk.frozen (S.pv.getD k 0)
                obtain ⟨z, hz9⟩ : ∃ z, (solF S (ncol rows) k)[S.pv.getD k 0]? = some z := ⟨_, List.getElem?_eq_getElem (by rw [solF_len]; exact hpvlt)⟩
                have hcz := hOk.cell hz9
                have hST := Lib.hid (hOk.drew.put (S.pv.getD k 0) y)
                have hBS := Lib.hid (hBk.drew.setCell (p := ⟨w4.heap.size, S.pv.getD k 0, none⟩) (Nat.le_refl _) (.int .u64 y))
                rw [hNX.out] at hST
                have hpvI : ((S.pv.getD k 0 : Nat) : Int) < ncol rows := by omega
                have hkI : (k : Int) < rows.length := by omega
                have hkrI : (k : Int) < rows.length := by omega
                have hncI : (ncol rows : Int) < L2 := by omega
                generalize S.pv.getD k 0 = P at *
                clear hOk hz9 hy7 hcy7 hNX hsr hL2
                go_wp2
                refine wp_region_still_tail 10 (by kernel_rfl) (by kernel_rfl) ?_
                simp only [List.take_succ_cons, List.take_zero, List.drop_succ_cons, List.drop_zero]
                change wpStill _ _ (World.drew _) (fun a' => wpList _ _ _ _ a' (World.drew _)) _ _
                repeat still_step
                refine wpStill_nil ?_
                go_wp2
                go_roundw
                case rel => exact ⟨k + 1, by omega, by simp, hST.out, hBS.out⟩
                case measure => simp [intOf]; omega
              · obtain rfl : k = rows.length := by omega
                go_wp2
                go_ret2
                exact .inl ⟨_, HR.out, _, _, by rw [solF_len]; rfl, hOk.sl, hBend.trans (hBk.mono hBend.size), fun ad e => by injection e with e; subst e; exact hBend.size⟩
end Go.Proofs.Ytjijlefplidhpaa

/- hasShape, indicesOf, remainders, completeInputs and Complete of package hyperinvertible. Nothing that lay is changed. Conditions: a supported prime, words of its field, at most 51 rows and columns together. -/
namespace Go.Proofs.Ytjijlefplidhpaa
set_option maxRecDepth 100000
open Go.RowKit PolyMath FieldMath MatMath

theorem shape1_any (A : Option Addr) (c n : Nat) (r : List Int) (hn : r.length = n) (D : Option Addr) (d : Nat) (rows : List (List Int)) (h0 : 0 < rows.length) (B : Nat) (w : World) (hB : Boxed w B 25 (.slice D rows.length d)) (h : Sll w D d rows) :
    Calls Try.prog 74 #[.slice A n c, .pointer (some ⟨B, 0, none⟩)] w fun e w' => e = .returned (.bool (r.length != ncol rows)) ∧ w = w' := by
  have hc := hB.cell
  have hE : Hid ((n != ncol rows) = (r.length != ncol rows)) := Lib.hid (by rw [hn])
  obtain ⟨b, off, A', c', hA, hb, hcr, hs⟩ := h.rowAt (i := 0) (L := ncol rows) h0 rfl
  subst hA
  rw [Nat.add_zero] at hcr
  have h0' : (0 : Int) < rows.length := by omega
  clear hB hn
  go_enter Try.func74, Try.ntmps74
  go_wp2
  go_ret
  rw [← hE.out]
  exact ⟨congrArg (fun b => Ending.returned (Value.bool b)) (show ((n : Int) != (ncol rows : Int)) = (n != ncol rows) by rw [Bool.eq_iff_iff, bne_iff_ne, bne_iff_ne]; omega), rfl⟩

theorem index_shape (pt : Value) (P : List Int → Bool) (A : Option Addr) (c n : Nat) (rows : List (List Int)) (hn : rows.length = n) (hl : n ≤ 1000) (w : World) (h : Sll w A c rows) (hF : Tells 74 pt P rows w) :
    Calls Try.prog 67 #[.slice A n c, .func (.func 74) #[] #[pt]] w fun e w' => e = .returned (.int .i64 (idxI (rows.findIdx? P))) ∧ w = w' := by
  have hN := Lib.hid hn
  clear hn
  go_enter Try.func67, Try.ntmps67
  go_wp2
  go_loop [8] (fun i => ∃ k : Nat, k ≤ n ∧ i = .int .i64 k ∧ Hid (∀ j, j < k → P (ro rows j) = false)) (fun i => n - (intOf i).toNat)
  case atStart => exact ⟨0, Nat.zero_le _, rfl, Lib.hid (fun j hj => by omega)⟩
  case round =>
    obtain ⟨k, hk, rfl, hE⟩ := hrel
    by_cases hlt : k < n
    · obtain ⟨b, off, A', c', hA, hb, hc, hs⟩ := h.rowAt (i := k) (L := (ro rows k).length) (by rw [hN.out]; exact hlt) rfl
      have hcall := hF k A' c' (by rw [hN.out]; exact hlt) hs
      subst hA
      have hkn : (k : Int) < n := by omega
      cases hP : P (ro rows k) with
      | false =>
        rw [hP] at hcall
        have hE2 : Hid (∀ j, j < k + 1 → P (ro rows j) = false) := Lib.hid fun j hj => by
          by_cases e : j = k
          · subst e; exact hP
          · exact hE.out j (by omega)
        clear hE hP
        go_wp2_with (go_at_call 74; refine hcall.mono ?_; rintro e w' ⟨rfl, rfl⟩)
        go_round
        case rel => exact ⟨k + 1, by omega, by simp, hE2⟩
        case measure => simp [intOf]; omega
      | true =>
        rw [hP] at hcall
        have hR : Hid (rows.findIdx? P = some k) := Lib.hid (by
          rw [List.findIdx?_eq_some_iff_getElem]
          refine ⟨by rw [hN.out]; exact hlt, ?_, fun j hj => ?_⟩
          · rw [← hP, ro_at (List.getElem?_eq_getElem (by rw [hN.out]; exact hlt))]
          · have h1 := hE.out j hj
            rw [ro_at (List.getElem?_eq_getElem (by rw [hN.out]; omega))] at h1
            rw [h1]; simp)
        clear hE hP
        go_wp2_with (go_at_call 74; refine hcall.mono ?_; rintro e w' ⟨rfl, rfl⟩)
        go_ret
        rw [hR.out]
        exact ⟨rfl, rfl⟩
    · obtain rfl : k = n := by omega
      have hR : Hid (rows.findIdx? P = none) := Lib.hid (by
        rw [List.findIdx?_eq_none_iff]
        intro r hr
        obtain ⟨i, hi⟩ := List.mem_iff_getElem?.1 hr
        have h1 := hE.out i (by rw [← hN.out]; exact (List.getElem?_eq_some_iff.1 hi).1)
        rw [ro_at hi] at h1
        exact h1)
      clear hE
      go_wp2
      go_ret
      rw [hR.out]
      exact ⟨rfl, rfl⟩

theorem contains_shape (pt : Value) (P : List Int → Bool) (A : Option Addr) (c n : Nat) (rows : List (List Int)) (hn : rows.length = n) (hl : n ≤ 1000) (w : World) (h : Sll w A c rows) (hF : Tells 74 pt P rows w) :
    Calls Try.prog 73 #[.slice A n c, .func (.func 74) #[] #[pt]] w fun e w' => e = .returned (.bool (rows.findIdx? P).isSome) ∧ w = w' := by
  have hi := index_shape pt P A c n rows hn hl w h hF
  have hE : Hid (decide (0 ≤ idxI (rows.findIdx? P)) = (rows.findIdx? P).isSome) := Lib.hid (by
    cases rows.findIdx? P with
    | none => rfl
    | some b => exact decide_eq_true (Int.natCast_nonneg b))
  generalize idxI (rows.findIdx? P) = I at *
  go_enter Try.func73, Try.ntmps73
  go_wp2_with fail
  refine hi.mono ?_; rintro e w' ⟨rfl, rfl⟩
  go_wp2_with fail
  go_ret
  rw [← hE.out]
  exact ⟨rfl, rfl⟩


theorem shape_any (A : Option Addr) (c : Nat) (rows : List (List Int)) (hl : rows.length ≤ 1000) (w : World) (h : Sll w A c rows) :
    Calls Try.prog 46 #[.slice A rows.length c] w fun e w' => e = .returned (.bool (evenB rows)) ∧ Below w.heap.size w w' := by
  have hBx := Boxed.new w 25 (.slice A rows.length c)
  have hcb := hBx.cell
  have hB := Lib.hid (bnew (Below.refl w.heap.size w) (.cells #[.slice A rows.length c] 25) (Nat.le_refl _))
  have hEV : Hid (evenB rows = (decide (0 < rows.length) && decide (0 < ncol rows) && rect rows)) := Lib.hid rfl
  by_cases h0 : 0 < rows.length
  · obtain ⟨b, off, A', c', hA, hb, hcr, hs⟩ := h.rowAt (i := 0) (L := ncol rows) h0 rfl
    have hcon := contains_shape (.pointer (some ⟨w.heap.size, 0, none⟩)) (fun r => r.length != ncol rows) A c rows.length rows rfl hl (w.alloc (.cells #[.slice A rows.length c] 25)) (h.push _)
      (fun i A' c' hi hs => shape1_any A' c' _ (ro rows i) rfl A c rows h0 w.heap.size _ hBx (h.push _))
    subst hA
    rw [Nat.add_zero] at hcr
    have hcr2 : (w.alloc (.cells #[.slice (some ⟨b, off, none⟩) rows.length c] 25)).cell? ⟨b, off, none⟩ = some (.slice A' (ncol rows) c') := (World.cell?_alloc_some _ _ _ (by rw [hcr]; rfl)).trans hcr
    have h0' : (0 : Int) < rows.length := by omega
    by_cases h1 : 0 < ncol rows
    · have hE : Hid ((!(rows.findIdx? fun r => r.length != ncol rows).isSome) = evenB rows) := Lib.hid (by rw [hEV.out, decide_eq_true h0, decide_eq_true h1]; rfl)
      have h1' : (0 : Int) < ncol rows := by omega
      generalize (rows.findIdx? fun r => r.length != ncol rows).isSome = I at *
      clear hBx
      go_enter Try.func46, Try.ntmps46
      go_wp2_with fail
      refine hcon.mono ?_; rintro e w' ⟨rfl, rfl⟩
      go_wp2_with fail
      go_ret
      rw [← hE.out]
      exact ⟨rfl, hB.out⟩
    · have hE : Hid (evenB rows = false) := Lib.hid (by rw [hEV.out, decide_eq_false h1, Bool.and_false, Bool.false_and])
      have h1' : ¬ (0 : Int) < ncol rows := by omega
      clear hBx hcon
      go_enter Try.func46, Try.ntmps46
      go_wp2_with fail
      go_ret
      rw [hE.out]
      exact ⟨rfl, hB.out⟩
  · have hE : Hid (evenB rows = false) := Lib.hid (by rw [hEV.out, decide_eq_false h0, Bool.false_and, Bool.false_and])
    have h0' : ¬ (0 : Int) < rows.length := by omega
    clear hBx
    go_enter Try.func46, Try.ntmps46
    go_wp2_with fail
    go_ret
    rw [hE.out]
    exact ⟨rfl, hB.out⟩

/-- Numbers of the call's own that may be written. -/
def OwnI (w : World) (base g n c : Nat) (xs : List Int) : Prop := w.ownsRow base 3 1 (.slice (some ⟨g, 0, none⟩) n c) n (xs.map (Value.int .i64))
section
variable {w w' : World} {base g n c : Nat} {xs : List Int}
theorem OwnI.cell {i : Nat} {x : Int} (h : OwnI w base g n c xs) (hx : xs[i]? = some x) : w.cell? ⟨g, i, none⟩ = some (.int .i64 x) := by
  have hi := (List.getElem?_eq_some_iff.1 hx).1
  have hl : xs.length = n := by simpa using h.1
  rw [World.ownsRow.cellAt h i (by omega), List.getElem?_map, hx]; rfl
theorem OwnI.put (h : OwnI w base g n c xs) (i : Nat) (x : Int) : OwnI (w.setCell ⟨g, i, none⟩ (.int .i64 x)) base g n c (xs.set i x) := by
  have := (World.ownsRow.stored h i (.int .i64 x)).1
  unfold OwnI
  rw [List.map_set]
  exact this
end

set_option maxHeartbeats 1000000 in
theorem indices_row (A : Option Addr) (c : Nat) (ps : List (Int × Int)) (hl : ps.length ≤ 100) (hb : ∀ q ∈ ps, 0 ≤ q.1 ∧ q.1 ≤ 1000) (w : World) (h : Pt w A c ps) :
    Calls Try.prog 77 #[.slice A ps.length c] w fun e w' => RowI w e w' (px ps) := by
  obtain ⟨i0, hi, hz0, hz1, hz2⟩ := info_parts info_int
  have hB8 : Hid (i0.bytes * ps.length ≤ 281474976710656) := Lib.hid (by rw [hz2]; omega)
  have hD := Lib.hid (show fillL (co (px ps)) ps.length ps.length = px ps from by rw [fillL_done, ← px_len]; exact range_co _)
  go_enter Try.func77, Try.ntmps77
  go_wp2_with (at_make; refine wpList_make_full _ rfl _ _ 36 rfl w.heap.size 3 i0 (.int .i64 0) 1 Try.underlying36 hi hz0 hz1 .i64 .i64 _ _ ps.length rfl rfl (by omega) (by omega) hB8.out (by simp only [maxLen]; omega) (Nat.le_refl _) ?_; intro w1 hown1 hgrow1)
  have hb1 : Below w.heap.size w w1 := (Below.refl _ w).grown hgrow1 (Nat.le_refl _) (fun k e => by cases e)
  simp only [Value.cells, toList_madeCells_one, Nat.mul_one] at hown1
  have hown2 : OwnI w1 w.heap.size w.heap.size ps.length ps.length (fillL (co (px ps)) ps.length 0) := by
    unfold OwnI; rw [fillL_start]; simpa using hown1
  clear hown1 hgrow1
  go_loopw [11] (fun i wr => ∃ k : Nat, k ≤ ps.length ∧ i = .int .i64 k ∧ OwnI wr w.heap.size w.heap.size ps.length ps.length (fillL (co (px ps)) ps.length k) ∧ Below w.heap.size w wr) (fun i _ => ps.length - (intOf i).toNat)
  case atStart => exact ⟨0, Nat.zero_le _, rfl, hown2, hb1⟩
  case round =>
    obtain ⟨k, hk, rfl, hO, hB⟩ := hrel
    by_cases hlt : k < ps.length
    · obtain ⟨b, off, x, y, hA, hbl, hx, hcx, hcy⟩ := (h.next hB).at_ (by omega)
      subst hA
      have hxb := hb _ (List.mem_of_getElem? hx)
      have hxb1 : 0 ≤ x ∧ x ≤ 1000 := hxb
      have hset := fillL_set (co (px ps)) ps.length k
      rw [px_at hx] at hset
      have hS := Lib.hid hset
      have hcell := hO.cell (fillL_get (co (px ps)) ps.length k k hlt)
      have hfz := World.ownsRow.frozenAt hO k
      have hlt2 := World.ownsRow.lt hO w.heap.size rfl
      have hne : w.heap.size ≠ wr.heap.size := by omega
      have hne2 : b ≠ wr.heap.size := by omega
      have hput := Lib.hid (World.ownsRow.alloc (hO.put k x) (.cells #[.int .u64 x, .int .u64 y] 56))
      have hbel := Lib.hid (bnew (hB.setCell (p := ⟨w.heap.size, k, none⟩) (Nat.le_refl _) (.int .i64 x)) (.cells #[.int .u64 x, .int .u64 y] 56) (Nat.le_refl _))
      have hkN : (k : Int) < ps.length := by omega
      have hci : IntKind.i64.wrap x = x := IntWalk.i64_in _ (by omega)
      clear hset hx hxb
      go_wp2
      go_roundw
      case rel => exact ⟨k + 1, by omega, by simp, by rw [← hS.out]; exact hput.out, hbel.out⟩
      case measure => simp [intOf]; omega
    · obtain rfl : k = ps.length := by omega
      rw [hD.out] at hO
      have hs3 := Lib.hid (Si.of_own hO)
      have hlen := Lib.hid (px_len ps)
      go_wp2
      go_ret
      exact ⟨_, _, by rw [hlen.out]; rfl, hs3.out, hB⟩

set_option maxHeartbeats 2000000 in
theorem rem_row (p : Int) (hp : OkP p) (A B D : Option Addr) (c d f : Nat) (m : List (List Int)) (x : List Int) (outs : List (Int × Int)) (hz : Sized m) (hE : ∀ r ∈ m, El p r) (hx : El p x) (hr : rect m = true) (hn : ncol m = x.length) (lo : outs.length ≤ 100)
    (ho : ∀ q ∈ outs, (0 ≤ q.1 ∧ q.1 < (m.length : Int)) ∧ 0 ≤ q.2 ∧ q.2 < p) (w : World) (h : Sll w A c m) (sx : Sl w B d x) (so : Pt w D f outs) :
    Calls Try.prog 80 #[.int .u64 p, .slice A m.length c, .slice B x.length d, .slice D outs.length f] w fun e w' => Row w e w' (rgt p m x outs) := by
  obtain ⟨i0, hi0, hz0, hz1, hz2⟩ := info_parts info_u64
  have hbd := hp.bd
  have hN := hz.1
  have h1 := apply_ok p hp A B c d m x hz hE hx hr hn w h sx
  have hB8 : Hid (i0.bytes * outs.length ≤ 281474976710656) := Lib.hid (by rw [hz2]; omega)
  have hapl := app_len p m x
  have hapc := fun i (hi : i < m.length) => app_co (p := p) x hi
  generalize hAP : app p m x = ap at *
  have hD : Hid (fillL (co (rgt p m x outs)) outs.length outs.length = rgt p m x outs) := Lib.hid (by rw [fillL_done, ← rgt_len p m x outs]; exact range_co _)
  have hG : Hid (∀ k x0 y, outs[k]? = some (x0, y) → co (rgt p m x outs) k = fsub p y (dot p (ro m x0.toNat) x)) := Lib.hid fun k x0 y hk => co_at (by unfold rgt; rw [List.getElem?_map, hk]; rfl)
  have hRL := Lib.hid (rgt_len p m x outs)
  have hdb := fun a => dot_bd (p := p) (by omega) a x
  go_enter Try.func80, Try.ntmps80
  go_wp2_with fail
  refine h1.mono ?_; rintro e w1 ⟨Ap, cp, rfl, sp, hB1⟩
  have so1 := so.next hB1
  clear h1
  rw [hapl]
  go_wp2_with (at_make; refine wpList_make_full _ rfl _ _ 31 rfl w1.heap.size 22 i0 (.int .u64 0) 1 Try.underlying31 hi0 hz0 hz1 .i64 .i64 _ _ outs.length rfl rfl (by omega) (by omega) hB8.out (by simp only [maxLen]; omega) (Nat.le_refl _) ?_; intro w2 hown2 hgrow2)
  have hb2 : Below w1.heap.size w1 w2 := (Below.refl _ w1).grown hgrow2 (Nat.le_refl _) (fun k e => by cases e)
  simp only [Value.cells, toList_madeCells_one, Nat.mul_one] at hown2
  have hO2 : OwnAt w2 w1.heap.size w1.heap.size outs.length outs.length (fillL (co (rgt p m x outs)) outs.length 0) := by
    unfold OwnAt; rw [fillL_start]; simpa using hown2
  clear hown2 hgrow2
  go_loopw [26] (fun i wr => ∃ k : Nat, k ≤ outs.length ∧ i = .int .i64 k ∧ OwnAt wr w1.heap.size w1.heap.size outs.length outs.length (fillL (co (rgt p m x outs)) outs.length k) ∧ Below w1.heap.size w1 wr) (fun i _ => outs.length - (intOf i).toNat)
  case atStart => exact ⟨0, Nat.zero_le _, rfl, hO2, hb2⟩
  case round =>
    obtain ⟨k, hk, rfl, hO, hB⟩ := hrel
    by_cases hlt : k < outs.length
    · obtain ⟨b, off, x0, y, hA, hbl, hx0, hcx, hcy⟩ := (so1.next hB).at_ hlt
      subst hA
      have hq := ho _ (List.mem_of_getElem? hx0)
      obtain ⟨q, rfl⟩ : ∃ q : Nat, x0 = (q : Int) := ⟨x0.toNat, by have := hq.1.1; omega⟩
      have hqm : (q : Int) < m.length := hq.1.2
      have hyb : 0 ≤ y ∧ y < p := hq.2
      obtain ⟨b3, off3, z, hA3, hbl3, hz3, hcz⟩ := (sp.next hB).at_ (k := q) (by omega)
      subst hA3
      have hzd : z = dot p (ro m q) x := by rw [← hapc q (by omega), co_at hz3]
      have hzb : 0 ≤ z ∧ z < p := by rw [hzd]; exact hdb _
      have hset := fillL_set (co (rgt p m x outs)) outs.length k
      rw [hG.out k _ y hx0, Int.toNat_natCast, ← hzd] at hset
      have hS := Lib.hid hset
      have hcell := hO.cell (fillL_get (co (rgt p m x outs)) outs.length k k hlt)
      have hfz := hO.frozen k
      have hlt2 := hO.lt
      have hne : w1.heap.size ≠ wr.heap.size := by omega
      have hne2 : b ≠ wr.heap.size := by omega
      have hne3 : b3 ≠ wr.heap.size := by omega
      have hput := Lib.hid (((hO.put k (fsub p y z)).push (.cells #[.int .u64 (q : Int), .int .u64 y] 56)).drew)
      have hbel := Lib.hid ((bnew (hB.setCell (p := ⟨w1.heap.size, k, none⟩) (Nat.le_refl _) (.int .u64 (fsub p y z))) (.cells #[.int .u64 (q : Int), .int .u64 y] 56) (Nat.le_refl _)).drew)
      rw [hS.out] at hput
      have hkN : (k : Int) < outs.length := by omega
      clear hset hx0 hz3 hzd hO
      go_wp2_with fail
      refine wp_region_still_tail 12 (by kernel_rfl) (by kernel_rfl) ?_
      simp only [List.take_succ_cons, List.take_zero, List.drop_succ_cons, List.drop_zero]
      change wpStill _ _ (World.drew _) (fun a' => wpList _ _ _ _ a' (World.drew _)) _ _
      repeat still_step
      still_call (still_of (sub_any _ _ _ hp hyb.1 hyb.2 hzb.1 hzb.2 _))
      repeat still_step
      refine wpStill_nil ?_
      go_wp2_with fail
      go_roundw
      case rel => exact ⟨k + 1, by omega, by simp, hput.out, hbel.out⟩
      case measure => simp [intOf]; omega
    · obtain rfl : k = outs.length := by omega
      rw [hD.out] at hO
      have hs3 := Lib.hid hO.sl
      have hBB := hB1.trans (hB.mono hB1.size)
      go_wp2
      go_ret
      exact ⟨_, _, by rw [hRL.out]; rfl, hs3.out, hBB⟩
end Go.Proofs.Ytjijlefplidhpaa

/- completeInputs and Complete of package hyperinvertible: the completed vectors or the error. Nothing that lay is changed. Conditions: a supported prime, words of its field, at most 25 rows and 25 columns. -/
namespace Go.Proofs.Ytjijlefplidhpaa
set_option maxRecDepth 100000
open Go.RowKit PolyMath FieldMath MatMath

/-- What Complete is asked within its conditions. -/
structure CArg (p : Int) (m : List (List Int)) (ins outs : List (Int × Int)) : Prop where
  rows : m.length ≤ 25
  cols : ∀ i, (ro m i).length ≤ 25
  el : ∀ r ∈ m, El p r
  inw : PWords ins
  outw : PWords outs
  inv : ∀ q ∈ ins, q.2 < p
  outv : ∀ q ∈ outs, q.2 < p
  li : ins.length ≤ 100
  lo : outs.length ≤ 100
section
variable {p : Int} {m : List (List Int)} {ins outs : List (Int × Int)}
theorem CArg.sized (h : CArg p m ins outs) : Sized m := ⟨by have := h.rows; omega, fun i => by have := h.cols i; omega⟩
theorem CArg.ne (h : CArg p m ins outs) : ∀ q ∈ ins, 0 ≤ q.2 ∧ q.2 < p := fun q hq => ⟨(h.inw q hq).2.1, h.inv q hq⟩
theorem CArg.on (h : CArg p m ins outs) : ∀ q ∈ outs, 0 ≤ q.2 ∧ q.2 < p := fun q hq => ⟨(h.outw q hq).2.1, h.outv q hq⟩
theorem CArg.arg (h : CArg p m ins outs) (ha : argB m ins outs = true) : Arg m ins outs := .of (fun q hq => (h.inw q hq).1.1) (fun q hq => (h.outw q hq).1.1) ha
end
theorem Arg.subOk {m : List (List Int)} {ins outs : List (Int × Int)} (h : Arg m ins outs) : subB m (px outs) (oI (MatMath.rest (ncol m) (idx ins))) = true := subB_iff.2 ⟨fun i hi => by
    obtain ⟨q, hq, rfl⟩ := List.mem_map.1 hi
    exact h.outl q hq, fun i hi j hj => by
    obtain ⟨q, hq, rfl⟩ := List.mem_map.1 hi
    obtain ⟨k, hk, rfl⟩ := List.mem_map.1 hj
    have h1 := (mem_rest.1 hk).1
    have h2 := h.outl q hq
    have h3 := rect_iff.1 h.rect q.1.toNat (by omega)
    rw [h3]
    omega⟩

set_option maxHeartbeats 2000000 in
theorem compIn_none (p : Int) (hp : OkP p) (A B D U : Option Addr) (c d f u : Nat) (m : List (List Int)) (ins outs : List (Int × Int)) (hc : CArg p m ins outs) (ha : Arg m ins outs) (hr : rnk p (sqm m ins outs) < outs.length)
    (w : World) (h : Sll w A c m) (so : Pt w D f outs) (su : Si w U u (oI (rest (ncol m) (idx ins)))) :
    Calls Try.prog 48 #[.int .u64 p, .slice A m.length c, .slice B ins.length d, .slice D outs.length f, .slice U (oI (rest (ncol m) (idx ins))).length u] w fun e w' => e = .returned (.tuple #[.slice none 0 0, .int .i64 8]) ∧ Below w.heap.size w w' := by
  have hbd := hp.bd
  have hrows := hc.rows
  have hlo := hc.lo
  have hM := ha.sq (p := p) (by omega) hc.el
  have hul : (oI (rest (ncol m) (idx ins))).length ≤ 100 := by rw [oI_len, ha.rest]; exact hlo
  have g1 := indices_row D f outs hlo (fun q hq => by have := ha.outl q hq; omega) w so
  have g2 := fun W A1 c1 (q1 : Sll W A c m) (q2 : Si W A1 c1 (px outs)) (q3 : Si W U u (oI (rest (ncol m) (idx ins)))) => sub_ok A A1 U c c1 u m (px outs) _ (by omega) (fun i => by have := hc.cols i; omega) (by rw [px_len]; omega) (by omega) ha.subOk W q1 q2 q3
  have hsq : subM m (px outs) (oI (rest (ncol m) (idx ins))) = sqm m ins outs := rfl
  rw [hsq] at g2
  have hz2 : Sized (sqm m ins outs) := hM.sized (by omega) (by omega)
  have g3 := fun W A2 c2 (q1 : Sll W A2 c2 (sqm m ins outs)) => rank_ok p hp A2 c2 _ hz2 hM.els hM.isRect W q1
  have hr' : (rnk p (sqm m ins outs) : Int) < (sqm m ins outs).length := by rw [hM.rows]; omega
  clear hsq hM hz2 hr
  generalize sqm m ins outs = SQ at *
  generalize rnk p SQ = RK at *
  go_enter Try.func48, Try.ntmps48
  go_wp2_with fail
  refine g1.mono ?_; rintro e w1 ⟨A1, c1, rfl, s1, hB1⟩
  clear g1
  go_wp2_with fail
  refine (g2 _ _ _ (h.next hB1) s1 (su.next hB1)).mono ?_; rintro e w2 ⟨A2, c2, rfl, s2, hB2⟩
  clear g2
  go_wp2_with fail
  refine (g3 _ _ _ s2).mono ?_; rintro e w3 ⟨rfl, hB3⟩
  clear g3
  go_wp2_with fail
  go_ret2
  exact ⟨rfl, (hB1.trans (hB2.mono hB1.size)).trans (hB3.mono (hB1.trans (hB2.mono hB1.size)).size)⟩

set_option maxHeartbeats 4000000 in
theorem compIn_some (p : Int) (hp : OkP p) (A B D U : Option Addr) (c d f u : Nat) (m : List (List Int)) (ins outs : List (Int × Int)) (s : List Int) (hc : CArg p m ins outs) (ha : Arg m ins outs) (hr : ¬ rnk p (sqm m ins outs) < outs.length) (hs : slv p (sqm m ins outs) (rgt p m (xin m ins) outs) = some s)
    (w : World) (h : Sll w A c m) (si : Pt w B d ins) (so : Pt w D f outs) (su : Si w U u (oI (rest (ncol m) (idx ins)))) :
    Calls Try.prog 48 #[.int .u64 p, .slice A m.length c, .slice B ins.length d, .slice D outs.length f, .slice U (oI (rest (ncol m) (idx ins))).length u] w fun e w' => RowE w e w' (fil (xin m ins) (rest (ncol m) (idx ins)) s (rest (ncol m) (idx ins)).length) := by
  obtain ⟨i0, hi0, hz0, hz1, hz2⟩ := info_parts info_u64
  have hbd := hp.bd
  have hrows := hc.rows
  have hlo := hc.lo
  have hli := hc.li
  have hcols : ncol m ≤ 25 := hc.cols 0
  have hM := ha.sq (p := p) (by omega) hc.el
  have hre := rgt_el (p := p) (by omega) m (xin m ins) outs
  have hrl := rgt_len p m (xin m ins) outs
  have hsl : s.length = (rest (ncol m) (idx ins)).length := by
    have h1 := (slv_some hp.good hM.isRect hM.els hre (by rw [hM.rows, hrl]) hs).2.1
    rw [h1, ha.rest]
    by_cases h0 : 0 < outs.length
    · exact hM.cols h0
    · have e1 : outs = [] := List.eq_nil_of_length_eq_zero (by omega)
      subst e1
      rfl
  have hul : (oI (rest (ncol m) (idx ins))).length ≤ 100 := by rw [oI_len, ha.rest]; exact hlo
  have g1 := indices_row D f outs hlo (fun q hq => by have := ha.outl q hq; omega) w so
  have g2 := fun W A1 c1 (q1 : Sll W A c m) (q2 : Si W A1 c1 (px outs)) (q3 : Si W U u (oI (rest (ncol m) (idx ins)))) => sub_ok A A1 U c c1 u m (px outs) _ (by omega) (fun i => by have := hc.cols i; omega) (by rw [px_len]; omega) (by omega) ha.subOk W q1 q2 q3
  have hsq : subM m (px outs) (oI (rest (ncol m) (idx ins))) = sqm m ins outs := rfl
  rw [hsq] at g2
  have hz2' : Sized (sqm m ins outs) := hM.sized (by omega) (by omega)
  have g3 := fun W A2 c2 (q1 : Sll W A2 c2 (sqm m ins outs)) => rank_ok p hp A2 c2 _ hz2' hM.els hM.isRect W q1
  have g4 := fun W G (q1 : Sll W A c m) (q2 : Sl W (some ⟨G, 0, none⟩) (ncol m) (xin m ins)) (q3 : Pt W D f outs) => rem_row p hp A (some ⟨G, 0, none⟩) D c (ncol m) f m (xin m ins) outs hc.sized hc.el (ha.xin_el (by omega) hc.ne) ha.rect (xin_len m ins).symm hlo (fun q hq => ⟨ha.outl q hq, hc.on q hq⟩) W q1 q2 q3
  rw [xin_len] at g4
  have g5 := fun W A2 c2 A5 c5 (q1 : Sll W A2 c2 (sqm m ins outs)) (q2 : Sl W A5 c5 (rgt p m (xin m ins) outs)) => solve_far p hp A2 A5 c2 c5 (sqm m ins outs) _ hz2' hM.els hre hM.isRect (by rw [hM.rows, hrl]) W q1 q2
  have g5' : ∀ W A2 c2 A5 c5 (_ : Sll W A2 c2 (sqm m ins outs)) (_ : Sl W A5 c5 (rgt p m (xin m ins) outs)), Calls Try.prog 79 #[.int .u64 p, .slice A2 (sqm m ins outs).length c2, .slice A5 (rgt p m (xin m ins) outs).length c5] W fun e w' => RowF W e w' s := fun W A2 c2 A5 c5 q1 q2 => (g5 W A2 c2 A5 c5 q1 q2).mono fun e w' hx => by
    rcases hx with ⟨y, h1, h2⟩ | ⟨h1, _⟩
    · rw [hs] at h1; injection h1 with h1; subst h1; exact h2
    · rw [hs] at h1; cases h1
  have hr' : ¬ (rnk p (sqm m ins outs) : Int) < (sqm m ins outs).length := by rw [hM.rows]; omega
  clear hsq hM hz2' hr g5 hre hs
  obtain ⟨b0, off0, A0, c0, hA0, hb0, hcr0, _⟩ := h.rowAt (i := 0) (L := ncol m) ha.rows rfl
  rw [Nat.add_zero] at hcr0
  have h0' : (0 : Int) < m.length := by have := ha.rows; omega
  have hB8 : Hid (i0.bytes * ncol m ≤ 281474976710656) := Lib.hid (by rw [hz2]; omega)
  have hstart : Hid (List.replicate (ncol m) (0 : Int) = putL (List.replicate (ncol m) 0) (ins.take 0)) := Lib.hid rfl
  have hend : Hid (putL (List.replicate (ncol m) 0) (ins.take ins.length) = xin m ins) := Lib.hid (by rw [List.take_length]; rfl)
  have hinR : Hid (∀ q ∈ ins, 0 ≤ q.1 ∧ q.1 < (ncol m : Int)) := Lib.hid fun q hq => ⟨(hc.inw q hq).1.1, by have h1 := (hc.inw q hq).1.1; have := ha.inl q.1.toNat (List.mem_map.2 ⟨q, hq, rfl⟩); omega⟩
  have hLlt := Lib.hid ha.lt
  have hxl := Lib.hid (xin_len m ins)
  generalize sqm m ins outs = SQ at *
  generalize rnk p SQ = RK at *
  generalize rgt p m (xin m ins) outs = RG at *
  generalize hLL : rest (ncol m) (idx ins) = L at *
  clear hLL hrl
  have hoi := Lib.hid (oI_len L)
  have hol : (oI L).length = s.length := by rw [oI_len, hsl]
  rw [hol]
  have hOL := Lib.hid hol
  have hSL := Lib.hid hsl
  have hs100 : s.length ≤ 100 := by omega
  clear hol hsl hul
  subst hA0
  rw [hOL.out] at g2
  go_enter Try.func48, Try.ntmps48
  go_wp2_with fail
  refine g1.mono ?_; rintro e w1 ⟨A1, c1, rfl, s1, hB1⟩
  clear g1
  go_wp2_with fail
  refine (g2 _ _ _ (h.next hB1) s1 (su.next hB1)).mono ?_; rintro e w2 ⟨A2, c2, rfl, s2, hb2⟩
  have hB2 := hB1.trans (hb2.mono hB1.size)
  clear g2 hb2 hB1 s1
  go_wp2_with fail
  refine (g3 _ _ _ s2).mono ?_; rintro e w3 ⟨rfl, hb3⟩
  have hB3 := hB2.trans (hb3.mono hB2.size)
  replace s2 := s2.next hb3
  clear g3 hb3 hB2
  have hcr3 := (hB3.cell (p := ⟨b0, off0, none⟩) hb0).trans hcr0
  go_wp2_with (at_make; refine wpList_make_full _ rfl _ _ 31 rfl w3.heap.size 22 i0 (.int .u64 0) 1 Try.underlying31 hi0 hz0 hz1 .i64 .i64 _ _ (ncol m) rfl rfl (by omega) (by omega) hB8.out (by simp only [maxLen]; omega) (Nat.le_refl _) ?_; intro w4 hown4 hgrow4)
  have hb4 : Below w3.heap.size w3 w4 := (Below.refl _ w3).grown hgrow4 (Nat.le_refl _) (fun k e => by cases e)
  simp only [Value.cells, toList_madeCells_one, Nat.mul_one] at hown4
  have hO4 : OwnAt w4 w3.heap.size w3.heap.size (ncol m) (ncol m) (putL (List.replicate (ncol m) 0) (ins.take 0)) := by
    unfold OwnAt; rw [← hstart.out]; simpa using hown4
  clear hown4 hgrow4
  go_loopw [48] (fun i wr => ∃ k : Nat, k ≤ ins.length ∧ i = .int .i64 k ∧ OwnAt wr w3.heap.size w3.heap.size (ncol m) (ncol m) (putL (List.replicate (ncol m) 0) (ins.take k)) ∧ Below w3.heap.size w3 wr) (fun i _ => ins.length - (intOf i).toNat)
  case atStart => exact ⟨0, Nat.zero_le _, rfl, hO4, hb4⟩
  case round =>
    obtain ⟨k, hk, rfl, hO, hB⟩ := hrel
    by_cases hlt : k < ins.length
    · obtain ⟨b, off, x, y, hAi, hbl, hx, hcx, hcy⟩ := ((si.next hB3).next hB).at_ hlt
      subst hAi
      have hq := hinR.out _ (List.mem_of_getElem? hx)
      have hq1 : 0 ≤ x := hq.1
      have hq2 : x < (ncol m : Int) := hq.2
      obtain ⟨q, rfl⟩ : ∃ q : Nat, x = (q : Int) := ⟨x.toNat, by omega⟩
      have hset := putL_next (List.replicate (ncol m) 0) hx
      rw [Int.toNat_natCast] at hset
      have hS := Lib.hid hset
      obtain ⟨z, hz⟩ : ∃ z, (putL (List.replicate (ncol m) 0) (ins.take k))[q]? = some z := ⟨_, List.getElem?_eq_getElem (by rw [putL_len, List.length_replicate]; omega)⟩
      have hcell := hO.cell hz
      have hfz := hO.frozen q
      have hlt2 := hO.lt
      have hne : w3.heap.size ≠ wr.heap.size := by omega
      have hne2 : b ≠ wr.heap.size := by omega
      have hput := Lib.hid ((hO.put q y).push (.cells #[.int .u64 (q : Int), .int .u64 y] 56))
      have hbel := Lib.hid (bnew (hB.setCell (p := ⟨w3.heap.size, q, none⟩) (Nat.le_refl _) (.int .u64 y)) (.cells #[.int .u64 (q : Int), .int .u64 y] 56) (Nat.le_refl _))
      have hkN : (k : Int) < ins.length := by omega
      clear hset hx hq hz
      go_wp2
      go_roundw
      case rel => exact ⟨k + 1, by omega, by simp, by rw [hS.out]; exact hput.out, hbel.out⟩
      case measure => simp [intOf]; omega
    · obtain rfl : k = ins.length := by omega
      rw [hend.out] at hO
      have hB5 := hB3.trans (hB.mono hB3.size)
      replace s2 := s2.next hB
      rename World => w5
      go_wp2_with fail
      refine (g4 _ _ (h.next hB5) hO.sl (so.next hB5)).mono ?_; rintro e w6 ⟨A6, c6, rfl, s6, hb6⟩
      clear g4
      have hO6 := OwnAt.next hO hb6
      have hB6 := hB5.trans (hb6.mono hB5.size)
      replace s2 := s2.next hb6
      clear hO hb6 hB5
      go_wp2_with fail
      refine (g5' _ _ _ _ _ s2 s6).mono ?_; rintro e w7 ⟨A7, c7, rfl, s7, hb7, hfar⟩
      clear g5'
      have hgl := hO6.lt
      have hO7 := OwnAt.next hO6 hb7
      have hB7 := hB6.trans (hb7.mono hB6.size)
      have hfar' : ∀ ad, A7 = some ad → some ad.block ≠ some w3.heap.size := fun ad e e2 => by
        have := hfar ad e
        injection e2 with e2
        omega
      clear hO6 hb7 hB6 s6 s2 hfar
      go_wp2_with fail
      go_loopw [72] (fun i wr => ∃ k : Nat, k ≤ s.length ∧ i = .int .i64 k ∧ OwnAt wr w3.heap.size w3.heap.size (ncol m) (ncol m) (fil (xin m ins) L s k) ∧ w7.grownBy wr (some w3.heap.size) ∧ Below w.heap.size w wr) (fun i _ => s.length - (intOf i).toNat)
      case atStart => exact ⟨0, Nat.zero_le _, rfl, hO7, World.grownBy.refl _ _, hB7⟩
      case round =>
        obtain ⟨k, hk, rfl, hO, hG, hB⟩ := hrel
        by_cases hlt : k < s.length
        · obtain ⟨b, off, y, hA7, hbl, hy, hcy⟩ := (s7.grown hG hfar').at_ hlt
          obtain ⟨bu, offu, z, hAu, hblu, hzu, hcu⟩ := (su.next hB).at_ (k := k) (by rw [hOL.out]; exact hlt)
          have hkL : k < L.length := by rw [← hSL.out]; exact hlt
          rw [oI_at hkL] at hzu
          injection hzu with hzu
          subst hA7 hAu hzu
          have hlq : L.getD k 0 < ncol m := by rw [← hxl.out]; exact hLlt.out _ (getD_mem hkL)
          have hS : Hid ((fil (xin m ins) L s k).set (L.getD k 0) y = fil (xin m ins) L s (k + 1)) := Lib.hid (by show _ = (fil (xin m ins) L s k).set _ (co s k); rw [co_at hy])
          obtain ⟨z, hz⟩ : ∃ z, (fil (xin m ins) L s k)[L.getD k 0]? = some z := ⟨_, List.getElem?_eq_getElem (by rw [fil_len, hxl.out]; exact hlq)⟩
          have hcell := hO.cell hz
          have hfz := hO.frozen (L.getD k 0)
          have hlt2 := hO.lt
          have hput := Lib.hid (hO.put (L.getD k 0) y)
          rw [hS.out] at hput
          have hgr := Lib.hid (grown_trans hG (hO.grow (L.getD k 0) y))
          have hbel := Lib.hid (hB.setCell (p := ⟨w3.heap.size, L.getD k 0, none⟩) hB3.size (.int .u64 y))
          have hlqI : ((L.getD k 0 : Nat) : Int) < ncol m := by omega
          have hkN : (k : Int) < s.length := by omega
          generalize L.getD k 0 = P at *
          clear hy hz hO
          go_wp2
          go_roundw
          case rel => exact ⟨k + 1, by omega, by simp, hput.out, hgr.out, hbel.out⟩
          case measure => simp [intOf]; omega
        · obtain rfl : k = s.length := by omega
          have hO9 := Lib.hid hO.sl
          go_wp2
          go_ret2
          exact ⟨_, _, by rw [fil_len, hxl.out]; rfl, by rw [← hSL.out]; exact hO9.out, hB⟩
end Go.Proofs.Ytjijlefplidhpaa

/- Complete of package hyperinvertible: the completed vectors or the error. Nothing that lay is changed. Conditions: a supported prime, words of its field, at most 25 rows and 25 columns. -/
namespace Go.Proofs.Ytjijlefplidhpaa
set_option maxRecDepth 100000
open Go.RowKit PolyMath FieldMath MatMath

/-- What an error hands back. -/
def Err3 (n : Int) (w : World) (e : Ending) (w' : World) : Prop := e = .returned (.tuple #[.slice none 0 0, .slice none 0 0, .int .i64 n]) ∧ Below w.heap.size w w'
/-- Two vectors and no error. -/
def Two3 (x y : List Int) (w : World) (e : Ending) (w' : World) : Prop :=
  ∃ A c B d, e = .returned (.tuple #[.slice A x.length c, .slice B y.length d, .int .i64 0]) ∧ Sl w' A c x ∧ Sl w' B d y ∧ Below w.heap.size w w'
/-- What Complete hands back. -/
def CmpE (p : Int) (m : List (List Int)) (ins outs : List (Int × Int)) (w : World) (e : Ending) (w' : World) : Prop :=
  if argB m ins outs = true then
    match cmp p m ins outs with
    | none => Err3 8 w e w'
    | some x => Two3 x (app p m x) w e w'
  else Err3 1 w e w'

set_option maxHeartbeats 2000000 in
theorem cmpl_bad (p : Int) (A B D : Option Addr) (c d f : Nat) (m : List (List Int)) (ins outs : List (Int × Int)) (hc : CArg p m ins outs) (hb : argB m ins outs = false)
    (w : World) (h : Sll w A c m) (si : Pt w B d ins) (so : Pt w D f outs) :
    Calls Try.prog 26 #[.int .u64 p, .slice A m.length c, .slice B ins.length d, .slice D outs.length f] w fun e w' => Err3 1 w e w' := by
  have hrows := hc.rows
  have hcols : ncol m ≤ 25 := hc.cols 0
  have hli := hc.li
  have hlo := hc.lo
  have g1 := shape_any A c m (by omega) w h
  cases hE : evenB m with
  | false =>
    rw [hE] at g1
    go_enter Try.func26, Try.ntmps26
    go_wp2_with fail
    refine g1.mono ?_; rintro e w1 ⟨rfl, hB1⟩
    go_wp2_with fail
    go_ret3
    exact ⟨rfl, hB1⟩
  | true =>
    rw [hE] at g1
    have h0 : 0 < m.length := by
      unfold evenB at hE
      simp only [Bool.and_eq_true, decide_eq_true_eq] at hE
      exact hE.1.1
    obtain ⟨b0, off0, A0, c0, hA0, hb0, hcr0, _⟩ := h.rowAt (i := 0) (L := ncol m) h0 rfl
    rw [Nat.add_zero] at hcr0
    have h0' : (0 : Int) < m.length := by omega
    subst hA0
    by_cases hS : ins.length + outs.length = ncol m
    · have hPB : (plcB ins (ncol m) && plcB outs m.length) = false := by
        unfold argB at hb
        rw [hE, Bool.true_and, beq_iff_eq.2 hS, Bool.and_true] at hb
        exact hb
      have g2 := fun W (q1 : Pt W B d ins) (q2 : Pt W D f outs) => fix_bad B D d f m.length (ncol m) ins outs (by omega) hli hlo hc.inw hc.outw hPB W q1 q2
      have hS' : ((ins.length : Int) + outs.length != ncol m) = false := by
        have : (ins.length : Int) + outs.length = ncol m := by omega
        rw [this]; simp
      have HS := Lib.hid hS
      clear hS
      go_enter Try.func26, Try.ntmps26
      go_wp2_with fail
      refine g1.mono ?_; rintro e w1 ⟨rfl, hB1⟩
      have hcr1 := (hB1.cell (p := ⟨b0, off0, none⟩) hb0).trans hcr0
      go_wp2_with fail
      refine (g2 _ (si.next hB1) (so.next hB1)).mono ?_; rintro e w2 ⟨⟨g, rfl⟩, hB2⟩
      go_wp2_with fail
      go_ret3
      exact ⟨rfl, hB1.trans (hB2.mono hB1.size)⟩
    · have hS' : ((ins.length : Int) + outs.length != ncol m) = true := bne_iff_ne.2 (by omega)
      go_enter Try.func26, Try.ntmps26
      go_wp2_with fail
      refine g1.mono ?_; rintro e w1 ⟨rfl, hB1⟩
      have hcr1 := (hB1.cell (p := ⟨b0, off0, none⟩) hb0).trans hcr0
      go_wp2_with fail
      go_ret3
      exact ⟨rfl, hB1⟩

theorem argB_parts {m : List (List Int)} {ins outs : List (Int × Int)} (h : argB m ins outs = true) : evenB m = true ∧ plcB ins (ncol m) = true ∧ plcB outs m.length = true := by
  unfold argB at h
  simp only [Bool.and_eq_true] at h
  exact ⟨h.1.1.1, h.1.1.2, h.1.2⟩

set_option maxHeartbeats 2000000 in
theorem cmpl_zero (p : Int) (hp : OkP p) (A B D : Option Addr) (c d f : Nat) (m : List (List Int)) (ins outs : List (Int × Int)) (hc : CArg p m ins outs) (hb : argB m ins outs = true) (hr : rnk p (sqm m ins outs) < outs.length)
    (w : World) (h : Sll w A c m) (si : Pt w B d ins) (so : Pt w D f outs) :
    Calls Try.prog 26 #[.int .u64 p, .slice A m.length c, .slice B ins.length d, .slice D outs.length f] w fun e w' => Err3 8 w e w' := by
  have hrows := hc.rows
  have hcols : ncol m ≤ 25 := hc.cols 0
  have hli := hc.li
  have hlo := hc.lo
  have ha := hc.arg hb
  obtain ⟨hE, hP1, hP2⟩ := argB_parts hb
  have g1 := shape_any A c m (by omega) w h
  rw [hE] at g1
  obtain ⟨b0, off0, A0, c0, hA0, hb0, hcr0, _⟩ := h.rowAt (i := 0) (L := ncol m) ha.rows rfl
  rw [Nat.add_zero] at hcr0
  have h0' : (0 : Int) < m.length := by have := ha.rows; omega
  have g2 := fun W (q1 : Pt W B d ins) (q2 : Pt W D f outs) => fix_ok B D d f m.length (ncol m) ins outs (by omega) hli hlo hc.inw hc.outw hP1 hP2 W q1 q2
  have g4 := fun W U u (q1 : Sll W A c m) (q2 : Pt W D f outs) (q3 : Si W U u (oI (rest (ncol m) (idx ins)))) => compIn_none p hp A B D U c d f u m ins outs hc ha hr W q1 q2 q3
  have hS' : ((ins.length : Int) + outs.length != ncol m) = false := by
    have h1 := ha.sum
    have : (ins.length : Int) + outs.length = ncol m := by omega
    rw [this]; simp
  subst hA0
  clear ha
  go_enter Try.func26, Try.ntmps26
  go_wp2_with fail
  refine g1.mono ?_; rintro e w1 ⟨rfl, hB1⟩
  have hcr1 := (hB1.cell (p := ⟨b0, off0, none⟩) hb0).trans hcr0
  clear g1
  go_wp2_with fail
  refine (g2 _ (si.next hB1) (so.next hB1)).mono ?_; rintro e w2 ⟨⟨g, S, rfl, hSet, hbits⟩, hb2⟩
  have hB2 := hB1.trans (hb2.mono hB1.size)
  have hcr2 := (hB2.cell (p := ⟨b0, off0, none⟩) hb0).trans hcr0
  have g3 := missing_row w1.heap.size g (ncol m) S (idx ins) (by omega) hbits w2 hSet
  clear g2
  go_wp2_with fail
  refine g3.mono ?_; rintro e w3 ⟨U, u, rfl, su, hb3⟩
  have hB3 := hB2.trans (hb3.mono hB2.size)
  clear g3
  go_wp2_with fail
  refine (g4 _ _ _ (h.next hB3) (so.next hB3) su).mono ?_; rintro e w4 ⟨rfl, hb4⟩
  go_wp2_with fail
  go_ret3
  exact ⟨rfl, hB3.trans (hb4.mono hB3.size)⟩

set_option maxHeartbeats 2000000 in
theorem cmpl_ok (p : Int) (hp : OkP p) (A B D : Option Addr) (c d f : Nat) (m : List (List Int)) (ins outs : List (Int × Int)) (s : List Int) (hc : CArg p m ins outs) (hb : argB m ins outs = true) (hr : ¬ rnk p (sqm m ins outs) < outs.length) (hs : slv p (sqm m ins outs) (rgt p m (xin m ins) outs) = some s)
    (w : World) (h : Sll w A c m) (si : Pt w B d ins) (so : Pt w D f outs) :
    Calls Try.prog 26 #[.int .u64 p, .slice A m.length c, .slice B ins.length d, .slice D outs.length f] w fun e w' => Two3 (fil (xin m ins) (rest (ncol m) (idx ins)) s (rest (ncol m) (idx ins)).length) (app p m (fil (xin m ins) (rest (ncol m) (idx ins)) s (rest (ncol m) (idx ins)).length)) w e w' := by
  have hrows := hc.rows
  have hcols : ncol m ≤ 25 := hc.cols 0
  have hli := hc.li
  have hlo := hc.lo
  have ha := hc.arg hb
  obtain ⟨hE, hP1, hP2⟩ := argB_parts hb
  have hfin := cmp_some hp.good ha hc.el hc.ne hc.on hs
  have g1 := shape_any A c m (by omega) w h
  rw [hE] at g1
  obtain ⟨b0, off0, A0, c0, hA0, hb0, hcr0, _⟩ := h.rowAt (i := 0) (L := ncol m) ha.rows rfl
  rw [Nat.add_zero] at hcr0
  have h0' : (0 : Int) < m.length := by have := ha.rows; omega
  have g2 := fun W (q1 : Pt W B d ins) (q2 : Pt W D f outs) => fix_ok B D d f m.length (ncol m) ins outs (by omega) hli hlo hc.inw hc.outw hP1 hP2 W q1 q2
  have g4 := fun W U u (q1 : Sll W A c m) (q0 : Pt W B d ins) (q2 : Pt W D f outs) (q3 : Si W U u (oI (rest (ncol m) (idx ins)))) => compIn_some p hp A B D U c d f u m ins outs s hc ha hr hs W q1 q0 q2 q3
  have hS' : ((ins.length : Int) + outs.length != ncol m) = false := by
    have h1 := ha.sum
    have : (ins.length : Int) + outs.length = ncol m := by omega
    rw [this]; simp
  have g5 := fun W Ax cx (q1 : Sll W A c m) (q2 : Sl W Ax cx (fil (xin m ins) (rest (ncol m) (idx ins)) s (rest (ncol m) (idx ins)).length)) => apply_ok p hp A Ax c cx m _ hc.sized hc.el hfin.1 ha.rect hfin.2.1.symm W q1 q2
  subst hA0
  clear ha hfin
  generalize fil (xin m ins) (rest (ncol m) (idx ins)) s (rest (ncol m) (idx ins)).length = X at *
  go_enter Try.func26, Try.ntmps26
  go_wp2_with fail
  refine g1.mono ?_; rintro e w1 ⟨rfl, hB1⟩
  have hcr1 := (hB1.cell (p := ⟨b0, off0, none⟩) hb0).trans hcr0
  clear g1
  go_wp2_with fail
  refine (g2 _ (si.next hB1) (so.next hB1)).mono ?_; rintro e w2 ⟨⟨g, S, rfl, hSet, hbits⟩, hb2⟩
  have hB2 := hB1.trans (hb2.mono hB1.size)
  have hcr2 := (hB2.cell (p := ⟨b0, off0, none⟩) hb0).trans hcr0
  have g3 := missing_row w1.heap.size g (ncol m) S (idx ins) (by omega) hbits w2 hSet
  clear g2
  go_wp2_with fail
  refine g3.mono ?_; rintro e w3 ⟨U, u, rfl, su, hb3⟩
  have hB3 := hB2.trans (hb3.mono hB2.size)
  clear g3
  go_wp2_with fail
  refine (g4 _ _ _ (h.next hB3) (si.next hB3) (so.next hB3) su).mono ?_; rintro e w4 ⟨A4, c4, rfl, s4, hb4⟩
  have hB4 := hB3.trans (hb4.mono hB3.size)
  clear g4
  go_wp2_with fail
  refine (g5 _ _ _ (h.next hB4) s4).mono ?_; rintro e w5 ⟨A5, c5, rfl, s5, hb5⟩
  replace s4 := s4.next hb5
  go_wp2_with fail
  go_ret3
  exact ⟨_, _, _, _, rfl, s4, s5, hB4.trans (hb5.mono hB4.size)⟩

theorem cmpl_any (p : Int) (hp : OkP p) (A B D : Option Addr) (c d f : Nat) (m : List (List Int)) (ins outs : List (Int × Int)) (hc : CArg p m ins outs)
    (w : World) (h : Sll w A c m) (si : Pt w B d ins) (so : Pt w D f outs) :
    Calls Try.prog 26 #[.int .u64 p, .slice A m.length c, .slice B ins.length d, .slice D outs.length f] w fun e w' => CmpE p m ins outs w e w' := by
  unfold CmpE
  cases hb : argB m ins outs with
  | false =>
    simp only [Bool.false_eq_true, if_false]
    exact cmpl_bad p A B D c d f m ins outs hc hb w h si so
  | true =>
    simp only [if_true]
    by_cases hr : rnk p (sqm m ins outs) < outs.length
    · have : cmp p m ins outs = none := if_pos hr
      rw [this]
      exact cmpl_zero p hp A B D c d f m ins outs hc hb hr w h si so
    · obtain ⟨s, hs⟩ := cmp_ex hp.good (hc.arg hb) hc.el hr
      have : cmp p m ins outs = some (fil (xin m ins) (rest (ncol m) (idx ins)) s (rest (ncol m) (idx ins)).length) := by unfold cmp; rw [if_neg hr, hs]; rfl
      rw [this]
      exact cmpl_ok p hp A B D c d f m ins outs s hc hb hr hs w h si so
end Go.Proofs.Ytjijlefplidhpaa

/- The examples of the document for layer 7 hold: awake returns true. Nothing that lay is changed. No conditions. -/
namespace Go.Proofs.Ytjijlefplidhpaa
set_option maxRecDepth 100000
open Go.RowKit PolyMath FieldMath MatMath

theorem ex_new (w : World) : Calls Try.prog 12 #[.int .u64 31, .int .i64 1, .int .i64 2] w fun e w' => ∃ A c, e = .returned (.tuple #[.slice A 1 c, .int .i64 0]) ∧ Sll w' A c [[30, 2]] ∧ Below w.heap.size w w' := by
  refine (new_ok 31 ok31 1 2 (by decide) (by decide) (by decide) w).mono ?_
  rintro e w' ⟨A, c, he, hs, hb⟩
  rw [show nw 31 1 2 = [[30, 2]] from by decide +kernel] at he hs
  exact ⟨A, c, he, hs, hb⟩
theorem ex_carg : CArg 31 [[30, 2]] [(1, 5)] [(0, 7)] where
  rows := by decide
  cols := fun i => by
    match i with
    | 0 => decide
    | i + 1 => exact Nat.zero_le _
  el := fun r hr => by
    rw [List.mem_singleton] at hr
    subst hr
    intro x hx
    simp only [List.mem_cons, List.not_mem_nil, or_false] at hx
    omega
  inw := fun q hq => by rw [List.mem_singleton] at hq; subst hq; decide
  outw := fun q hq => by rw [List.mem_singleton] at hq; subst hq; decide
  inv := fun q hq => by rw [List.mem_singleton] at hq; subst hq; decide
  outv := fun q hq => by rw [List.mem_singleton] at hq; subst hq; decide
  li := by decide
  lo := by decide
theorem ex_cmp (A B D : Option Addr) (c d f : Nat) (w : World) (h : Sll w A c [[30, 2]]) (si : Pt w B d [(1, 5)]) (so : Pt w D f [(0, 7)]) :
    Calls Try.prog 26 #[.int .u64 31, .slice A 1 c, .slice B 1 d, .slice D 1 f] w fun e w' => ∃ A1 c1 A2 c2, e = .returned (.tuple #[.slice A1 2 c1, .slice A2 1 c2, .int .i64 0]) ∧ Sl w' A1 c1 [3, 5] ∧ Sl w' A2 c2 [7] ∧ Below w.heap.size w w' := by
  refine (cmpl_any 31 ok31 A B D c d f [[30, 2]] [(1, 5)] [(0, 7)] ex_carg w h si so).mono ?_
  intro e w' hx
  unfold CmpE at hx
  rw [show argB [[30, 2]] [(1, 5)] [(0, 7)] = true from by decide +kernel, if_pos rfl, show cmp 31 [[30, 2]] [(1, 5)] [(0, 7)] = some [3, 5] from by decide +kernel] at hx
  have hx : Two3 [3, 5] (app 31 [[30, 2]] [3, 5]) w e w' := hx
  rw [show app 31 [[30, 2]] [3, 5] = [7] from by decide +kernel] at hx
  exact hx

set_option maxHeartbeats 4000000 in
theorem awake7_any (w : World) : Calls Try.prog 10 #[] w fun e w' => e = .returned (.bool true) ∧ Below w.heap.size w w' := by
  have hB := Below.refl w.heap.size w
  go_enter Try.func10, Try.ntmps10
  go_wp2_with fail
  refine (ex_new _).mono ?_
  rintro e w1 ⟨A1, c1, rfl, hn, hb⟩
  replace hB := hB.trans (hb.mono hB.size)
  clear hb
  go_wp2_with fail
  refine (new_bad 31 16 15 (by decide) _).mono ?_
  rintro e w2 ⟨rfl, hb⟩
  replace hB := hB.trans (hb.mono hB.size)
  replace hn := hn.next hb
  clear hb
  have hm : Sll ((((w2.alloc (.cells #[.int .u64 30, .int .u64 2] 22)).alloc (.cells #[.slice (some ⟨w2.heap.size, 0, none⟩) 2 2] 31)).alloc (.cells #[.int .u64 1, .int .u64 5] 56)).alloc (.cells #[.int .u64 0, .int .u64 7] 56)) (some ⟨w2.heap.size + 1, 0, none⟩) 1 [[30, 2]] := by
    have h3 := Sll.lit1 _ (Sl.l2 w2 30 2)
    rw [World.size_alloc] at h3
    exact (h3.push _).push _
  have hpi : Pt ((((w2.alloc (.cells #[.int .u64 30, .int .u64 2] 22)).alloc (.cells #[.slice (some ⟨w2.heap.size, 0, none⟩) 2 2] 31)).alloc (.cells #[.int .u64 1, .int .u64 5] 56)).alloc (.cells #[.int .u64 0, .int .u64 7] 56)) (some ⟨w2.heap.size + 2, 0, none⟩) 1 [(1, 5)] := by
    have h3 := Pt.lit ((w2.alloc (.cells #[.int .u64 30, .int .u64 2] 22)).alloc (.cells #[.slice (some ⟨w2.heap.size, 0, none⟩) 2 2] 31)) 56 [(1, 5)]
    simp only [World.size_alloc] at h3
    exact h3.push _
  have hpo : Pt ((((w2.alloc (.cells #[.int .u64 30, .int .u64 2] 22)).alloc (.cells #[.slice (some ⟨w2.heap.size, 0, none⟩) 2 2] 31)).alloc (.cells #[.int .u64 1, .int .u64 5] 56)).alloc (.cells #[.int .u64 0, .int .u64 7] 56)) (some ⟨w2.heap.size + 3, 0, none⟩) 1 [(0, 7)] := by
    have h3 := Pt.lit (((w2.alloc (.cells #[.int .u64 30, .int .u64 2] 22)).alloc (.cells #[.slice (some ⟨w2.heap.size, 0, none⟩) 2 2] 31)).alloc (.cells #[.int .u64 1, .int .u64 5] 56)) 56 [(0, 7)]
    simp only [World.size_alloc] at h3
    exact h3
  replace hn := (((hn.push (.cells #[.int .u64 30, .int .u64 2] 22)).push (.cells #[.slice (some ⟨w2.heap.size, 0, none⟩) 2 2] 31)).push (.cells #[.int .u64 1, .int .u64 5] 56)).push (.cells #[.int .u64 0, .int .u64 7] 56)
  replace hB := bnew (bnew (bnew (bnew hB (.cells #[.int .u64 30, .int .u64 2] 22) (Nat.le_refl _)) (.cells #[.slice (some ⟨w2.heap.size, 0, none⟩) 2 2] 31) (Nat.le_refl _)) (.cells #[.int .u64 1, .int .u64 5] 56) (Nat.le_refl _)) (.cells #[.int .u64 0, .int .u64 7] 56) (Nat.le_refl _)
  go_wp2_with fail
  refine (ex_cmp _ _ _ _ _ _ _ hm hpi hpo).mono ?_
  rintro e w3 ⟨A3, c3, A4, c4, rfl, hx, hy, hb⟩
  replace hB := hB.trans (hb.mono hB.size)
  replace hn := hn.next hb
  clear hb hm hpi hpo
  have hl : Sll ((w3.alloc (.cells #[.int .u64 30, .int .u64 2] 22)).alloc (.cells #[.slice (some ⟨w3.heap.size, 0, none⟩) 2 2] 31)) (some ⟨w3.heap.size + 1, 0, none⟩) 1 [[30, 2]] := by
    have h3 := Sll.lit1 _ (Sl.l2 w3 30 2)
    rw [World.size_alloc] at h3
    exact h3
  replace hn := (hn.push (.cells #[.int .u64 30, .int .u64 2] 22)).push (.cells #[.slice (some ⟨w3.heap.size, 0, none⟩) 2 2] 31)
  replace hx := (hx.push (.cells #[.int .u64 30, .int .u64 2] 22)).push (.cells #[.slice (some ⟨w3.heap.size, 0, none⟩) 2 2] 31)
  replace hy := (hy.push (.cells #[.int .u64 30, .int .u64 2] 22)).push (.cells #[.slice (some ⟨w3.heap.size, 0, none⟩) 2 2] 31)
  replace hB := bnew (bnew hB (.cells #[.int .u64 30, .int .u64 2] 22) (Nat.le_refl _)) (.cells #[.slice (some ⟨w3.heap.size, 0, none⟩) 2 2] 31) (Nat.le_refl _)
  go_wp2_with fail
  refine (rows_b _ _ [[30, 2]] _ _ _ hn hl (by decide) (by decide)).mono ?_
  rintro e w4 ⟨rfl, hb⟩
  replace hB := hB.trans (hb.mono hB.size)
  replace hx := hx.next hb
  replace hy := hy.next hb
  clear hb hn hl
  go_wp2_with fail
  refine (same_b _ _ [3, 5] _ _ _ (hx.push (.cells #[.int .u64 3, .int .u64 5] 22)) (Sl.l2 w4 3 5) (by decide)).mono ?_
  rintro e w5 ⟨rfl, hb⟩
  replace hy := (hy.push (.cells #[.int .u64 3, .int .u64 5] 22)).next hb
  replace hB := bnew hB (.cells #[.int .u64 3, .int .u64 5] 22) (Nat.le_refl _)
  replace hB := hB.trans (hb.mono hB.size)
  clear hb hx
  go_wp2_with fail
  refine (same_b _ _ [7] _ _ _ (hy.push (.cells #[.int .u64 7] 22)) (Sl.l1 w5 7) (by decide)).mono ?_
  rintro e w6 ⟨rfl, hb⟩
  replace hB := bnew hB (.cells #[.int .u64 7] 22) (Nat.le_refl _)
  replace hB := hB.trans (hb.mono hB.size)
  clear hb hy
  go_wp2_with fail
  go_ret
  exact ⟨rfl, hB⟩
end Go.Proofs.Ytjijlefplidhpaa

/- Arguments of layer 7's laws: a number, a byte, a slice of numbers, the structs Ask and Partial; they read behind the call as before where only new memory was made. No conditions. -/
namespace Go.Proofs.Ytjijlefplidhpaa
set_option maxRecDepth 100000
open Go.ChangeShapes Go.WideShapes Go.ChangeAt Go.RowKit Go.Joins Go.Deep Go.WideElems PolyMath MatMath

theorem cells_int : Try.prog.cellsOf 3 = 1 := by kernel_rfl
theorem cells_ask7 : Try.prog.cellsOf 38 = 5 := by kernel_rfl
theorem cells_part : Try.prog.cellsOf 48 = 4 := by kernel_rfl
/-- Numbers. -/
def Nums (xs : List Int) : Prop := ∀ x ∈ xs, -9223372036854775808 ≤ x ∧ x ≤ 9223372036854775807
theorem bounds_i {a : Int} (h : (Lit.int .i64 a).wf = true) : -9223372036854775808 ≤ a ∧ a ≤ 9223372036854775807 := by
  have e1 : IntKind.i64.min = -9223372036854775808 := rfl
  have e2 : IntKind.i64.max = 9223372036854775807 := rfl
  simp only [Lit.wf, Bool.and_eq_true, decide_eq_true_eq] at h
  omega
theorem bounds_b {a : Int} (h : (Lit.int .u8 a).wf = true) : 0 ≤ a ∧ a ≤ 255 := by
  have e1 : IntKind.u8.min = 0 := rfl
  have e2 : IntKind.u8.max = 255 := rfl
  simp only [Lit.wf, Bool.and_eq_true, decide_eq_true_eq] at h
  omega
theorem array5 {a : Array Value} (h : a.size = 5) : ∃ c0 c1 c2 c3 c4, a = #[c0, c1, c2, c3, c4] := by
  obtain ⟨l⟩ := a
  match l, h with
  | [c0, c1, c2, c3, c4], _ => exact ⟨c0, c1, c2, c3, c4, rfl⟩
section
variable {H : Type} {enc : TypeId × Value → H} {P : Program} {w : World} {base : Nat} {spare : Nat → Bool} {held : Bool}
theorem trod_struct5 {t : TypeId} {f0 f1 f2 f3 f4 : Field} {fuel : Nat} {cs : List Value} {x : DataW H × List MemPlace} (ht : P.underlying t = some (.struct #[f0, f1, f2, f3, f4])) (h : DataW.trod enc P w base spare held fuel t cs = some x) :
    ∃ y0 y1 y2 y3 y4 n, x.2 = y0.2 ++ (y1.2 ++ (y2.2 ++ (y3.2 ++ y4.2))) ∧ DataW.trod enc P w base spare held n f0.type ((cs.drop f0.offset).take (P.cellsOf f0.type)) = some y0 ∧
      DataW.trod enc P w base spare held n f1.type ((cs.drop f1.offset).take (P.cellsOf f1.type)) = some y1 ∧ DataW.trod enc P w base spare held n f2.type ((cs.drop f2.offset).take (P.cellsOf f2.type)) = some y2 ∧
      DataW.trod enc P w base spare held n f3.type ((cs.drop f3.offset).take (P.cellsOf f3.type)) = some y3 ∧ DataW.trod enc P w base spare held n f4.type ((cs.drop f4.offset).take (P.cellsOf f4.type)) = some y4 := by
  obtain ⟨xs, n, _, rfl, hl, hlen, hf⟩ := DataW.trod_struct ht h
  match xs, hlen with
  | [y0, y1, y2, y3, y4], _ => exact ⟨y0, y1, y2, y3, y4, n, by simp, by simpa using hf 0 f0 rfl, by simpa using hf 1 f1 rfl, by simpa using hf 2 f2 rfl, by simpa using hf 3 f3 rfl, by simpa using hf 4 f4 rfl⟩
theorem open_agg5 {r : Reach} {b0 : Nat} {t : TypeId} {f0 f1 f2 f3 f4 : Field} {v : Value} {d : DataW H} {p : List MemPlace} (hs : P.underlying t = some (.struct #[f0, f1, f2, f3, f4])) (hone : oneCellFields P #[f0, f1, f2, f3, f4] = true) (hC : P.cellsOf t = 5)
    (hv : Value.okWide P w r b0 t v) (h : DataW.Trod enc P w base spare held t v d p) :
    ∃ (v0 v1 v2 v3 v4 : Value) (y0 y1 y2 y3 y4 : DataW H × List MemPlace) (n : Nat), v = .agg #[v0, v1, v2, v3, v4] ∧ p = y0.2 ++ (y1.2 ++ (y2.2 ++ (y3.2 ++ y4.2))) ∧
      DataW.trod enc P w base spare held n f0.type [v0] = some y0 ∧ DataW.trod enc P w base spare held n f1.type [v1] = some y1 ∧ DataW.trod enc P w base spare held n f2.type [v2] = some y2 ∧ DataW.trod enc P w base spare held n f3.type [v3] = some y3 ∧
      DataW.trod enc P w base spare held n f4.type [v4] = some y4 := by
  obtain ⟨cs, rfl, hsz⟩ := okWide_struct hs hv
  obtain ⟨c0, c1, c2, c3, c4, rfl⟩ := array5 (hsz.trans hC)
  obtain ⟨fuel, hf⟩ := h
  obtain ⟨y0, y1, y2, y3, y4, n, hx, h0, h1, h2, h3, h4⟩ := trod_struct5 hs hf
  obtain ⟨o0, k0⟩ := hone_of hone 0 f0 rfl
  obtain ⟨o1, k1⟩ := hone_of hone 1 f1 rfl
  obtain ⟨o2, k2⟩ := hone_of hone 2 f2 rfl
  obtain ⟨o3, k3⟩ := hone_of hone 3 f3 rfl
  obtain ⟨o4, k4⟩ := hone_of hone 4 f4 rfl
  exact ⟨c0, c1, c2, c3, c4, y0, y1, y2, y3, y4, n, rfl, hx, by simpa [Value.cells, o0, k0] using h0, by simpa [Value.cells, o1, k1] using h1, by simpa [Value.cells, o2, k2] using h2, by simpa [Value.cells, o3, k3] using h3, by simpa [Value.cells, o4, k4] using h4⟩
end

section
variable {H : Type} {enc : TypeId × Value → H}
theorem open_si {W : World} {v : Value} {fuel : Nat} {y : DataW H × List MemPlace} (hf : DataW.trod enc Try.prog W 0 (fun _ => true) true fuel 36 [v] = some y) (hlt : ∀ x ∈ y.2, x.block < W.heap.size) :
    ∃ A xs c, v = .slice A xs.length c ∧ Si W A c xs ∧ Nums xs := by
  rcases open_ints Try.underlying36 Try.underlying3 cells_int hf with ⟨hcs, hx⟩ | ⟨a, len', cap', zs, hcs, _, hl, hm, hz, hx, hcell, hwz⟩
  · injection hcs with hcs _
    subst hcs
    exact ⟨none, [], 0, rfl, Si.nothing _, fun x hx => (by cases hx)⟩
  · injection hcs with hcs _
    subst hcs hx
    simp only [if_true] at hz
    have hlen : (zs.take len').length = len' := by rw [List.length_take]; omega
    refine ⟨some a, zs.take len', cap', by rw [hlen], ⟨by omega, (fun h => by cases h), fun ad hA hn => ?_⟩, fun x hx => bounds_i (hwz x (List.mem_of_mem_take hx))⟩
    injection hA with hA
    subst hA
    have hpos : 0 < len' := by rw [← hlen]; exact List.length_pos_iff.2 hn
    obtain ⟨b, off, spot⟩ := a
    have hspot : spot = none := by simpa [Addr.add] using World.cell?_spot (hcell 0 (by omega))
    subst hspot
    refine ⟨b, off, rfl, hlt (.cell b off) (MemPlace.mem_row.2 ⟨0, by omega, by simp⟩), fun j x hx => ?_⟩
    have hj : j < len' := by have := (List.getElem?_eq_some_iff.1 hx).1; omega
    rw [← add_plain, hcell j (by omega)]
    rw [List.getElem?_take, if_pos hj] at hx
    rw [List.getD_eq_getElem?_getD, hx]; rfl
theorem arg_int {W : World} {base : Nat} {v : Value} {d : DataW H} {p : List MemPlace} (hval : Value.okWide Try.prog W .any base 3 v) (h : DataW.Trod enc Try.prog W 0 (fun _ => true) true 3 v d p) : ∃ x, v = .int .i64 x ∧ -9223372036854775808 ≤ x ∧ x ≤ 9223372036854775807 := by
  obtain ⟨n, rfl, rfl, rfl, wf⟩ := open_int Try.underlying3 hval h
  exact ⟨n, rfl, bounds_i wf⟩
theorem arg_u8 {W : World} {base : Nat} {v : Value} {d : DataW H} {p : List MemPlace} (hval : Value.okWide Try.prog W .any base 5 v) (h : DataW.Trod enc Try.prog W 0 (fun _ => true) true 5 v d p) : ∃ x : Nat, v = .int .u8 x ∧ x ≤ 255 := by
  obtain ⟨n, rfl, rfl, rfl, wf⟩ := open_int Try.underlying5 hval h
  have := bounds_b wf
  exact ⟨n.toNat, by rw [show ((n.toNat : Nat) : Int) = n by omega], by omega⟩
theorem arg_si {W : World} {base : Nat} {v : Value} {d : DataW H} {p : List MemPlace} (hval : Value.okWide Try.prog W .any base 36 v) (h : DataW.Trod enc Try.prog W 0 (fun _ => true) true 36 v d p) (hlt : ∀ x ∈ p, x.block < W.heap.size) :
    ∃ A xs c, v = .slice A xs.length c ∧ Si W A c xs ∧ Nums xs := by
  obtain ⟨a0, len, cap, rfl⟩ := okWide_slice Try.underlying36 hval
  obtain ⟨fuel, hf⟩ := h
  simp only [Value.cells] at hf
  exact open_si hf hlt
theorem arg_ask7 {W : World} {base : Nat} {v : Value} {d : DataW H} {p : List MemPlace} (hval : Value.okWide Try.prog W .any base 38 v) (h : DataW.Trod enc Try.prog W 0 (fun _ => true) true 38 v d p) (hlt : ∀ x ∈ p, x.block < W.heap.size) :
    ∃ (P : Int) (a b : Nat) (A : Option Addr) (R : List Int) (c : Nat) (B : Option Addr) (C : List Int) (d : Nat), v = .agg #[.int .u64 P, .int .u8 a, .int .u8 b, .slice A R.length c, .slice B C.length d] ∧ a ≤ 255 ∧ b ≤ 255 ∧ Si W A c R ∧ Nums R ∧ Si W B d C ∧ Nums C := by
  obtain ⟨v0, v1, v2, v3, v4, y0, y1, y2, y3, y4, n, rfl, rfl, h0, h1, h2, h3, h4⟩ := open_agg5 Try.underlying38 (by kernel_rfl) cells_ask7 hval h
  obtain ⟨a0, e0, rfl, w0⟩ := DataW.trod_int Try.underlying22 h0
  obtain ⟨a1, e1, rfl, w1⟩ := DataW.trod_int Try.underlying5 h1
  obtain ⟨a2, e2, rfl, w2⟩ := DataW.trod_int Try.underlying5 h2
  obtain ⟨A, R, c, rfl, sa, wa⟩ := open_si h3 (fun x hx => hlt x (by simp [hx]))
  obtain ⟨B, C, d, rfl, sb, wb⟩ := open_si h4 (fun x hx => hlt x (by simp [hx]))
  simp at e0 e1 e2
  subst e0 e1 e2
  have b1 := bounds_b w1
  have b2 := bounds_b w2
  exact ⟨a0, a1.toNat, a2.toNat, A, R, c, B, C, d, by rw [show ((a1.toNat : Nat) : Int) = a1 by omega, show ((a2.toNat : Nat) : Int) = a2 by omega], by omega, by omega, sa, wa, sb, wb⟩
theorem arg_part {W : World} {base : Nat} {v : Value} {d : DataW H} {p : List MemPlace} (hval : Value.okWide Try.prog W .any base 48 v) (h : DataW.Trod enc Try.prog W 0 (fun _ => true) true 48 v d p) (hlt : ∀ x ∈ p, x.block < W.heap.size) :
    ∃ P A m c B ins d D outs f, v = .agg #[.int .u64 P, .slice A m.length c, .slice B ins.length d, .slice D outs.length f] ∧ Sll W A c m ∧ (∀ r ∈ m, Words r) ∧ m.length ≤ 9223372036854775807 ∧ Pt W B d ins ∧ PWords ins ∧ Pt W D f outs ∧ PWords outs := by
  obtain ⟨v0, v1, v2, v3, y0, y1, y2, y3, n, rfl, _, rfl, h0, h1, h2, h3⟩ := open_agg4 Try.underlying48 (by kernel_rfl) cells_part hval h
  obtain ⟨a0, e0, rfl, w0⟩ := DataW.trod_int Try.underlying22 h0
  obtain ⟨A, m, c, rfl, sm, wm, lm⟩ := open_ll h1 (fun x hx => hlt x (by simp [hx]))
  obtain ⟨B, ins, d, rfl, si, wi⟩ := open_pt Try.underlying46 Try.underlying56 cells_pt rfl rfl cells_u64 cells_u64 Try.underlying22 Try.underlying22 h2 (fun x hx => hlt x (by simp [hx]))
  obtain ⟨D, outs, f, rfl, so, wo⟩ := open_pt Try.underlying46 Try.underlying56 cells_pt rfl rfl cells_u64 cells_u64 Try.underlying22 Try.underlying22 h3 (fun x hx => hlt x (by simp [hx]))
  simp at e0
  subst e0
  exact ⟨a0, A, m, c, B, ins, d, D, outs, f, rfl, sm, wm, lm, si, wi, so, wo⟩

theorem stay_int {W W' : World} {v : Value} {d : DataW H} {p : List MemPlace} (h : DataW.Trod enc Try.prog W 0 (fun _ => true) true 3 v d p) (hb : Below W.heap.size W W') (hlt : ∀ x ∈ p, x.block < W.heap.size) (sp : Nat → Bool) (hsp : ∀ x ∈ p, sp x.block = true) :
    DataW.Trod enc Try.prog W' 0 sp true 3 v d p :=
  WideElems.Trod_stays laidOut (by kernel_rfl) (of_decide_eq_true (by kernel_rfl)) h (fun x hx => hb.same (hlt x hx)) hsp
theorem stay_u8 {W W' : World} {v : Value} {d : DataW H} {p : List MemPlace} (h : DataW.Trod enc Try.prog W 0 (fun _ => true) true 5 v d p) (hb : Below W.heap.size W W') (hlt : ∀ x ∈ p, x.block < W.heap.size) (sp : Nat → Bool) (hsp : ∀ x ∈ p, sp x.block = true) :
    DataW.Trod enc Try.prog W' 0 sp true 5 v d p :=
  WideElems.Trod_stays laidOut (by kernel_rfl) (of_decide_eq_true (by kernel_rfl)) h (fun x hx => hb.same (hlt x hx)) hsp
theorem stay_si {W W' : World} {v : Value} {d : DataW H} {p : List MemPlace} (h : DataW.Trod enc Try.prog W 0 (fun _ => true) true 36 v d p) (hb : Below W.heap.size W W') (hlt : ∀ x ∈ p, x.block < W.heap.size) (sp : Nat → Bool) (hsp : ∀ x ∈ p, sp x.block = true) :
    DataW.Trod enc Try.prog W' 0 sp true 36 v d p :=
  WideElems.Trod_stays laidOut (by kernel_rfl) (of_decide_eq_true (by kernel_rfl)) h (fun x hx => hb.same (hlt x hx)) hsp
theorem stay_ask7 {W W' : World} {v : Value} {d : DataW H} {p : List MemPlace} (h : DataW.Trod enc Try.prog W 0 (fun _ => true) true 38 v d p) (hb : Below W.heap.size W W') (hlt : ∀ x ∈ p, x.block < W.heap.size) (sp : Nat → Bool) (hsp : ∀ x ∈ p, sp x.block = true) :
    DataW.Trod enc Try.prog W' 0 sp true 38 v d p :=
  WideElems.Trod_stays laidOut (by kernel_rfl) (of_decide_eq_true (by kernel_rfl)) h (fun x hx => hb.same (hlt x hx)) hsp
theorem stay_part {W W' : World} {v : Value} {d : DataW H} {p : List MemPlace} (h : DataW.Trod enc Try.prog W 0 (fun _ => true) true 48 v d p) (hb : Below W.heap.size W W') (hlt : ∀ x ∈ p, x.block < W.heap.size) (sp : Nat → Bool) (hsp : ∀ x ∈ p, sp x.block = true) :
    DataW.Trod enc Try.prog W' 0 sp true 48 v d p :=
  WideElems.Trod_stays laidOut (by kernel_rfl) (of_decide_eq_true (by kernel_rfl)) h (fun x hx => hb.same (hlt x hx)) hsp
end
end Go.Proofs.Ytjijlefplidhpaa
