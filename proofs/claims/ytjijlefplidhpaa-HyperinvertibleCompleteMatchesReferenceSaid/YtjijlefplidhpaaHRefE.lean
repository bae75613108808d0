/- Complete of the reference of layer 7: the completed vectors or the error. Nothing that lay is changed. Conditions: a supported prime, words of its field, at most 25 rows and 25 columns. -/
import Derived.Test.YtjijlefplidhpaaMG
import Derived.Test.YtjijlefplidhpaaHRefB
import Derived.Test.YtjijlefplidhpaaHRefC
import Derived.Test.YtjijlefplidhpaaHRefD
namespace Go.Proofs.Ytjijlefplidhpaa
set_option maxRecDepth 100000
open Go.RowKit PolyMath FieldMath MatMath

theorem info_bool : (Try.prog.info? 4).map (fun i => (i.zero, i.size, i.bytes)) = some (some (.bool false), 1, 1) := by kernel_rfl
theorem Si.grown {w w' : World} {A : Option Addr} {c : Nat} {xs : List Int} {row : Option Nat} (h : Si w A c xs) (hg : w.grownBy w' row) (hr : ∀ ad, A = some ad → some ad.block ≠ row) : Si w' A c xs :=
  ⟨h.cap, h.nil, fun ad hA hn => by
    obtain ⟨b, off, rfl, hb, hc⟩ := h.rd ad hA hn
    exact ⟨b, off, rfl, Nat.lt_of_lt_of_le hb hg.size, fun j x hx => hg.cell (hc j x hx) (hr ⟨b, off, none⟩ hA)⟩⟩
theorem rows_far {w : World} {b1 b2 t1 t2 n m : Nat} {v u : Value} {xs ys : List Value} (h1 : w.ownsRow b1 t1 1 v n xs) (h2 : w.ownsRow b2 t2 1 u m ys) (ht : t1 ≠ t2) : v.ownBlock = none ∨ v.ownBlock ≠ u.ownBlock := by
  cases hv : v.ownBlock with
  | none => exact .inl rfl
  | some b =>
    refine .inr fun e => ?_
    obtain ⟨c1, f1, q1⟩ := own_tag h1 b hv
    obtain ⟨c2, f2, q2⟩ := own_tag h2 b e.symm
    rw [q1] at q2
    injection q2 with q2
    injection q2 with _ q3 _
    exact ht q3
theorem far_of {w : World} {base t n m c : Nat} {A : Option Addr} {xs : List Value} (h : w.ownsRow base t 1 (.slice A m c) n xs) : ∀ ad, A = some ad → base ≤ ad.block := fun ad e => by
  subst e
  rcases h.2 with ⟨h0, _⟩ | ⟨g, cap, cur, h0, hb, _⟩
  · cases h0
  · cases h0; exact hb

theorem Sll.rowIn {w : World} {b off c : Nat} {rows : List (List Int)} (h : Sll w (some ⟨b, off, none⟩) c rows) {i L : Nat} (hi : i < rows.length) (hl : (ro rows i).length = L) : ∃ A' c', b < w.heap.size ∧ w.cell? ⟨b, off + i, none⟩ = some (.slice A' L c') ∧ Sl w A' c' (ro rows i) := by
  obtain ⟨b', off', A', c', e, h1, h2, h3⟩ := h.rowAt hi hl
  injection e with e
  injection e with e1 e2
  subst e1 e2
  exact ⟨A', c', h1, h2, h3⟩
theorem SllF.rowAt {w : World} {base : Nat} {A : Option Addr} {c : Nat} {rows : List (List Int)} (h : SllF w base A c rows) {i L : Nat} (hi : i < rows.length) (hl : (ro rows i).length = L) : ∃ b off A' c', A = some ⟨b, off, none⟩ ∧ base ≤ b ∧ b < w.heap.size ∧ w.cell? ⟨b, off + i, none⟩ = some (.slice A' L c') ∧ Sl w A' c' (ro rows i) := by
  cases hA : A with
  | none => have := h.nil hA; have := h.cap; omega
  | some ad =>
    obtain ⟨b, off, rfl, h0, hb, hc⟩ := h.rd ad hA (fun e => by rw [e] at hi; simp at hi)
    obtain ⟨A', c', h1, h2, _⟩ := hc i _ (ro_get hi)
    rw [hl] at h1
    exact ⟨b, off, A', c', rfl, h0, hb, h1, h2⟩
theorem rDot7_b (p : Int) (hp : OkP p) (A B : Option Addr) (ca cb n : Nat) (a b : List Int) (ha : El p a) (hb : El p b) (la : a.length = n) (lb : b.length = n) (hl : n ≤ 1000) (w : World) (sa : Sl w A ca a) (sb : Sl w B cb b) :
    Calls Try.prog 53 #[.int .u64 p, .slice A n ca, .slice B n cb] w fun e w' => e = .returned (.int .u64 (dot p a b)) ∧ Below w.heap.size w w' :=
  (rDot7_any p hp A B ca cb n a b ha hb la lb hl w sa sb).mono fun _ _ ⟨he, m, hm⟩ => ⟨he, by rw [hm]; exact below_drewN (Below.refl _ w) m⟩

set_option maxHeartbeats 2000000 in
theorem rCmpl_bad (p : Int) (A B D : Option Addr) (c d f : Nat) (m : List (List Int)) (ins outs : List (Int × Int)) (hc : CArg p m ins outs) (hb : argB m ins outs = false)
    (w : World) (h : Sll w A c m) (si : Pt w B d ins) (so : Pt w D f outs) :
    Calls Try.prog 27 #[.int .u64 p, .slice A m.length c, .slice B ins.length d, .slice D outs.length f] w fun e w' => Err3 1 w e w' := by
  have hrows := hc.rows
  have hcols : ncol m ≤ 25 := hc.cols 0
  have hli := hc.li
  have hlo := hc.lo
  have g1 := even_any A c m (by omega) w h
  have g2 := fun W (q : Pt W B d ins) => rPlaces_any B d (ncol m) ins (by omega) (by omega) W q
  have g3 := fun W (q : Pt W D f outs) => rPlaces_any D f m.length outs (by omega) (by omega) W q
  cases hE : evenB m with
  | false =>
    rw [hE] at g1
    go_enter Try.func27, Try.ntmps27
    go_wp2_with fail
    refine g1.mono ?_; rintro e w1 ⟨rfl, hB1⟩
    go_wp2_with fail
    go_ret3
    exact ⟨rfl, hB1⟩
  | true =>
    rw [hE] at g1
    have h0 : 0 < m.length := by
      unfold evenB at hE
      simp only [Bool.and_eq_true, decide_eq_true_eq] at hE
      exact hE.1.1
    obtain ⟨b0, off0, A0, c0, hA0, hb0, hcr0, _⟩ := h.rowAt (i := 0) (L := ncol m) h0 rfl
    rw [Nat.add_zero] at hcr0
    have h0' : (0 : Int) < m.length := by omega
    subst hA0
    cases hP1 : plcB ins (ncol m) with
    | false =>
      rw [hP1] at g2
      go_enter Try.func27, Try.ntmps27
      go_wp2_with fail
      refine g1.mono ?_; rintro e w1 ⟨rfl, hB1⟩
      have hcr1 := (hB1.cell (p := ⟨b0, off0, none⟩) hb0).trans hcr0
      go_wp2_with fail
      refine (g2 _ (si.next hB1)).mono ?_; rintro e w2 ⟨rfl, hB2⟩
      go_wp2_with fail
      go_ret3
      exact ⟨rfl, hB1.trans (hB2.mono hB1.size)⟩
    | true =>
      rw [hP1] at g2
      cases hP2 : plcB outs m.length with
      | false =>
        rw [hP2] at g3
        go_enter Try.func27, Try.ntmps27
        go_wp2_with fail
        refine g1.mono ?_; rintro e w1 ⟨rfl, hB1⟩
        have hcr1 := (hB1.cell (p := ⟨b0, off0, none⟩) hb0).trans hcr0
        go_wp2_with fail
        refine (g2 _ (si.next hB1)).mono ?_; rintro e w2 ⟨rfl, hB2⟩
        replace hB1 := hB1.trans (hB2.mono hB1.size)
        go_wp2_with fail
        refine (g3 _ (so.next hB1)).mono ?_; rintro e w3 ⟨rfl, hB3⟩
        go_wp2_with fail
        go_ret3
        exact ⟨rfl, hB1.trans (hB3.mono hB1.size)⟩
      | true =>
        rw [hP2] at g3
        have hS : ¬ ins.length + outs.length = ncol m := fun e => by
          unfold argB at hb
          rw [hE, hP1, hP2, beq_iff_eq.2 e] at hb
          cases hb
        have hS' : ((ins.length : Int) + outs.length != ncol m) = true := bne_iff_ne.2 (by omega)
        go_enter Try.func27, Try.ntmps27
        go_wp2_with fail
        refine g1.mono ?_; rintro e w1 ⟨rfl, hB1⟩
        have hcr1 := (hB1.cell (p := ⟨b0, off0, none⟩) hb0).trans hcr0
        go_wp2_with fail
        refine (g2 _ (si.next hB1)).mono ?_; rintro e w2 ⟨rfl, hB2⟩
        replace hB1 := hB1.trans (hB2.mono hB1.size)
        go_wp2_with fail
        refine (g3 _ (so.next hB1)).mono ?_; rintro e w3 ⟨rfl, hB3⟩
        replace hB1 := hB1.trans (hB3.mono hB1.size)
        have hcr3 := (hB1.cell (p := ⟨b0, off0, none⟩) hb0).trans hcr0
        go_wp2_with fail
        go_ret3
        exact ⟨rfl, hB1⟩

set_option maxHeartbeats 8000000 in
theorem rCmpl_any (p : Int) (hp : OkP p) (A B D : Option Addr) (c d f : Nat) (m : List (List Int)) (ins outs : List (Int × Int)) (hc : CArg p m ins outs) (hab : argB m ins outs = true)
    (w : World) (h : Sll w A c m) (si : Pt w B d ins) (so : Pt w D f outs) :
    Calls Try.prog 27 #[.int .u64 p, .slice A m.length c, .slice B ins.length d, .slice D outs.length f] w fun e w' => CmpE p m ins outs w e w' := by
  obtain ⟨u0, hu0, hx0, hx1, hx2⟩ := info_parts info_u64
  obtain ⟨i0, hi0, hz0, hz1, hz2⟩ := info_parts info_int
  obtain ⟨o0, ho0, hw0, hw1, hw2⟩ := info_parts info_bool
  have hbd := hp.bd
  have hrows := hc.rows
  have hcols : ncol m ≤ 25 := hc.cols 0
  have hli := hc.li
  have hlo := hc.lo
  have ha := hc.arg hab
  obtain ⟨hE, hP1, hP2⟩ := argB_parts hab
  have g1 := even_any A c m (by omega) w h
  rw [hE] at g1
  have g2 := fun W (q : Pt W B d ins) => rPlaces_any B d (ncol m) ins (by omega) (by omega) W q
  rw [hP1] at g2
  have g3 := fun W (q : Pt W D f outs) => rPlaces_any D f m.length outs (by omega) (by omega) W q
  rw [hP2] at g3
  obtain ⟨b0, off0, A0, c0, hA0, hb0, hcr0, _⟩ := h.rowAt (i := 0) (L := ncol m) ha.rows rfl
  rw [Nat.add_zero] at hcr0
  have h0' : (0 : Int) < m.length := by have := ha.rows; omega
  have hS' : ((ins.length : Int) + outs.length != ncol m) = false := by
    have h1 := ha.sum
    have : (ins.length : Int) + outs.length = ncol m := by omega
    rw [this]; simp
  have hbU : Hid (u0.bytes * ncol m ≤ 281474976710656) := Lib.hid (by rw [hx2]; omega)
  have hbO : Hid (o0.bytes * ncol m ≤ 281474976710656) := Lib.hid (by rw [hw2]; omega)
  have hinR : Hid (∀ q ∈ ins, 0 ≤ q.1 ∧ q.1 < (ncol m : Int)) := Lib.hid fun q hq => ⟨(hc.inw q hq).1.1, by have h1 := (hc.inw q hq).1.1; have := ha.inl q.1.toNat (List.mem_map.2 ⟨q, hq, rfl⟩); omega⟩
  have houtR : Hid (∀ q ∈ outs, (0 ≤ q.1 ∧ q.1 < (m.length : Int)) ∧ 0 ≤ q.2 ∧ q.2 < p) := Lib.hid fun q hq => ⟨ha.outl q hq, hc.on q hq⟩
  have hrest := Lib.hid ha.rest
  have hrl : Hid (∀ k, k < m.length → (ro m k).length = ncol m) := Lib.hid fun k hk => rect_iff.1 ha.rect k hk
  have hel : Hid (∀ k, k < m.length → El p (ro m k)) := Lib.hid fun k hk => hc.el _ (List.mem_of_getElem? (ro_get hk))
  have hxE := ha.xin_el (p := p) (by omega) hc.ne
  have hxN := Lib.hid (xin_len m ins)
  have hLlt := Lib.hid ha.lt
  have hend : Hid (putL (List.replicate (ncol m) 0) (ins.take ins.length) = xin m ins) := Lib.hid (by rw [List.take_length]; rfl)
  have hbits : Hid (∀ j, bit (mark (List.replicate (ncol m) false) 0 ins) j = (idx ins).contains j) := Lib.hid fun j => by
    rw [mark_bit 0 ins _ (fun q hq => by rw [List.length_replicate]; have := hinR.out q hq; omega)]
    have hrep : bit (List.replicate (ncol m) false) j = false := by unfold bit; rw [List.getElem?_replicate]; split <;> rfl
    rw [hrep, Bool.false_or, Bool.eq_iff_iff, decide_eq_true_eq, List.contains_iff_mem]
    constructor
    · rintro ⟨q, hq, e⟩
      exact List.mem_map.2 ⟨q, hq, by omega⟩
    · intro h
      obtain ⟨q, hq, e⟩ := List.mem_map.1 h
      exact ⟨q, hq, by omega⟩
  have hlo25 : outs.length ≤ 25 := by have := ha.sum; omega
  have HA := Lib.hid ha
  subst hA0
  clear ha hE hP1 hP2
  go_enter Try.func27, Try.ntmps27
  go_wp2_with fail
  refine g1.mono ?_; rintro e w1 ⟨rfl, hB⟩
  have hcr1 := (hB.cell (p := ⟨b0, off0, none⟩) hb0).trans hcr0
  clear g1
  go_wp2_with fail
  refine (g2 _ (si.next hB)).mono ?_; rintro e w2 ⟨rfl, hb⟩
  replace hB := hB.trans (hb.mono hB.size)
  clear g2 hb hcr1
  go_wp2_with fail
  refine (g3 _ (so.next hB)).mono ?_; rintro e w3 ⟨rfl, hb⟩
  replace hB := hB.trans (hb.mono hB.size)
  clear g3 hb
  have hcr3 := (hB.cell (p := ⟨b0, off0, none⟩) hb0).trans hcr0
  go_wp2_with (first | (at_make; refine wpList_make_full _ rfl _ _ 86 rfl w.heap.size 4 o0 (.bool false) 1 Try.underlying86 ho0 hw0 hw1 .i64 .i64 _ _ (ncol m) rfl rfl (by omega) (by omega) hbO.out (by simp only [maxLen]; omega) hB.size ?_; intro w4 hown4 hgrow4; have hB4 : Below w.heap.size w w4 := hB.grown hgrow4 hB.size (fun k e => by cases e); have hlt4 := (World.ownsRow.lt hown4 w3.heap.size rfl).2) | (at_make; refine wpList_make_full _ rfl _ _ 31 rfl w.heap.size 22 u0 (.int .u64 0) 1 Try.underlying31 hu0 hx0 hx1 .i64 .i64 _ _ (ncol m) rfl rfl (by omega) (by omega) hbU.out (by simp only [maxLen]; omega) hB4.size ?_; intro w5 hown5 hgrow5; have hB5 : Below w.heap.size w w5 := hB4.grown hgrow5 hB4.size (fun k e => by cases e)))
  simp only [Value.cells, toList_madeCells_one, Nat.mul_one] at hown4 hown5
  obtain ⟨G1, hG1⟩ : ∃ G, G = w3.heap.size := ⟨_, rfl⟩
  obtain ⟨G2, hG2⟩ : ∃ G, G = w4.heap.size := ⟨_, rfl⟩
  have hG12 : G1 < G2 := by omega
  have hG1w : w.heap.size ≤ G1 := by rw [hG1]; exact hB.size
  rw [← hG1, ← hG2]
  rw [← hG1] at hown4
  rw [← hG2] at hown5
  have hT5 : w5.ownsRow w.heap.size 4 1 (.slice (some ⟨G1, 0, none⟩) (ncol m) (ncol m)) (ncol m) ((mark (List.replicate (ncol m) false) 0 (ins.take 0)).map Value.bool) := by
    have h9 := World.ownsRow.kept hown4 hgrow5 (.inr (fun e => by cases e))
    show World.ownsRow _ _ _ _ _ _ ((List.replicate (ncol m) false).map Value.bool)
    rw [List.map_replicate]
    exact h9
  have hO5 : OwnAt w5 w.heap.size G2 (ncol m) (ncol m) (putL (List.replicate (ncol m) 0) (ins.take 0)) := by
    unfold OwnAt
    show World.ownsRow _ _ _ _ _ _ ((List.replicate (ncol m) (0 : Int)).map (Value.int .u64))
    rw [List.map_replicate]
    exact hown5
  clear hown4 hown5 hgrow4 hgrow5 hG1 hG2 hlt4 hB4 hB hcr3
  go_loopw [14] (fun i wr => ∃ k : Nat, k ≤ ins.length ∧ i = .int .i64 k ∧ wr.ownsRow w.heap.size 4 1 (.slice (some ⟨G1, 0, none⟩) (ncol m) (ncol m)) (ncol m) ((mark (List.replicate (ncol m) false) 0 (ins.take k)).map Value.bool) ∧ OwnAt wr w.heap.size G2 (ncol m) (ncol m) (putL (List.replicate (ncol m) 0) (ins.take k)) ∧ Below w.heap.size w wr) (fun i _ => ins.length - (intOf i).toNat)
  case atStart => exact ⟨0, Nat.zero_le _, rfl, hT5, hO5, hB5⟩
  case round =>
    obtain ⟨k, hk, rfl, hT, hO, hB⟩ := hrel
    by_cases hlt : k < ins.length
    · obtain ⟨bi, oi, x, y, hAi, hbl, hx, hcx, hcy⟩ := si.at_ hlt
      subst hAi
      have hq := hinR.out _ (List.mem_of_getElem? hx)
      obtain ⟨q, rfl⟩ : ∃ q : Nat, x = (q : Int) := ⟨x.toNat, by have := hq.1; omega⟩
      have hq2 : (q : Int) < (ncol m : Int) := hq.2
      have hqn : q < ncol m := by omega
      have hcxw := (hB.cell (p := ⟨bi, oi + k * 2, none⟩) hbl).trans hcx
      have hset := putL_next (List.replicate (ncol m) 0) hx
      have hmset := mark_next (List.replicate (ncol m) false) 0 hx
      rw [Int.toNat_natCast] at hset hmset
      rw [Nat.zero_add] at hmset
      have hTc : ∃ z, wr.cell? ⟨G1, q, none⟩ = some (.bool z) := by
        have hl9 : (mark (List.replicate (ncol m) false) 0 (ins.take k)).length = ncol m := by rw [mark_len, List.length_replicate]
        refine ⟨(mark (List.replicate (ncol m) false) 0 (ins.take k))[q]'(by omega), ?_⟩
        rw [World.ownsRow.cellAt hT q (by omega), List.getElem?_map, List.getElem?_eq_getElem (by omega)]; rfl
      obtain ⟨z, hcz⟩ := hTc
      have hfz := World.ownsRow.frozenAt hT q
      have hTs := World.ownsRow.stored hT q (.bool true)
      have hlt1 := (World.ownsRow.lt hT G1 rfl).2
      have hkN : (k : Int) < ins.length := by omega
      have hT9 : Hid ((wr.setCell ⟨G1, q, none⟩ (.bool true)).ownsRow w.heap.size 4 1 (.slice (some ⟨G1, 0, none⟩) (ncol m) (ncol m)) (ncol m) ((mark (List.replicate (ncol m) false) 0 (ins.take (k + 1))).map Value.bool)) := Lib.hid (by rw [hmset, List.map_set]; exact hTs.1)
      have hO9 : Hid (OwnAt (wr.setCell ⟨G1, q, none⟩ (.bool true)) w.heap.size G2 (ncol m) (ncol m) (putL (List.replicate (ncol m) 0) (ins.take k))) := Lib.hid (hO.kept hTs.2 (fun e => by injection e with e; omega))
      have hB9 := Lib.hid (hB.setCell (p := ⟨G1, q, none⟩) hG1w (.bool true))
      have HSET := Lib.hid hset
      clear hset hmset hx hq hT hO hTs
      go_wp2_with fail
      obtain ⟨W9, hW9⟩ : ∃ W9, W9 = wr.setCell ⟨G1, q, none⟩ (.bool true) := ⟨_, rfl⟩
      rw [← hW9] at hT9 hO9 hB9 ⊢
      have c9 := (hB9.out.cell (p := ⟨bi, oi + k * 2, none⟩) hbl).trans hcx
      have d9 := (hB9.out.cell (p := ⟨bi, oi + k * 2 + 1, none⟩) hbl).trans hcy
      obtain ⟨z2, hz9⟩ : ∃ z, (putL (List.replicate (ncol m) 0) (ins.take k))[q]? = some z := ⟨_, List.getElem?_eq_getElem (by rw [putL_len, List.length_replicate]; exact hqn)⟩
      have hcx9 := hO9.out.cell hz9
      have hfx9 := hO9.out.frozen q
      have hltx := hO9.out.lt
      have hput := Lib.hid (hO9.out.drew.put q y)
      have hTk : Hid ((W9.drew.setCell ⟨G2, q, none⟩ (.int .u64 y)).ownsRow w.heap.size 4 1 (.slice (some ⟨G1, 0, none⟩) (ncol m) (ncol m)) (ncol m) ((mark (List.replicate (ncol m) false) 0 (ins.take (k + 1))).map Value.bool)) := Lib.hid (World.ownsRow.kept (own_below hT9.out (Below.refl _ W9).drew) (hO9.out.drew.grow q y) (.inr (fun e => by injection e with e; have e' : G1 = G2 := e; omega)))
      have hbel := Lib.hid (hB9.out.drew.setCell (p := ⟨G2, q, none⟩) (show w.heap.size ≤ G2 by omega) (.int .u64 y))
      clear hW9 hz9 hcz hfz hcxw hlt1 hT9 hO9 hB9
      refine wp_region_still_tail 12 (by kernel_rfl) (by kernel_rfl) ?_
      simp only [List.take_succ_cons, List.take_zero, List.drop_succ_cons, List.drop_zero]
      change wpStill _ _ (World.drew _) (fun a' => wpList _ _ _ _ a' (World.drew _)) _ _
      repeat still_step
      refine wpStill_nil ?_
      go_wp2_with fail
      go_roundw
      case rel => exact ⟨k + 1, by omega, by simp, hTk.out, by rw [HSET.out]; exact hput.out, hbel.out⟩
      case measure => simp [intOf]; omega
    · obtain rfl : k = ins.length := by omega
      rw [hend.out] at hO
      rw [List.take_length] at hT
      rename World => W0
      have hsW0 := hB.size
      have hG2lt := hO.lt.2
      go_wp2_with fail
      go_loopw [15, 16] (fun v i wr => ∃ k cnt : Nat, k ≤ ncol m ∧ cnt ≤ k ∧ i = .int .i64 k ∧ Hid ((rest k (idx ins)).length = cnt) ∧ wr.ownsRow W0.heap.size 3 1 v cnt ((oI (rest k (idx ins))).map (Value.int .i64)) ∧ Below W0.heap.size W0 wr) (fun _ i _ => ncol m - (intOf i).toNat)
      case atStart => exact ⟨0, 0, Nat.zero_le _, Nat.le_refl _, rfl, Lib.hid rfl, World.ownsRow_nil _ _ _ _, Below.refl _ _⟩
      case round =>
        obtain ⟨k, cnt, hk, hcnt, rfl, hLen, hrow, hb⟩ := hrel
        have hsz := hb.size
        by_cases hlt : k < ncol m
        · have hct : wr.cell? ⟨G1, k, none⟩ = some (.bool ((idx ins).contains k)) := by
            have hl9 : (mark (List.replicate (ncol m) false) 0 ins).length = ncol m := by rw [mark_len, List.length_replicate]
            rw [hb.cell (p := ⟨G1, k, none⟩) (World.ownsRow.lt hT G1 rfl).2, World.ownsRow.cellAt hT k (by omega), List.getElem?_map, List.getElem?_eq_getElem (by omega), ← hbits.out k]
            unfold bit
            rw [List.getElem?_eq_getElem (by omega)]; rfl
          have hkL : (k : Int) < ncol m := by omega
          have hRN := rest_next k (idx ins)
          obtain ⟨A2, c2, hv⟩ := row_form hrow
          subst hv
          cases hC : (idx ins).contains k with
          | true =>
            rw [hC] at hct hRN
            rw [if_pos rfl, List.append_nil] at hRN
            have HRN := Lib.hid hRN
            clear hRN hC
            go_wp2_with fail
            go_roundw
            case rel => exact ⟨k + 1, cnt, by omega, by omega, by simp, by rw [HRN.out]; exact hLen, by rw [HRN.out]; exact hrow, hb⟩
            case measure => simp [intOf]; omega
          | false =>
            rw [hC] at hct hRN
            rw [if_neg (by simp)] at hRN
            have HRN := Lib.hid hRN
            clear hRN hC
            go_wp2_with (at_builtin; refine wpList_append_own _ rfl _ _ 36 rfl W0.heap.size 3 i0 (.int .i64 0) 1 8 Try.underlying36 hi0 hz0 hz1 hz2 rfl (by decide) _ _ _ rfl (hrow.alloc _) ⟨wr.heap.size, 0, none⟩ 1 1 [.int .i64 (k : Int)] rfl rfl (cell_one_new _ _ _) (by simp [Value.oneCell']) (by simp only [maxLen]; omega) (by omega) (by simp; omega) ?_; intro v' w2 hown' hgrow _)
            have hB2 : Below W0.heap.size W0 w2 := (hb.alloc hsz _).grown hgrow (by simp; omega) (fun k e => (hrow.lt k e).1)
            go_roundw
            case rel => exact ⟨k + 1, cnt + 1, by omega, by omega, by simp, Lib.hid (by rw [HRN.out, List.length_append, hLen.out]; rfl), by rw [HRN.out, oI_snoc, List.map_append]; exact hown', hB2⟩
            case measure => simp [intOf]; omega
        · obtain rfl : k = ncol m := by omega
          have hoc : cnt = outs.length := by rw [← hLen.out]; exact hrest.out
          subst hoc
          obtain ⟨Aq, cq, hvq, sq⟩ := iown_form hrow
          have hqlen : (oI (rest (ncol m) (idx ins))).length = outs.length := by rw [oI_len]; exact hLen.out
          rw [hqlen] at hvq
          subst hvq
          have hqfar := far_of hrow
          have hOx := OwnAt.next hO hb
          replace hB := hB.trans (hb.mono hB.size)
          have hOQ := Lib.hid hqlen
          have hG2w0 := hG2lt
          rename World => W1
          have hG2W1 : G2 < W1.heap.size := hOx.lt.2
          have hGQ : ∀ ad, Aq = some ad → some ad.block ≠ some G2 := fun ad e e2 => by have := hqfar ad e; injection e2 with e2; omega
          clear hrow hO hT hLen hqlen hcnt
          generalize hLL : rest (ncol m) (idx ins) = L at *
          have hsB1 := hB.size
          go_wp2_with fail
          go_loopw [17, 18, 19] (fun v u i wr => ∃ k : Nat, k ≤ outs.length ∧ i = .int .i64 k ∧ wr.ownsRow W1.heap.size 3 1 v k (((List.range k).map (co (px outs))).map (Value.int .i64)) ∧ wr.ownsRow W1.heap.size 22 1 u k (((List.range k).map (co (rgt p m (xin m ins) outs))).map (Value.int .u64)) ∧ Below W1.heap.size W1 wr) (fun _ _ i _ => outs.length - (intOf i).toNat)
          case atStart => exact ⟨0, Nat.zero_le _, rfl, World.ownsRow_nil _ _ _ _, World.ownsRow_nil _ _ _ _, Below.refl _ _⟩
          case round =>
            obtain ⟨k, hk, rfl, hV, hU, hb⟩ := hrel
            have hsz := hb.size
            have hBw := hB.trans (hb.mono hsB1)
            by_cases hlt : k < outs.length
            · obtain ⟨bo, oo, x, y, hAo, hbo, hx, hcx, hcy⟩ := so.at_ hlt
              subst hAo
              have hq := houtR.out _ (List.mem_of_getElem? hx)
              obtain ⟨q, rfl⟩ : ∃ q : Nat, x = (q : Int) := ⟨x.toNat, by have := hq.1.1; omega⟩
              have hqm : (q : Int) < (m.length : Int) := hq.1.2
              have hqm' : q < m.length := by omega
              have hyb : 0 ≤ y ∧ y < p := hq.2
              obtain ⟨Ar, cr, hbr, hcr, sr⟩ := h.rowIn (i := q) (L := ncol m) hqm' (hrl.out q hqm')
              have hcxw := (hBw.cell (p := ⟨bo, oo + k * 2, none⟩) hbo).trans hcx
              have hX := Lib.hid (px_at hx)
              have hRG : Hid (co (rgt p m (xin m ins) outs) k = fsub p y (dot p (ro m q) (xin m ins))) := Lib.hid (co_at (by unfold rgt; rw [List.getElem?_map, hx]; rfl))
              have hDb := dot_bd (p := p) (by omega) (ro m q) (xin m ins)
              have hci : IntKind.i64.wrap (q : Int) = q := IntWalk.i64_in _ (by omega)
              have hkO : (k : Int) < outs.length := by omega
              obtain ⟨Av, cv', hv⟩ := row_form hV
              obtain ⟨Au, cu', hu⟩ := row_form hU
              subst hv hu
              have hUa := hU.alloc (.cells #[.int .i64 (q : Int)] 3)
              have hVa := hV.alloc (.cells #[.int .i64 (q : Int)] 3)
              have hfarUV := rows_far hUa hVa (by decide)
              have HUA := Lib.hid hUa
              clear hx hq hUa
              go_wp2_with (at_builtin; refine wpList_append_own _ rfl _ _ 36 rfl W1.heap.size 3 i0 (.int .i64 0) 1 8 Try.underlying36 hi0 hz0 hz1 hz2 rfl (by decide) _ _ _ rfl hVa ⟨wr.heap.size, 0, none⟩ 1 1 [.int .i64 (q : Int)] rfl rfl (cell_one_new _ _ _) (by simp [Value.oneCell']) (by simp only [maxLen]; omega) (by omega) (by simp; omega) ?_; intro v5 w5 hown5 hgrow5 _)
              obtain ⟨A5, c5, hv5⟩ := row_form hown5
              subst hv5
              have hb5 : Below W1.heap.size W1 w5 := (hb.alloc hsz _).grown hgrow5 (by simp; omega) (fun k e => (hV.lt k e).1)
              have hBw5 := hB.trans (hb5.mono hsB1)
              have hU5 := World.ownsRow.kept HUA.out hgrow5 hfarUV
              have hV5 : w5.ownsRow W1.heap.size 3 1 (.slice A5 (k + 1) c5) (k + 1) (((List.range (k + 1)).map (co (px outs))).map (Value.int .i64)) := iown_next (f := co (px outs)) (by rw [hX.out]; exact hown5)
              have hsz5 := hb5.size
              have e1 := (hBw5.cell (p := ⟨bo, oo + k * 2, none⟩) hbo).trans hcx
              have e2 := (hBw5.cell (p := ⟨bo, oo + k * 2 + 1, none⟩) hbo).trans hcy
              have e3 := (hBw5.cell (p := ⟨b0, off0 + q, none⟩) hbr).trans hcr
              have hdot0 := rDot7_b p hp Ar (some ⟨G2, 0, none⟩) cr (ncol m) (ncol m) (ro m q) (xin m ins) (hel.out q hqm') hxE (hrl.out q hqm') hxN.out (by omega) w5.drew ((sr.next hBw5).drew) ((OwnAt.next hOx hb5).drew.sl)
              generalize dot p (ro m q) (xin m ins) = DQ at *
              have hSB := fsub_bd p y DQ (by omega)
              have HV5 := Lib.hid hV5
              have HU5 := Lib.hid hU5
              have hbo5 : bo < w5.heap.size := Nat.lt_of_lt_of_le hbo hBw5.size
              have hbr5 : b0 < w5.heap.size := Nat.lt_of_lt_of_le hbr hBw5.size
              clear hV hU hVa hown5 hgrow5 hV5 hU5 hfarUV HUA hcxw hBw
              go_region_held3 (fun w' => w'.cell? ⟨bo, oo + k * 2, none⟩ = some (.int .u64 (q : Int)) ∧ w'.cell? ⟨bo, oo + k * 2 + 1, none⟩ = some (.int .u64 y) ∧ w'.cell? ⟨b0, off0 + q, none⟩ = some (.slice Ar (ncol m) cr))
                (first | (refine ⟨?_, ?_, ?_⟩ <;> assumption))
                (first | (refine step_append_own _ (by rfl) _ _ _ (by rfl) W1.heap.size 22 u0 (.int .u64 0) 1 8 Try.underlying31 hu0 hx0 hx1 hx2 rfl (by decide) _ _ _ (by rfl) hU7.out ⟨w6.heap.size, 0, none⟩ 1 1 [.int .u64 (fsub p y DQ)] (by rfl) (by rfl) (cell_one_new _ _ _) (by simp [Value.oneCell']) (by simp only [maxLen]; omega) (by omega) (by first | omega | (simp; done) | (simp; omega)) ?_; intro v8 w8 hown8 hgrow8; have hb8 : Below W1.heap.size W1 w8 := hb7.grown hgrow8 (by first | omega | (simp; done) | (simp; omega)) (fun x e => (World.ownsRow.lt hU7.out x e).1); have hBw8 := hB.trans (hb8.mono hsB1); have q1 := (hBw8.cell (p := ⟨bo, oo + k * 2, none⟩) hbo).trans hcx; have q2 := (hBw8.cell (p := ⟨bo, oo + k * 2 + 1, none⟩) hbo).trans hcy; have q3 := (hBw8.cell (p := ⟨b0, off0 + q, none⟩) hbr).trans hcr) | (go_at_call 53; (with_reducible refine hdot0.mono ?_); clear hdot0; rintro e w6 ⟨rfl, hb6⟩; have hb6' : Below W1.heap.size W1 w6 := hb5.drew.trans (hb6.mono hsz5); have hBw6 := hB.trans (hb6'.mono hsB1); have f1 := (hBw6.cell (p := ⟨bo, oo + k * 2, none⟩) hbo).trans hcx; have f2 := (hBw6.cell (p := ⟨bo, oo + k * 2 + 1, none⟩) hbo).trans hcy; have f3 := (hBw6.cell (p := ⟨b0, off0 + q, none⟩) hbr).trans hcr; have hsz6 := hb6'.size; have hb7 := hb6'.alloc hsz6 (.cells #[.int .u64 (fsub p y DQ)] 22); have hBw7 := hB.trans (hb7.mono hsB1); have l1 := (hBw7.cell (p := ⟨bo, oo + k * 2, none⟩) hbo).trans hcx; have l2 := (hBw7.cell (p := ⟨bo, oo + k * 2 + 1, none⟩) hbo).trans hcy; have l3 := (hBw7.cell (p := ⟨b0, off0 + q, none⟩) hbr).trans hcr; have hU7 := Lib.hid ((own_below HU5.out ((Below.refl _ w5).drew.trans (hb6.mono (Nat.le_refl _)))).alloc (.cells #[.int .u64 (fsub p y DQ)] 22)); have hV7 := Lib.hid ((own_below HV5.out ((Below.refl _ w5).drew.trans (hb6.mono (Nat.le_refl _)))).alloc (.cells #[.int .u64 (fsub p y DQ)] 22)); have hfar7 := Lib.hid (rows_far hV7.out hU7.out (by decide))) | (go_at_call 52; refine (rSub_any _ _ _ hp hyb.1 hyb.2 hDb.1 hDb.2 _).mono ?_; rintro e w' ⟨rfl, rfl⟩))
              all_goals
                go_wp2_with fail
                go_roundw
                case rel => exact ⟨k + 1, by omega, by simp, World.ownsRow.kept hV7.out hgrow8 hfar7.out, own_next (f := co (rgt p m (xin m ins) outs)) (by rw [hRG.out]; exact hown8), hb8⟩
                case measure => simp [intOf]; omega
            · obtain rfl : k = outs.length := by omega
              have hD1 : (List.range outs.length).map (co (px outs)) = px outs := by rw [← px_len]; exact range_co _
              have hD2 : (List.range outs.length).map (co (rgt p m (xin m ins) outs)) = rgt p m (xin m ins) outs := by rw [← rgt_len p m (xin m ins) outs]; exact range_co _
              rw [hD1] at hV
              rw [hD2] at hU
              obtain ⟨AV, cV, hvV, sV⟩ := iown_form hV
              obtain ⟨AU, cU, hvU, sU⟩ := own_form hU
              rw [px_len] at hvV
              rw [rgt_len] at hvU
              subst hvV hvU
              have hUfar := far_of hU
              replace hOx := OwnAt.next hOx hb
              replace sq := sq.next hb
              have hBw := hB.trans (hb.mono hsB1)
              clear hV hU hD1 hD2 hB
              have hB := hBw
              clear hBw
              by_cases h00 : outs.length = 0
              · have hon : outs = [] := List.eq_nil_of_length_eq_zero h00
                have hCF : Hid (cmp p m ins outs = some (xin m ins)) := Lib.hid (by
                  unfold cmp
                  rw [if_neg (by omega)]
                  have hl0 : (rest (ncol m) (idx ins)).length = 0 := by rw [hLL, hrest.out]; exact h00
                  rw [hl0]; rfl)
                have h00' : ¬ (0 : Int) < outs.length := by omega
                have H00 := Lib.hid h00
                have hXE := hxE
                have hXL := hxN
                clear hon h00
                generalize xin m ins = XF at *
                have sx := hOx.sl
                have sm := h.next hB
                have hYN := Lib.hid (app_len p m XF)
                rename World => WS
                go_wp2_with fail
                go_loopw [25, 26] (fun v i wr => ∃ k : Nat, k ≤ m.length ∧ i = .int .i64 k ∧ wr.ownsRow WS.heap.size 22 1 v k (((List.range k).map fun i => dot p (ro m i) XF).map (Value.int .u64)) ∧ Below WS.heap.size WS wr) (fun _ i _ => m.length - (intOf i).toNat)
                case atStart => exact ⟨0, Nat.zero_le _, rfl, World.ownsRow_nil _ _ _ _, Below.refl _ _⟩
                case round =>
                  obtain ⟨k, hk, rfl, hrow, hb5⟩ := hrel
                  have hsz5 := hb5.size
                  by_cases hlt : k < m.length
                  · obtain ⟨Ar5, cr5, hbr, hcr5, sr5⟩ := sm.rowIn (i := k) (L := ncol m) hlt (hrl.out k hlt)
                    have hcrw := (hb5.cell (p := ⟨b0, off0 + k, none⟩) hbr).trans hcr5
                    have hdot := rDot7_b p hp Ar5 (some ⟨G2, 0, none⟩) cr5 (ncol m) (ncol m) (ro m k) XF (hel.out k hlt) hXE (hrl.out k hlt) hXL.out (by omega) wr (sr5.next hb5) (sx.next hb5)
                    have hkm : (k : Int) < m.length := by omega
                    have hNX : Hid (dot p (ro m k) XF = (fun i => dot p (ro m i) XF) k) := Lib.hid rfl
                    generalize dot p (ro m k) XF = DK at *
                    obtain ⟨Av, cv', hv⟩ := row_form hrow
                    subst hv
                    go_wp2_with (first | (go_at_call 53; (with_reducible refine hdot.mono ?_); clear hdot; rintro e w6 ⟨rfl, hb6⟩; have hrow6 := own_below hrow hb6; have hB6 := hb5.trans (hb6.mono hsz5); have hsz6 := hB6.size) | (at_builtin; refine wpList_append_own _ rfl _ _ 31 rfl WS.heap.size 22 u0 (.int .u64 0) 1 8 Try.underlying31 hu0 hx0 hx1 hx2 rfl (by decide) _ _ _ rfl (hrow6.alloc _) ⟨w6.heap.size, 0, none⟩ 1 1 [.int .u64 DK] rfl rfl (cell_one_new _ _ _) (by simp [Value.oneCell']) (by simp only [maxLen]; omega) (by omega) (by simp; omega) ?_; intro v' w7 hown' hgrow _))
                    have hB7 : Below WS.heap.size WS w7 := (hB6.alloc hsz6 _).grown hgrow (by simp; omega) (fun k e => (hrow6.lt k e).1)
                    go_roundw
                    case rel => exact ⟨k + 1, by omega, by simp, own_next (f := fun i => dot p (ro m i) XF) (by rw [← hNX.out]; exact hown'), hB7⟩
                    case measure => simp [intOf]; omega
                  · obtain rfl : k = m.length := by omega
                    obtain ⟨Ay, cy, hvy, sy⟩ := own_form hrow
                    have hly : ((List.range m.length).map fun i => dot p (ro m i) XF).length = m.length := by simp
                    rw [hly] at hvy
                    subst hvy
                    have hfin : CmpE p m ins outs w (.returned (.tuple #[.slice (some ⟨G2, 0, none⟩) (ncol m) (ncol m), .slice Ay m.length cy, .int .i64 0])) wr := by
                      unfold CmpE
                      rw [if_pos hab, hCF.out]
                      refine ⟨some ⟨G2, 0, none⟩, ncol m, Ay, cy, ?_, sx.next hb5, sy, hB.trans (hb5.mono hB.size)⟩
                      rw [hXL.out, hYN.out]
                    have hFIN := Lib.hid hfin
                    clear hrow hfin
                    go_wp2_with fail
                    go_ret3
                    exact hFIN.out
              · have h00' : (0 : Int) < outs.length := by omega
                have hM := HA.out.sq (p := p) (by omega) hc.el
                have hsq := squ_mat hM (by omega)
                have gs := fun W (a1 : Sll W (some ⟨b0, off0, none⟩) c m) (a2 : Si W AV cV (px outs)) (a3 : Si W Aq cq (oI L)) => rSubm_any (some ⟨b0, off0, none⟩) AV Aq c cV cq m (px outs) (oI L) (by omega) (fun i => by have := hc.cols i; omega) (by rw [px_len]; omega) (by rw [hOQ.out]; omega) W a1 a2 a3
                have hsb : subB m (px outs) (oI L) = true := by rw [← hLL]; exact HA.out.subOk
                have hse : subM m (px outs) (oI L) = sqm m ins outs := by rw [← hLL]; rfl
                have hSL : (sqm m ins outs).length = outs.length := hM.rows
                have gs2 : ∀ W, Sll W (some ⟨b0, off0, none⟩) c m → Si W AV cV (px outs) → Si W Aq cq (oI L) → Calls Try.prog 23 #[.slice (some ⟨b0, off0, none⟩) m.length c, .slice AV outs.length cV, .slice Aq outs.length cq] W fun e w' => ∃ A' c', e = .returned (.tuple #[.slice A' outs.length c', .int .i64 0]) ∧ Sll w' A' c' (sqm m ins outs) ∧ Below W.heap.size W w' := fun W a1 a2 a3 => by
                  have h9 := gs W a1 a2 a3
                  rw [px_len, hOQ.out] at h9
                  refine h9.mono fun e w' hx => ?_
                  rcases hx with ⟨_, A', c', q1, q2, q3⟩ | ⟨q1, _⟩
                  · rw [hse] at q1 q2
                    rw [hSL] at q1
                    exact ⟨A', c', q1, q2, q3⟩
                  · rw [hsb] at q1; cases q1
                have gv := fun W A' c' (a1 : Sll W A' c' (sqm m ins outs)) => rInverse_any p hp A' c' (sqm m ins outs) (by rw [hSL]; omega) hM.els hsq W a1
                rw [hSL] at gv
                have hnone := inv_none_iff hp.good hsq hM.els
                rw [hSL] at hnone
                cases hI : invM p (sqm m ins outs) with
                | none =>
                  have hCN : Hid (cmp p m ins outs = none) := Lib.hid (if_pos (hnone.1 hI))
                  have gv2 : ∀ W A' c', Sll W A' c' (sqm m ins outs) → Calls Try.prog 54 #[.int .u64 p, .slice A' outs.length c'] W fun e w' => e = .returned (.tuple #[.slice none 0 0, .int .i64 8]) ∧ Below W.heap.size W w' := fun W A' c' a1 => (gv W A' c' a1).mono fun e w' hx => by
                    rcases hx with ⟨X, q1, _⟩ | ⟨_, q2⟩
                    · rw [hI] at q1; cases q1
                    · exact q2
                  clear gs gv hnone hM hsq hse hsb hSL hI
                  go_wp2_with fail
                  refine (gs2 _ (h.next hB) sV sq).mono ?_; rintro e w6 ⟨A6, c6, rfl, s6, hb6⟩
                  have hB6 := hB.trans (hb6.mono hB.size)
                  clear gs2
                  go_wp2_with fail
                  refine (gv2 _ _ _ s6).mono ?_; rintro e w7 ⟨rfl, hb7⟩
                  have hfin : CmpE p m ins outs w (.returned (.tuple #[.slice none 0 0, .slice none 0 0, .int .i64 8])) w7 := by
                    unfold CmpE
                    rw [if_pos hab, hCN.out]
                    exact ⟨rfl, hB6.trans (hb7.mono hB6.size)⟩
                  have hFIN := Lib.hid hfin
                  clear gv2 hfin
                  go_wp2_with fail
                  go_ret3
                  exact hFIN.out
                | some X =>
                  obtain ⟨_, hXM, _, _⟩ := invM_some hp.good hsq hM.els hI
                  rw [hSL] at hXM
                  have hRE := rgt_el (p := p) (by omega) m (xin m ins) outs
                  have hRL := rgt_len p m (xin m ins) outs
                  have hslv := slv_inv hp.good hsq hM.els hRE (by rw [hSL, hRL]) hI
                  obtain ⟨s, hs⟩ : ∃ s, s = app p X (rgt p m (xin m ins) outs) := ⟨_, rfl⟩
                  rw [← hs] at hslv
                  have hr : ¬ rnk p (sqm m ins outs) < outs.length := fun hlt => by rw [hnone.2 hlt] at hI; cases hI
                  have hCF : Hid (cmp p m ins outs = some (fil (xin m ins) L s outs.length)) := Lib.hid (by unfold cmp; rw [if_neg hr, hslv, hLL, hrest.out]; rfl)
                  have hXE := (cmp_some hp.good HA.out hc.el hc.ne hc.on hslv).1
                  rw [hLL, hrest.out] at hXE
                  have hXL : Hid ((fil (xin m ins) L s outs.length).length = ncol m) := Lib.hid (by rw [fil_len, hxN.out])
                  have hsk : Hid (∀ k, k < outs.length → co s k = dot p (ro X k) (rgt p m (xin m ins) outs)) := Lib.hid fun k hk => by rw [hs]; exact app_co _ (by rw [hXM.rows]; exact hk)
                  have hXrow : Hid (∀ k, k < outs.length → (ro X k).length = outs.length ∧ El p (ro X k)) := Lib.hid fun k hk => hXM.ro hk
                  have hXl : X.length = outs.length := hXM.rows
                  have HXl := Lib.hid hXl
                  have HRL := Lib.hid hRL
                  have hLlt2 : Hid (∀ k, k < outs.length → L.getD k 0 < ncol m) := Lib.hid fun k hk => by
                    have h9 := hLlt.out (L.getD k 0) (getD_mem (by rw [hrest.out]; exact hk))
                    rwa [hxN.out] at h9
                  have hOat : Hid (∀ k, k < outs.length → (oI L)[k]? = some ((L.getD k 0 : Nat) : Int)) := Lib.hid fun k hk => oI_at (by rw [hrest.out]; exact hk)
                  have gv2 : ∀ W A' c', Sll W A' c' (sqm m ins outs) → Calls Try.prog 54 #[.int .u64 p, .slice A' outs.length c'] W fun e w' => ∃ A9 c9, e = .returned (.tuple #[.slice A9 outs.length c9, .int .i64 0]) ∧ SllF w' W.heap.size A9 c9 X ∧ Below W.heap.size W w' := fun W A' c' a1 => (gv W A' c' a1).mono fun e w' hx => by
                    rcases hx with ⟨Y, q1, A9, c9, q2, q3, q4⟩ | ⟨q1, _⟩
                    · rw [hI] at q1; injection q1 with q1; subst q1
                      rw [hXl] at q2
                      exact ⟨A9, c9, q2, q3, q4⟩
                    · rw [hI] at q1; cases q1
                  clear gs gv hnone hM hsq hse hsb hSL hI hslv hr hs hXM hXl hRL
                  go_wp2_with fail
                  refine (gs2 _ (h.next hB) sV sq).mono ?_; rintro e w6 ⟨A6, c6, rfl, s6, hb6⟩
                  replace hB := hB.trans (hb6.mono hB.size)
                  replace hOx := OwnAt.next hOx hb6
                  replace sq := sq.next hb6
                  replace sU := sU.next hb6
                  clear gs2 hb6 sV
                  go_wp2_with fail
                  refine (gv2 _ _ _ s6).mono ?_; rintro e w7 ⟨A9, c9, rfl, s9, hb7⟩
                  have hG6 := hOx.lt
                  replace hB := hB.trans (hb7.mono hB.size)
                  replace hOx := OwnAt.next hOx hb7
                  replace sq := sq.next hb7
                  replace sU := sU.next hb7
                  clear gv2 hb7 s6
                  have hUG : ∀ ad, AU = some ad → some ad.block ≠ some G2 := fun ad e e2 => by have := hUfar ad e; injection e2 with e2; omega
                  go_wp2_with fail
                  go_loopw [24] (fun i wr => ∃ k : Nat, k ≤ outs.length ∧ i = .int .i64 k ∧ OwnAt wr w.heap.size G2 (ncol m) (ncol m) (fil (xin m ins) L s k) ∧ w7.grownBy wr (some G2) ∧ Below w.heap.size w wr) (fun i _ => outs.length - (intOf i).toNat)
                  case atStart => exact ⟨0, Nat.zero_le _, rfl, hOx, World.grownBy.refl _ _, hB⟩
                  case round =>
                    obtain ⟨k, hk, rfl, hOk, hGk, hBk⟩ := hrel
                    by_cases hlt : k < outs.length
                    · obtain ⟨bq, oq, z, hAq, hbq, hzq, hcq⟩ := (sq.grown hGk hGQ).at_ (k := k) (by rw [hOQ.out]; exact hlt)
                      rw [hOat.out k hlt] at hzq
                      injection hzq with hzq
                      subst hzq
                      have hlq := hLlt2.out k hlt
                      have hXr := hXrow.out k hlt
                      have s9k := s9.grown hGk hG6.2
                      obtain ⟨bx, ox, Ax, cx, hAx, hbxF, hbx, hcx9, sx9⟩ := s9k.rowAt (i := k) (L := outs.length) (by rw [HXl.out]; exact hlt) hXr.1
                      have hnq : some bq ≠ some G2 := hGQ ⟨bq, oq, none⟩ hAq
                      have hnx : some bx ≠ some G2 := fun e => by injection e with e; have := hG6.2; omega
                      subst hAx hAq
                      have hdot := rDot7_b p hp Ax AU cx cU outs.length (ro X k) (rgt p m (xin m ins) outs) hXr.2 hRE hXr.1 HRL.out (by omega) wr.drew sx9.drew ((sU.grown hGk hUG).drew)
                      rw [← hsk.out k hlt] at hdot
                      have hS : Hid ((fil (xin m ins) L s k).set (L.getD k 0) (co s k) = fil (xin m ins) L s (k + 1)) := Lib.hid rfl
                      obtain ⟨z2, hz2'⟩ : ∃ z, (fil (xin m ins) L s k)[L.getD k 0]? = some z := ⟨_, List.getElem?_eq_getElem (by rw [fil_len, hxN.out]; exact hlq)⟩
                      have hcell := hOk.cell hz2'
                      have hfz := hOk.frozen (L.getD k 0)
                      have hltk := hOk.lt
                      have hlqI : ((L.getD k 0 : Nat) : Int) < ncol m := by omega
                      have hkO : (k : Int) < outs.length := by omega
                      generalize L.getD k 0 = P at *
                      generalize co s k = V at *
                      clear hz2'
                      go_wp2_with fail
                      go_region_held3 (fun w' => w'.cell? ⟨bq, oq + k, none⟩ = some (.int .i64 (P : Int)) ∧ w'.cell? ⟨bx, ox + k, none⟩ = some (.slice Ax outs.length cx))
                        (first | (refine ⟨?_, ?_⟩ <;> assumption) | exact ⟨r1, r2⟩)
                        (first | (go_at_call 53; (with_reducible refine hdot.mono ?_); clear hdot; rintro e w8 ⟨rfl, hb8'⟩; have hb8 : Below wr.heap.size wr w8 := (Below.refl _ wr).drew.trans (hb8'.mono (Nat.le_refl _)); have q1 := (hb8.cell (p := ⟨bq, oq + k, none⟩) hbq).trans hcq; have q2 := (hb8.cell (p := ⟨bx, ox + k, none⟩) hbx).trans hcx9; have hOk8 := OwnAt.next hOk hb8; have r1 := (hOk8.grow P V).cell q1 hnq; have r2 := (hOk8.grow P V).cell q2 hnx; have hcell8 := (hb8.cell (p := ⟨G2, P, none⟩) hltk.2).trans hcell; have hfz8 := hOk8.frozen P; have hltk8 := hOk8.lt; have hG8 := Lib.hid (grown_trans hGk (grown_of hb8 (some G2))); have HO8 := Lib.hid hOk8; have HB8 := Lib.hid (hBk.trans (hb8.mono hBk.size)); clear hOk8))
                      all_goals
                        go_wp2_with fail
                        go_roundw
                        case rel => exact ⟨k + 1, by omega, by simp, by rw [← hS.out]; exact HO8.out.put P V, grown_trans hG8.out (HO8.out.grow P V), HB8.out.setCell (p := ⟨G2, P, none⟩) (show w.heap.size ≤ G2 by omega) _⟩
                        case measure => simp [intOf]; omega
                    · obtain rfl : k = outs.length := by omega
                      replace hOx := hOk
                      replace hB := hBk
                      clear hOk hBk s9 sq sU
                      generalize fil (xin m ins) L s outs.length = XF at *
                      have sx := hOx.sl
                      have sm := h.next hB
                      have hYN := Lib.hid (app_len p m XF)
                      rename World => WS
                      go_wp2_with fail
                      go_loopw [25, 26] (fun v i wr => ∃ k : Nat, k ≤ m.length ∧ i = .int .i64 k ∧ wr.ownsRow WS.heap.size 22 1 v k (((List.range k).map fun i => dot p (ro m i) XF).map (Value.int .u64)) ∧ Below WS.heap.size WS wr) (fun _ i _ => m.length - (intOf i).toNat)
                      case atStart => exact ⟨0, Nat.zero_le _, rfl, World.ownsRow_nil _ _ _ _, Below.refl _ _⟩
                      case round =>
                        obtain ⟨k, hk, rfl, hrow, hb5⟩ := hrel
                        have hsz5 := hb5.size
                        by_cases hlt : k < m.length
                        · obtain ⟨Ar5, cr5, hbr, hcr5, sr5⟩ := sm.rowIn (i := k) (L := ncol m) hlt (hrl.out k hlt)
                          have hcrw := (hb5.cell (p := ⟨b0, off0 + k, none⟩) hbr).trans hcr5
                          have hdot := rDot7_b p hp Ar5 (some ⟨G2, 0, none⟩) cr5 (ncol m) (ncol m) (ro m k) XF (hel.out k hlt) hXE (hrl.out k hlt) hXL.out (by omega) wr (sr5.next hb5) (sx.next hb5)
                          have hkm : (k : Int) < m.length := by omega
                          have hNX : Hid (dot p (ro m k) XF = (fun i => dot p (ro m i) XF) k) := Lib.hid rfl
                          generalize dot p (ro m k) XF = DK at *
                          obtain ⟨Av, cv', hv⟩ := row_form hrow
                          subst hv
                          go_wp2_with (first | (go_at_call 53; (with_reducible refine hdot.mono ?_); clear hdot; rintro e w6 ⟨rfl, hb6⟩; have hrow6 := own_below hrow hb6; have hB6 := hb5.trans (hb6.mono hsz5); have hsz6 := hB6.size) | (at_builtin; refine wpList_append_own _ rfl _ _ 31 rfl WS.heap.size 22 u0 (.int .u64 0) 1 8 Try.underlying31 hu0 hx0 hx1 hx2 rfl (by decide) _ _ _ rfl (hrow6.alloc _) ⟨w6.heap.size, 0, none⟩ 1 1 [.int .u64 DK] rfl rfl (cell_one_new _ _ _) (by simp [Value.oneCell']) (by simp only [maxLen]; omega) (by omega) (by simp; omega) ?_; intro v' w7 hown' hgrow _))
                          have hB7 : Below WS.heap.size WS w7 := (hB6.alloc hsz6 _).grown hgrow (by simp; omega) (fun k e => (hrow6.lt k e).1)
                          go_roundw
                          case rel => exact ⟨k + 1, by omega, by simp, own_next (f := fun i => dot p (ro m i) XF) (by rw [← hNX.out]; exact hown'), hB7⟩
                          case measure => simp [intOf]; omega
                        · obtain rfl : k = m.length := by omega
                          obtain ⟨Ay, cy, hvy, sy⟩ := own_form hrow
                          have hly : ((List.range m.length).map fun i => dot p (ro m i) XF).length = m.length := by simp
                          rw [hly] at hvy
                          subst hvy
                          have hfin : CmpE p m ins outs w (.returned (.tuple #[.slice (some ⟨G2, 0, none⟩) (ncol m) (ncol m), .slice Ay m.length cy, .int .i64 0])) wr := by
                            unfold CmpE
                            rw [if_pos hab, hCF.out]
                            refine ⟨some ⟨G2, 0, none⟩, ncol m, Ay, cy, ?_, sx.next hb5, sy, hB.trans (hb5.mono hB.size)⟩
                            rw [hXL.out, hYN.out]
                          have hFIN := Lib.hid hfin
                          clear hrow hfin
                          go_wp2_with fail
                          go_ret3
                          exact hFIN.out
end Go.Proofs.Ytjijlefplidhpaa
