/- What the laws of layer 12 call besides: Same of the reference of layer 5 at any two lists, Light of the reference of layer 12. Nothing that lay is changed. Conditions: at most 1000 words for Same. -/
import Derived.Test.YtkkfkkicbgejaaaFAwk
namespace Go.Proofs.Ytkkfkkicbgejaaa
set_option maxRecDepth 100000
open Go.RowKit PolyMath FieldMath PartyMath

theorem same_dec (A A' : Option Addr) (n m c c' : Nat) (xs ys : List Int) (hx : xs.length = n) (hy : ys.length = m) (hn : n ≤ 1000) (hm : m ≤ 1000) (w : World) (h : Sl w A c xs) (h' : Sl w A' c' ys) :
    Calls Try.prog 23 #[.slice A n c, .slice A' m c'] w fun e w' => e = .returned (.bool (decide (xs = ys))) ∧ ∃ m, w' = w.drewN m := by
  have HX := Lib.hid hx
  have HY := Lib.hid hy
  by_cases hnm : n = m
  · have HY2 : Hid (ys.length = n) := Lib.hid (by rw [hy]; exact hnm.symm)
    clear hx hy HY
    subst hnm
    go_enter Try.func23, Try.ntmps23
    go_wp2
    go_loopw [5] (fun i wr => ∃ k m : Nat, k ≤ n ∧ i = .int .i64 k ∧ Hid (xs.take k = ys.take k) ∧ wr = w.drewN m) (fun i _ => n - (intOf i).toNat)
    case atStart => exact ⟨0, 0, Nat.zero_le _, rfl, Lib.hid (by simp), rfl⟩
    case round =>
      obtain ⟨k, m, hk, rfl, hE, rfl⟩ := hrel
      by_cases hlt : k < n
      · obtain ⟨b, off, x, hA, _, hx, hc⟩ := h.at_ (k := k) (by rw [HX.out]; exact hlt)
        obtain ⟨b', off', y, hA', _, hy, hc'⟩ := h'.at_ (k := k) (by rw [HY2.out]; exact hlt)
        subst hA hA'
        have hi1 : (k : Int) < n := by omega
        by_cases hxy : x = y
        · subst hxy
          have hN := Lib.hid (take_next hx hy hE.out)
          clear hx hy hE
          go_wp2
          go_quiet (fail)
          go_wp2
          go_roundw
          case rel => exact ⟨k + 1, _, by omega, by simp, hN, by first | rfl | (simp; rfl)⟩
          case measure => simp [intOf]; omega
        · have hN : Hid (decide (xs = ys) = false) := Lib.hid (decide_eq_false fun e => by
            rw [e, hy] at hx
            injection hx with hx
            exact hxy hx.symm)
          have hb' : (x != y) = true := bne_iff_ne.2 hxy
          clear hx hy hE hxy
          go_wp2
          go_quiet (fail)
          go_wp2
          go_ret
          rw [hN.out]
          exact ⟨rfl, _, by first | rfl | (simp; rfl)⟩
      · obtain rfl : n = k := by omega
        have hN : Hid (decide (xs = ys) = true) := Lib.hid (decide_eq_true (by
          have := hE.out
          rw [List.take_of_length_le (by rw [HX.out]; exact Nat.le_refl _), List.take_of_length_le (by rw [HY2.out]; exact Nat.le_refl _)] at this
          exact this))
        go_wp2
        go_ret
        rw [hN.out]
        exact ⟨rfl, m, rfl⟩
  · have hN : Hid (decide (xs = ys) = false) := Lib.hid (decide_eq_false fun e => hnm (by rw [← hx, ← hy, e]))
    have hb' : ((n : Int) != m) = true := bne_iff_ne.2 (by omega)
    clear hx hy hnm
    go_enter Try.func23, Try.ntmps23
    go_wp2
    go_ret
    rw [hN.out]
    exact ⟨rfl, 0, rfl⟩

/-- Whether a scenario is within the bounds that Light asks. -/
def liB (n : Int) (ds : List Dv) (ts : List (List Int)) : Bool := decide (n ≤ 13) && (decide (ds.length ≤ 20) && (decide (ts.length ≤ 13) && ts.all fun r => decide (r.length ≤ 300)))
set_option maxHeartbeats 2000000 in
theorem light_any (p n t : Int) (hp : Wd p) (hn : Wi n) (ht : Wi t) (Ac Ad At : Option Addr) (cc cd ct : Nat) (co : List Int) (ds : List Dv) (ts : List (List Int)) (hco : Nums co) (w : World) (h : Lie w Ac Ad At cc cd ct co ds ts) :
    Calls Try.prog 26 #[sv p n t (.slice Ac co.length cc) (.slice Ad ds.length cd) (.slice At ts.length ct), .int .i64 13, .int .i64 20, .int .i64 300] w fun e w' => e = .returned (.bool (liB n ds ts && scB p n t co ds ts)) ∧ Below w.heap.size w w' := by
  have hB1 := Lib.hid ((Below.refl _ w).alloc (Nat.le_refl _) (.cells #[.int .u64 p, .int .i64 n, .int .i64 t, .slice Ac co.length cc, .slice Ad ds.length cd, .slice At ts.length ct] 32))
  have hX1 := Lib.hid (Sx.made w p n t (.slice Ac co.length cc) (.slice Ad ds.length cd) (.slice At ts.length ct))
  have hS1 := h.next hB1.out
  by_cases h1 : n ≤ 13
  case neg =>
    have e : (liB n ds ts && scB p n t co ds ts) = false := by unfold liB; rw [decide_eq_false h1]; rfl
    rw [e]
    unfold sv
    have h1' : 13 < n := by omega
    go_enter Try.func26, Try.ntmps26
    go_wp2
    go_ret
    exact ⟨rfl, hB1.out⟩
  by_cases h2 : ds.length ≤ 20
  case neg =>
    have e : (liB n ds ts && scB p n t co ds ts) = false := by unfold liB; rw [decide_eq_false h2]; simp
    rw [e]
    unfold sv
    have h2' : (20 : Int) < ds.length := by omega
    go_enter Try.func26, Try.ntmps26
    go_wp2
    go_ret
    exact ⟨rfl, hB1.out⟩
  by_cases h3 : ts.length ≤ 13
  case neg =>
    have e : (liB n ds ts && scB p n t co ds ts) = false := by unfold liB; rw [decide_eq_false h3]; simp
    rw [e]
    unfold sv
    have h2' : (ds.length : Int) ≤ 20 := by omega
    have h3' : (13 : Int) < ts.length := by omega
    go_enter Try.func26, Try.ntmps26
    go_wp2
    go_ret
    exact ⟨rfl, hB1.out⟩
  have e : (liB n ds ts && scB p n t co ds ts) = ((ts.all fun r => decide (r.length ≤ 300)) && scB p n t co ds ts) := by unfold liB; rw [decide_eq_true h1, decide_eq_true h2, decide_eq_true h3]; rfl
  rw [e]
  clear e
  have hrs := fun (hF : Fit n t co ds ts) W hl => rScen_any p n t hp Ac Ad At cc cd ct co ds ts hF W hl
  unfold sv at hrs ⊢
  have h2' : (ds.length : Int) ≤ 20 := by omega
  have h3' : (ts.length : Int) ≤ 13 := by omega
  go_enter Try.func26, Try.ntmps26
  go_wp2
  generalize w.alloc (.cells #[.int .u64 p, .int .i64 n, .int .i64 t, .slice Ac co.length cc, .slice Ad ds.length cd, .slice At ts.length ct] 32) = W1 at *
  obtain ⟨c0, c1, c2, c3, c4, c5, hlt0⟩ := hX1.out
  go_loop [9] (fun i => ∃ k : Nat, k ≤ ts.length ∧ i = .int .i64 k ∧ Hid ((ts.take k).all (fun r => decide (r.length ≤ 300)) = true)) (fun i => ts.length - (intOf i).toNat)
  case atStart => exact ⟨0, Nat.zero_le _, rfl, Lib.hid (by simp)⟩
  case round =>
    obtain ⟨k, hk, rfl, hE⟩ := hrel
    by_cases hlt : k < ts.length
    · obtain ⟨b, off, r, A', c', hA, hbl, hd, cr, hs⟩ := hS1.ts.at_ hlt
      subst hA
      have hkN : (k : Int) < ts.length := by omega
      generalize hrl : r.length = rl at *
      by_cases hq : rl ≤ 300
      · have hN := Lib.hid (show (ts.take (k + 1)).all (fun r => decide (r.length ≤ 300)) = true by rw [List.take_add_one, hd, List.all_append, hE.out]; simp [hrl, hq])
        have hq' : (rl : Int) ≤ 300 := by omega
        clear hd hrl
        go_wp2
        go_round
        case rel => exact ⟨k + 1, by omega, by simp, hN⟩
        case measure => simp [intOf]; omega
      · have hN := Lib.hid (show ((ts.all fun r => decide (r.length ≤ 300)) && scB p n t co ds ts) = false from by
          cases e : ts.all (fun r => decide (r.length ≤ 300)) with
          | false => rfl
          | true =>
            rw [List.all_eq_true] at e
            have := of_decide_eq_true (e r (List.mem_of_getElem? hd))
            omega)
        have hq' : (300 : Int) < rl := by omega
        clear hd hrl
        go_wp2
        go_ret
        exact ⟨by rw [hN.out]; rfl, hB1.out⟩
    · obtain rfl : k = ts.length := by omega
      have hall : (ts.all fun r => decide (r.length ≤ 300)) = true := by have := hE.out; rwa [List.take_length] at this
      have hN := Lib.hid (show ((ts.all fun r => decide (r.length ≤ 300)) && scB p n t co ds ts) = scB p n t co ds ts by rw [hall]; rfl)
      have hF : Fit n t co ds ts := ⟨hn, ht, hco, by omega, by omega, fun r hr => by
        rw [List.all_eq_true] at hall
        have := of_decide_eq_true (hall r hr)
        omega⟩
      clear hall
      go_wp2_with fail
      refine (hrs hF _ hS1).mono ?_; rintro e w2 ⟨rfl, hb⟩
      go_wp2_with fail
      go_ret
      exact ⟨by rw [hN.out]; rfl, hB1.out.trans (hb.mono hB1.out.size)⟩
/-- A deviation that lies in a box. -/
structure Dx (w : World) (b : Nat) (d : Dv) : Prop where
  d0 : w.cell? ⟨b, 0, none⟩ = some (.int .i64 d.rnd)
  d1 : w.cell? ⟨b, 1, none⟩ = some (.int .i64 d.frm)
  d2 : w.cell? ⟨b, 2, none⟩ = some (.int .i64 d.to)
  d3 : w.cell? ⟨b, 3, none⟩ = some (.int .i64 d.at_)
  d4 : w.cell? ⟨b, 4, none⟩ = some (.int .i64 d.kind)
  d5 : w.cell? ⟨b, 5, none⟩ = some (.int .u64 d.k)
  d6 : w.cell? ⟨b, 6, none⟩ = some (.int .i64 d.of_)
  d7 : w.cell? ⟨b, 7, none⟩ = some (.int .i64 d.src)
  lt : b < w.heap.size
theorem Dx.made (w : World) (d : Dv) : Dx (w.alloc (.cells #[.int .i64 d.rnd, .int .i64 d.frm, .int .i64 d.to, .int .i64 d.at_, .int .i64 d.kind, .int .u64 d.k, .int .i64 d.of_, .int .i64 d.src] 43)) w.heap.size d := by
  refine ⟨?_, ?_, ?_, ?_, ?_, ?_, ?_, ?_, by simp⟩
  all_goals go_simp
theorem Dx.next {w w' : World} {b : Nat} {d : Dv} (h : Dx w b d) (hb : Below w.heap.size w w') : Dx w' b d :=
  ⟨(hb.cell h.lt).trans h.d0, (hb.cell h.lt).trans h.d1, (hb.cell h.lt).trans h.d2, (hb.cell h.lt).trans h.d3, (hb.cell h.lt).trans h.d4, (hb.cell h.lt).trans h.d5, (hb.cell h.lt).trans h.d6, (hb.cell h.lt).trans h.d7, Nat.lt_of_lt_of_le h.lt hb.size⟩
end Go.Proofs.Ytkkfkkicbgejaaa
