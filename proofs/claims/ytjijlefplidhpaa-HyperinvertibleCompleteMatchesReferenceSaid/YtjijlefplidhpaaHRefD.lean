/- Even, places and dot of the reference of layer 7: they only read. Conditions: at most 1000 rows or points; for dot a supported prime and words of its field. -/
import Derived.Test.YtjijlefplidhpaaMG
import Derived.Test.YtjijlefplidhpaaMB
namespace Go.Proofs.Ytjijlefplidhpaa
set_option maxRecDepth 100000
open Go.RowKit PolyMath FieldMath MatMath

set_option maxHeartbeats 1000000 in
theorem even_any (A : Option Addr) (c : Nat) (rows : List (List Int)) (hl : rows.length ≤ 1000) (w : World) (h : Sll w A c rows) :
    Calls Try.prog 50 #[.slice A rows.length c] w fun e w' => e = .returned (.bool (evenB rows)) ∧ Below w.heap.size w w' := by
  have key : ∀ m, Below w.heap.size w (w.drewN m) := fun m => below_drewN (Below.refl _ w) m
  have hEV : Hid (evenB rows = (decide (0 < rows.length) && decide (0 < ncol rows) && rect rows)) := Lib.hid rfl
  by_cases h0 : 0 < rows.length
  · obtain ⟨b, off, A', c', hA, hb, hcr, hs⟩ := h.rowAt (i := 0) (L := ncol rows) h0 rfl
    rw [Nat.add_zero] at hcr
    subst hA
    have h0' : ((rows.length : Int) == 0) = false := beq_eq_false_iff_ne.2 (by omega)
    have h00 : (0 : Int) < rows.length := by omega
    by_cases h1 : 0 < ncol rows
    · have h1' : ((ncol rows : Int) == 0) = false := beq_eq_false_iff_ne.2 (by omega)
      have hER : Hid (evenB rows = rect rows) := Lib.hid (by rw [hEV.out, decide_eq_true h0, decide_eq_true h1]; rfl)
      clear hEV
      go_enter Try.func50, Try.ntmps50
      go_wp2
      go_loopw [3] (fun i wr => ∃ k m : Nat, k ≤ rows.length ∧ i = .int .i64 k ∧ wr = w.drewN m ∧ Hid (∀ j, j < k → (ro rows j).length = ncol rows)) (fun i _ => rows.length - (intOf i).toNat)
      case atStart => exact ⟨0, 0, Nat.zero_le _, rfl, rfl, Lib.hid (fun j hj => absurd hj (Nat.not_lt_zero _))⟩
      case round =>
        obtain ⟨k, m, hk, rfl, rfl, hE⟩ := hrel
        by_cases hlt : k < rows.length
        · obtain ⟨b2, off2, A2, c2, hA2, hb2, hc2, hs2⟩ := h.rowAt (i := k) (L := (ro rows k).length) hlt rfl
          injection hA2 with hA2
          injection hA2 with e1 e2
          subst e1 e2
          have hkn : (k : Int) < rows.length := by omega
          by_cases e : (ro rows k).length = ncol rows
          · have hE2 : Hid (∀ j, j < k + 1 → (ro rows j).length = ncol rows) := Lib.hid fun j hj => by
              by_cases e' : j = k
              · subst e'; exact e
              · exact hE.out j (by omega)
            have e' : (((ro rows k).length : Int) != ncol rows) = false := by rw [e]; simp
            have HE := Lib.hid e
            clear hE e
            go_wp2
            go_quiet (fail)
            go_wp2
            go_roundw
            case rel => exact ⟨k + 1, _, by omega, by simp, by first | rfl | (simp; rfl), hE2⟩
            case measure => simp [intOf]; omega
          · have hF : Hid (evenB rows = false) := Lib.hid (by
              rw [hER.out]
              cases hr : rect rows with
              | false => rfl
              | true => exact absurd (rect_iff.1 hr k hlt) e)
            have e' : (((ro rows k).length : Int) != ncol rows) = true := bne_iff_ne.2 (by omega)
            clear hE
            go_wp2
            go_quiet (fail)
            go_wp2
            go_ret
            rw [hF.out]
            refine ⟨rfl, ?_⟩
            first | exact key _ | (simp; exact key _)
        · obtain rfl : k = rows.length := by omega
          have hF : Hid (evenB rows = true) := Lib.hid (by rw [hER.out]; exact rect_iff.2 hE.out)
          clear hE
          go_wp2
          go_ret
          rw [hF.out]
          exact ⟨rfl, key m⟩
    · have h1' : ((ncol rows : Int) == 0) = true := beq_iff_eq.2 (by omega)
      have hF : Hid (evenB rows = false) := Lib.hid (by rw [hEV.out, decide_eq_false h1, Bool.and_false, Bool.false_and])
      clear hEV
      go_enter Try.func50, Try.ntmps50
      go_wp2
      go_ret
      rw [hF.out]
      exact ⟨rfl, Below.refl _ _⟩
  · have h0' : ((rows.length : Int) == 0) = true := beq_iff_eq.2 (by omega)
    have hF : Hid (evenB rows = false) := Lib.hid (by rw [hEV.out, decide_eq_false h0, Bool.false_and, Bool.false_and])
    clear hEV
    go_enter Try.func50, Try.ntmps50
    go_wp2
    go_ret
    rw [hF.out]
    exact ⟨rfl, Below.refl _ _⟩

set_option maxHeartbeats 1000000 in
theorem rPlaces_any (A : Option Addr) (c n : Nat) (ps : List (Int × Int)) (hn : n ≤ 1000) (hl : ps.length ≤ 1000) (w : World) (h : Pt w A c ps) :
    Calls Try.prog 51 #[.slice A ps.length c, .int .i64 n] w fun e w' => e = .returned (.bool (plcB ps n)) ∧ Below w.heap.size w w' := by
  have key : ∀ m, Below w.heap.size w (w.drewN m) := fun m => below_drewN (Below.refl _ w) m
  have hnu : IntKind.u64.wrap (n : Int) = n := IntWalk.u64_in _ (by omega)
  go_enter Try.func51, Try.ntmps51
  go_wp2
  go_loopw [5] (fun i wr => ∃ k m : Nat, k ≤ ps.length ∧ i = .int .i64 k ∧ wr = w.drewN m ∧ Hid (Good ps n k)) (fun i _ => ps.length - (intOf i).toNat)
  case atStart => exact ⟨0, 0, Nat.zero_le _, rfl, rfl, Lib.hid ⟨fun q hq => by simp at hq, by simp⟩⟩
  case round =>
    obtain ⟨k, m, hk, rfl, rfl, hG⟩ := hrel
    by_cases hlt : k < ps.length
    · obtain ⟨b, off, x, y, hA, hbl, hx, hcx, hcy⟩ := h.at_ hlt
      subst hA
      have hkn : (k : Int) < ps.length := by omega
      have hgn := Lib.hid (good_next (n := n) hx)
      have HX := Lib.hid hx
      clear hx
      by_cases hxn : (n : Int) ≤ x
      · have hF : Hid (plcB ps n = false) := Lib.hid (by
          cases e : plcB ps n with
          | false => rfl
          | true => have := (hgn.out.1 (good_all e)).2.1; omega)
        clear hG
        go_wp2
        go_ret
        rw [hF.out]
        exact ⟨rfl, key m⟩
      · have hxn' : x < (n : Int) := by omega
        go_wp2
        go_loopw [6] (fun i wr => ∃ j q : Nat, j ≤ k ∧ i = .int .i64 j ∧ wr = w.drewN q ∧ Hid (∀ r ∈ ps.take j, r.1 ≠ x)) (fun i _ => k - (intOf i).toNat)
        case atStart => exact ⟨0, m, Nat.zero_le _, rfl, rfl, Lib.hid (fun r hr => by simp at hr)⟩
        case round =>
          obtain ⟨j, q, hj, rfl, rfl, hN⟩ := hrel
          by_cases hlt2 : j < k
          · obtain ⟨b2, off2, x2, y2, hA2, hbl2, hx2, hcx2, hcy2⟩ := h.at_ (k := j) (by omega)
            injection hA2 with hA2
            injection hA2 with e1 e2
            subst e1 e2
            have hjk : (j : Int) < k := by omega
            have hjn : (j : Int) < ps.length := by omega
            by_cases e : x = x2
            · have hF : Hid (plcB ps n = false) := Lib.hid (by
                cases e9 : plcB ps n with
                | false => rfl
                | true =>
                  have h1 := (hgn.out.1 (good_all e9)).2.2 (x2, y2) (List.mem_of_getElem? (i := j) (by rw [List.getElem?_take, if_pos hlt2]; exact hx2))
                  exact absurd e.symm h1)
              subst e
              clear hG hN hx2
              go_wp2
              go_quiet (fail)
              go_wp2
              go_ret
              rw [hF.out]
              refine ⟨rfl, ?_⟩
              first | exact key _ | (simp; exact key _)
            · have hN2 : Hid (∀ r ∈ ps.take (j + 1), r.1 ≠ x) := Lib.hid fun r hr => by
                rw [List.take_add_one, hx2, List.mem_append] at hr
                rcases hr with hr | hr
                · exact hN.out r hr
                · simp at hr; subst hr; exact fun e9 => e e9.symm
              have e' : (x == x2) = false := beq_eq_false_iff_ne.2 e
              clear hN hx2
              go_wp2
              go_quiet (fail)
              go_wp2
              go_roundw
              case rel => exact ⟨j + 1, _, by omega, by simp, by first | rfl | (simp; rfl), hN2⟩
              case measure => simp [intOf]; omega
          · obtain rfl : j = k := by omega
            have hG2 : Hid (Good ps n (j + 1)) := Lib.hid (hgn.out.2 ⟨hG.out, hxn', hN.out⟩)
            clear hG hN
            go_wp2
            go_roundw
            case rel => exact ⟨j + 1, _, by omega, by simp, rfl, hG2⟩
            case measure => simp [intOf]; omega
    · obtain rfl : k = ps.length := by omega
      have hF : Hid (plcB ps n = true) := Lib.hid (plcB_end hG.out)
      clear hG
      go_wp2
      go_ret
      rw [hF.out]
      exact ⟨rfl, key m⟩

set_option maxHeartbeats 1000000 in
theorem rDot7_any (p : Int) (hp : OkP p) (A B : Option Addr) (ca cb n : Nat) (a b : List Int) (ha : El p a) (hb : El p b) (la : a.length = n) (lb : b.length = n) (hl : n ≤ 1000) (w : World) (sa : Sl w A ca a) (sb : Sl w B cb b) :
    Calls Try.prog 53 #[.int .u64 p, .slice A n ca, .slice B n cb] w fun e w' => e = .returned (.int .u64 (dot p a b)) ∧ ∃ m, w' = w.drewN m := by
  have hbd := hp.bd
  have LA := Lib.hid la
  have LB := Lib.hid lb
  have hend : Hid (sg n (fun j => co a j * co b j) % p = dot p a b) := Lib.hid (by unfold dot; rw [la])
  clear la lb
  go_enter Try.func53, Try.ntmps53
  go_wp2
  go_loopw [7, 8] (fun s i wr => ∃ (k m : Nat) (S : Int), k ≤ n ∧ i = .int .i64 k ∧ s = .int .u64 S ∧ 0 ≤ S ∧ S < p ∧ wr = w.drewN m ∧ Hid (sg k (fun j => co a j * co b j) % p = S)) (fun _ i _ => n - (intOf i).toNat)
  case atStart => exact ⟨0, 0, 0, Nat.zero_le _, rfl, rfl, by omega, by omega, rfl, Lib.hid (Int.zero_emod p)⟩
  case round =>
    obtain ⟨k, m, S, hk, rfl, rfl, hS0, hS1, rfl, hE⟩ := hrel
    by_cases hlt : k < n
    · obtain ⟨b1, o1, x, hA, _, hx, hcx⟩ := sa.at_ (k := k) (by rw [LA.out]; exact hlt)
      obtain ⟨b2, o2, y, hA2, _, hy, hcy⟩ := sb.at_ (k := k) (by rw [LB.out]; exact hlt)
      subst hA hA2
      have hxb := ha x (List.mem_of_getElem? hx)
      have hyb := hb y (List.mem_of_getElem? hy)
      have hm := fmul_bd p x y (by omega)
      have hab := fadd_bd p S (fmul p x y) (by omega)
      have hkn : (k : Int) < n := by omega
      have hE2 : Hid (sg (k + 1) (fun j => co a j * co b j) % p = fadd p S (fmul p x y)) := Lib.hid (by
        rw [sg_succ, co_at hx, co_at hy, ← hE.out]
        unfold fadd fmul
        exact (ma (mdd p _) (mdd p _)).symm)
      clear hx hy hE
      go_wp2
      go_quiet (first | (go_at_call 83; exact quiet_add_left (rMul_any _ _ _ hp hxb.1 hxb.2 hyb.1 hyb.2 _)) | (go_at_call 82; exact quiet_add_left (rAdd_any _ _ _ hp hS0 hS1 hm.1 hm.2 _)))
      go_wp2
      go_roundw
      case rel => exact ⟨k + 1, _, _, by omega, by simp, rfl, hab.1, hab.2, by first | rfl | (simp; rfl), hE2⟩
      case measure => simp [intOf]; omega
    · obtain rfl : k = n := by omega
      have hFin : S = dot p a b := by rw [← hE.out]; exact hend.out
      subst hFin
      go_wp2
      go_ret
      exact ⟨rfl, m, rfl⟩
end Go.Proofs.Ytjijlefplidhpaa
