/- BivariatePairwiseAgreement: for every input the law returns true and changes nothing that lay. No conditions. -/
import Derived.Test.YtkhiiiggmhncbaaEAwake
import Derived.Test.YtkhiiiggmhncbaaEValid
import Derived.Test.YtkhiiiggmhncbaaEAgr
import Derived.Test.YtkhiiiggmhncbaaEVan
import Derived.Test.YtkhiiiggmhncbaaERow
import Derived.Test.YtkhiiiggmhncbaaEFair
import Derived.Test.YtkhiiiggmhncbaaEOpen
import Derived.Test.YtkhiiiggmhncbaaMB
namespace Go.Proofs.Ytkhiiiggmhncbaa.bivariatePairwiseAgreement
set_option maxRecDepth 100000
open Go.ChangeShapes Go.WideShapes Go.ChangeAt Go.RowKit PolyMath FieldMath MatMath

set_option maxHeartbeats 8000000 in
theorem walk (P T : Int) (A : Option Addr) (c : Nat) (xs : List Int) (B : Option Addr) (cb : Nat) (rows : List (List Int)) (_wP : Wd P) (wT : Wi T) (wx : Words xs) (wr : ∀ r ∈ rows, Words r) (w : World) (sx : Sl w A c xs) (sr : Sll w B cb rows) : Calls Try.prog 7 #[.agg #[.int .u64 P, .int .i64 T, .slice A xs.length c, .slice B rows.length cb]] w fun e w' => e = .returned (.bool true) ∧ Below w.heap.size w w' := by
  obtain ⟨n, hn⟩ : ∃ n, xs.length = n := ⟨_, rfl⟩
  obtain ⟨m, hm⟩ : ∃ m, rows.length = m := ⟨_, rfl⟩
  rw [hn, hm]
  obtain ⟨wb, hwb⟩ : ∃ wb : World, wb = w.alloc (.cells #[.int .u64 P, .int .i64 T, .slice A n c, .slice B m cb] 39) := ⟨_, rfl⟩
  have hB0 : Below w.heap.size w wb := by rw [hwb]; exact bnew (Below.refl w.heap.size w) _ (Nat.le_refl _)
  have hvr := vr_any P T A B c cb n m xs rows hn hm wb (sx.next hB0) (sr.next hB0)
  have tow : ∀ W, Below wb.heap.size wb W → Below w.heap.size w W := fun W hW => hB0.trans (hW.mono hB0.size)
  have HC : ∀ (W : World) (_ : Below wb.heap.size wb W) (k : Nat) (v : Value), #[Value.int .u64 P, .int .i64 T, .slice A n c, .slice B m cb][k]? = some v → W.cell? ⟨w.heap.size, k, none⟩ = some v := fun W hW k v hv => by
    refine (hW.cell (p := ⟨w.heap.size, k, none⟩) (by show w.heap.size < _; rw [hwb, World.size_alloc]; exact Nat.lt_succ_self _)).trans ?_
    rw [cell_of_row _ w.heap.size k _ 39 (0, 0) (by rw [hwb]; exact World.alloc_heap_new w _)]; exact hv
  have HWB := Lib.hid hwb
  clear hwb
  cases hv : vrB P xs rows with
  | false =>
    rw [hv] at hvr
    clear hv hn hm tow HC
    go_enter Try.func7, Try.ntmps7
    go_wp2_with fail
    rw [← HWB.out]
    refine hvr.mono ?_
    rintro e w1 ⟨rfl, hb⟩
    have hB1 := hB0.trans (hb.mono hB0.size)
    go_wp2_with fail
    refine (awake10 _).mono ?_
    rintro e w9 ⟨rfl, hb9⟩
    go_wp2
    go_ret
    exact ⟨rfl, hB1.trans (hb9.mono hB1.size)⟩
  | true =>
  rw [hv] at hvr
  obtain ⟨hp, hr, hm8, hl8, hEl, hn8⟩ := vr_is wr wx hv
  have hbd := hp.bd
  clear hv
  cases ha : argI T xs rows with
  | false =>
    have kb := fun W (hW : Below wb.heap.size wb W) => itp_bad P T wT A B c cb n m xs rows hn hm (by omega) (by omega) ha W (sx.next (tow W hW)) (sr.next (tow W hW))
    clear ha hn hm hr hEl hl8 hp
    go_enter Try.func7, Try.ntmps7
    go_wp2_with fail
    rw [← HWB.out]
    refine hvr.mono ?_
    rintro e w1 ⟨rfl, hb1⟩
    have q0 := HC w1 hb1 0 _ rfl
    have q1 := HC w1 hb1 1 _ rfl
    have q2 := HC w1 hb1 2 _ rfl
    have q3 := HC w1 hb1 3 _ rfl
    go_wp2_with fail
    refine (kb w1 hb1).mono ?_
    rintro e w2 ⟨rfl, hb2⟩
    have hB2 := tow w2 (hb1.trans (hb2.mono hb1.size))
    go_wp2_with fail
    refine (awake10 _).mono ?_
    rintro e w9 ⟨rfl, hb9⟩
    go_wp2
    go_ret
    exact ⟨rfl, hB2.trans (hb9.mono hB2.size)⟩
  | true =>
  obtain ⟨hT0, hTm, hlen, hnd, hrl'⟩ : 0 ≤ T ∧ T < rows.length ∧ rows.length = xs.length ∧ xs.Nodup ∧ ∀ i, i < rows.length → ((ro rows i).length : Int) = T + 1 := by unfold argI at ha; exact of_decide_eq_true ha
  obtain ⟨t, rfl⟩ : ∃ t : Nat, T = t := ⟨T.toNat, by omega⟩
  obtain rfl : m = n := by omega
  have hrl : ∀ i, i < m → (ro rows i).length = t + 1 := fun i hi => by have := hrl' i (by omega); omega
  have hro : ∀ i, i < m → El P (ro rows i) := fun i hi => hr _ (List.mem_of_getElem? (ro_get (by rw [hm]; exact hi)))
  have htm : t < m := by omega
  have hm9 : m ≤ 8 := by omega
  have kI := fun W (hW : Below wb.heap.size wb W) => itp_agr P hp t A B c cb m xs rows hn hm (by omega) htm hEl hnd hr hrl W (sx.next (tow W hW)) (sr.next (tow W hW))
  have HX := Lib.hid hn
  have HR := Lib.hid hm
  have HRL := Lib.hid hrl
  have HRO := Lib.hid hro
  have HEL := Lib.hid hEl
  have w1' : IntKind.i64.wrap ((t : Int) + 1) = (t : Int) + 1 := IntWalk.i64_in _ (by omega)
  clear hn hm hr hrl hro hl8 hrl' hlen ha hEl hnd hT0 hTm
  go_enter Try.func7, Try.ntmps7
  go_wp2_with fail
  rw [← HWB.out]
  refine hvr.mono ?_
  rintro e w1 ⟨rfl, hb1⟩
  have q0 := HC w1 hb1 0 _ rfl
  have q1 := HC w1 hb1 1 _ rfl
  have q2 := HC w1 hb1 2 _ rfl
  have q3 := HC w1 hb1 3 _ rfl
  go_wp2_with fail
  refine (kI w1 hb1).mono ?_
  rintro e w2 ⟨A2, c2, N2, er, rfl, hb2, hcase⟩
  have hb2' := hb1.trans (hb2.mono hb1.size)
  have he1 : ¬ er = 1 := by rcases hcase with ⟨_, h, _⟩ | ⟨_, h⟩ <;> omega
  have he2 : (er == 1) = false := beq_eq_false_iff_ne.2 he1
  have HCASE := Lib.hid hcase
  clear hcase kI hvr HWB q0 q1 q2 q3 hb1 hb2
  go_wp2
  go_loopw [5, 6] (fun v i wR => ∃ (k : Nat) (q : Bool), k ≤ m ∧ v = .bool q ∧ i = .int .i64 k ∧ Hid (q = true ↔ Agr P xs rows k) ∧ Below w2.heap.size w2 wR) (fun _ i _ => m - (intOf i).toNat)
  case atStart => exact ⟨0, true, Nat.zero_le _, rfl, rfl, Lib.hid ⟨fun _ i hi => absurd hi (Nat.not_lt_zero _), fun _ => rfl⟩, Below.refl _ _⟩
  case round =>
    obtain ⟨k, q, hk, rfl, rfl, hq, hBr⟩ := hrel
    rename World => wR
    have hbr' := hb2'.trans (hBr.mono hb2'.size)
    have hsz := hBr.size
    have t3 := HC wR hbr' 3 _ rfl
    by_cases hlt : k < m
    · have hkm : (k : Int) < m := by omega
      obtain ⟨b1, o1, A1, c1, hA1, hbl1, hc1, hs1⟩ := sr.rowAt (i := k) (L := t + 1) (by rw [HR.out]; exact hlt) (HRL.out k hlt)
      obtain ⟨bx, ox, xk, hAx, hbx, hxk, hcx⟩ := sx.at_ (k := k) (by rw [HX.out]; exact hlt)
      have hxkb := HEL.out xk (List.mem_of_getElem? hxk)
      have hcok := Lib.hid (co_at hxk)
      subst hA1 hAx
      clear hxk
      go_wp2
      go_loopw [5, 7] (fun v i wR2 => ∃ (j : Nat) (q : Bool), j ≤ k ∧ v = .bool q ∧ i = .int .i64 j ∧ Hid (q = true ↔ (Agr P xs rows k ∧ ∀ l, l < j → pev P (ro rows k) (co xs l) = pev P (ro rows l) (co xs k))) ∧ Below w2.heap.size w2 wR2) (fun _ i _ => k - (intOf i).toNat)
      case atStart => exact ⟨0, q, Nat.zero_le _, rfl, rfl, Lib.hid (hq.out.trans ⟨fun h => ⟨h, fun l hl => absurd hl (Nat.not_lt_zero _)⟩, fun h => h.1⟩), hBr⟩
      case round =>
        obtain ⟨j, q2, hj, rfl, rfl, hq2, hB2⟩ := hrel
        have hb3' := hb2'.trans (hB2.mono hb2'.size)
        by_cases hlj : j < k
        · have hjk : (j : Int) < k := by omega
          have hjm : (j : Int) < m := by omega
          obtain ⟨b3, o3, A3, c3, hA3, hbl3, hc3, hs3⟩ := sr.rowAt (i := j) (L := t + 1) (by rw [HR.out]; omega) (HRL.out j (by omega))
          injection hA3 with hA3
          injection hA3 with e1 e2
          subst e1 e2
          obtain ⟨by', oy, xj, hAy, hby, hxj, hcy⟩ := sx.at_ (k := j) (by rw [HX.out]; omega)
          injection hAy with hAy
          injection hAy with e1 e2
          subst e1 e2
          have hxjb := HEL.out xj (List.mem_of_getElem? hxj)
          have hcoj := co_at hxj
          have HS : ∀ W, Below wb.heap.size wb W → W.cell? ⟨w.heap.size, 0, none⟩ = some (.int .u64 P) ∧ W.cell? ⟨w.heap.size, 2, none⟩ = some (.slice (some ⟨bx, ox, none⟩) m c) ∧ W.cell? ⟨w.heap.size, 3, none⟩ = some (.slice (some ⟨b1, o1, none⟩) m cb) ∧ W.cell? ⟨b1, o1 + k, none⟩ = some (.slice A1 (t + 1) c1) ∧ W.cell? ⟨b1, o1 + j, none⟩ = some (.slice A3 (t + 1) c3) ∧ W.cell? ⟨bx, ox + k, none⟩ = some (.int .u64 xk) ∧ W.cell? ⟨bx, ox + j, none⟩ = some (.int .u64 xj) := fun W hW => ⟨HC W hW 0 _ rfl, HC W hW 2 _ rfl, HC W hW 3 _ rfl, ((tow W hW).cell (p := ⟨b1, o1 + k, none⟩) hbl1).trans hc1, ((tow W hW).cell (p := ⟨b1, o1 + j, none⟩) hbl3).trans hc3, ((tow W hW).cell (p := ⟨bx, ox + k, none⟩) hbx).trans hcx, ((tow W hW).cell (p := ⟨bx, ox + j, none⟩) hby).trans hcy⟩
          rename World => wR3
          obtain ⟨d0, d1, d2, d3, d4, d5, d6⟩ := HS wR3 hb3'
          cases q2 with
          | false =>
            have hNew := Lib.hid (show (false = true) ↔ (Agr P xs rows k ∧ ∀ l, l < j + 1 → pev P (ro rows k) (co xs l) = pev P (ro rows l) (co xs k)) from ⟨fun h => (by cases h), fun h => hq2.out.2 ⟨h.1, fun l hl => h.2 l (by omega)⟩⟩)
            clear hxj hcoj hs3 hs1 hc1 hc3 hcx hcy
            go_wp2
            go_quiet (fail)
            go_wp2
            go_roundw
            case rel => exact ⟨j + 1, false, by omega, rfl, by simp, hNew, below_drewN hB2 _⟩
            case measure => simp [intOf]; omega
          | true =>
            have v1 := fun W (hW : Below wb.heap.size wb W) => rVal_b P xj (t + 1) hp hxjb A1 c1 (ro rows k) (HRO.out k hlt) (HRL.out k hlt) (by omega) W (hs1.next (tow W hW))
            have v2 := fun W (hW : Below wb.heap.size wb W) => rVal_b P xk (t + 1) hp hxkb A3 c3 (ro rows j) (HRO.out j (by omega)) (HRL.out j (by omega)) (by omega) W (hs3.next (tow W hW))
            have hNew := Lib.hid (show (pev P (ro rows k) xj = pev P (ro rows j) xk) ↔ (Agr P xs rows k ∧ ∀ l, l < j + 1 → pev P (ro rows k) (co xs l) = pev P (ro rows l) (co xs k)) from ⟨fun h => ⟨(hq2.out.1 rfl).1, fun l hl => (by
              by_cases hl2 : l < j
              · exact (hq2.out.1 rfl).2 l hl2
              · obtain rfl : j = l := by omega
                rw [hcoj, hcok.out]; exact h)⟩, fun h => (by have h9 := h.2 j (by omega); rw [hcoj, hcok.out] at h9; exact h9)⟩)
            generalize pev P (ro rows k) xj = V1 at v1 hNew
            generalize pev P (ro rows j) xk = V2 at v2 hNew
            have f1 := v1 wR3.drew hb3'.drew
            clear hxj hcoj hs3 hs1 hc1 hc3 hcx hcy v1
            obtain ⟨qn, hqn⟩ : ∃ qn : Bool, qn = (V1 == V2) := ⟨_, rfl⟩
            have hNew2 : Hid (qn = true ↔ (Agr P xs rows k ∧ ∀ l, l < j + 1 → pev P (ro rows k) (co xs l) = pev P (ro rows l) (co xs k))) := Lib.hid (by rw [← hNew.out, hqn, beq_iff_eq])
            have hqd : decide (V1 = V2) = qn := by rw [hqn]; exact Bool.eq_iff_iff.2 (by rw [decide_eq_true_iff, beq_iff_eq])
            have hqn' := hqn.symm
            clear hqn hNew
            go_wp2_with fail
            go_region_held3 (fun w' => w'.cell? ⟨w.heap.size, 0, none⟩ = some (.int .u64 P) ∧ w'.cell? ⟨w.heap.size, 2, none⟩ = some (.slice (some ⟨bx, ox, none⟩) m c) ∧ w'.cell? ⟨w.heap.size, 3, none⟩ = some (.slice (some ⟨b1, o1, none⟩) m cb) ∧ w'.cell? ⟨b1, o1 + k, none⟩ = some (.slice A1 (t + 1) c1) ∧ w'.cell? ⟨b1, o1 + j, none⟩ = some (.slice A3 (t + 1) c3) ∧ w'.cell? ⟨bx, ox + k, none⟩ = some (.int .u64 xk) ∧ w'.cell? ⟨bx, ox + j, none⟩ = some (.int .u64 xj))
              (first | (refine ⟨?_, ?_, ?_, ?_, ?_, ?_, ?_⟩ <;> assumption) | exact ⟨d0, d1, d2, d3, d4, d5, d6⟩)
              (first | (go_at_call 27; (with_reducible refine f1.mono ?_); rintro e w7 ⟨rfl, hb7'⟩; have hb7 : Below wR3.heap.size wR3 w7 := (Below.refl _ wR3).drew.trans (hb7'.mono (Nat.le_refl _)); have hK7 := hb3'.trans (hb7.mono hb3'.size); obtain ⟨e0, e1, e2, e3, e4, e5, e6⟩ := HS w7 hK7; have f2 := v2 w7 hK7; clear hb7') | (go_at_call 27; (with_reducible refine f2.mono ?_); rintro e w8 ⟨rfl, hb8⟩; have hK8 := hK7.trans (hb8.mono hK7.size); obtain ⟨u0, u1, u2, u3, u4, u5, u6⟩ := HS w8 hK8; have HB8 := Lib.hid (hB2.trans ((hb7.trans (hb8.mono hb7.size)).mono hB2.size)); clear hb8))
            all_goals
              go_wp2
              go_roundw
              case rel => exact ⟨j + 1, qn, by omega, by first | rfl | (rw [hqn']) | (rw [hqd]), by simp, hNew2, HB8.out⟩
              case measure => simp [intOf]; omega
        · obtain rfl : j = k := by omega
          have hNew := Lib.hid (hq2.out.trans agr_next.symm)
          go_wp2
          go_roundw
          case rel => exact ⟨j + 1, q2, by omega, rfl, by simp, hNew, hB2⟩
          case measure => simp [intOf]; omega
    · obtain rfl : m = k := by omega
      cases q with
      | false =>
        have h6 : er = 6 := by
          rcases HCASE.out with ⟨h, _⟩ | ⟨_, h⟩
          · exact absurd (hq.out.2 h) (by decide)
          · exact h
        subst h6
        clear HCASE hq
        go_wp2_with fail
        refine (awake10 _).mono ?_
        rintro e w3 ⟨rfl, hb3⟩
        have HF := Lib.hid (tow w3 (hbr'.trans (hb3.mono hbr'.size)))
        go_wp2
        go_ret
        exact ⟨rfl, HF.out⟩
      | true =>
        obtain ⟨rfl, rfl, C, hsC, hsy, hM, hall⟩ : er = 0 ∧ N2 = t + 1 ∧ ∃ C, Sll w2 A2 c2 C ∧ symB C = true ∧ Mat P (t + 1) (t + 1) C ∧ ∀ i, i < m → brow P C (co xs i) = ro rows i := by
          rcases HCASE.out with ⟨_, h⟩ | ⟨h, _⟩
          · exact h
          · exact absurd (hq.out.1 rfl) h
        have sC : ∀ W, Below w2.heap.size w2 W → Sll W A2 c2 C := fun W hW => hsC.next hW
        have kS := rSym_any A2 c2 C (by rw [hM.rows]; omega) wR (sC wR hBr)
        rw [hsy, hM.rows] at kS
        have kr := fun (x : Int) (hx : 0 ≤ x ∧ x < P) W (hW : Below w2.heap.size w2 W) => row_any P x hp hx A2 c2 (t + 1) C hM.rows (by omega) hM.els W (sC W hW)
        have hcl := fun (x : Int) => brow_len P C x
        simp only [hM.rows] at hcl
        have HALL := Lib.hid hall
        have hd1 : (((t + 1 : Nat) : Int) != (t : Int) + 1) = false := by simp
        clear HCASE hq hsC hsy hM hall hcl
        go_wp2_with fail
        refine kS.mono ?_
        rintro e w3 ⟨rfl, hb3⟩
        have hB3 := hBr.trans (hb3.mono hsz)
        have hb3' := hb2'.trans (hB3.mono hb2'.size)
        have q1 := HC w3 hb3' 1 _ rfl
        clear kS hBr hbr' hb3
        go_wp2
        go_loopw [8] (fun i wR => ∃ k : Nat, k ≤ m ∧ i = .int .i64 k ∧ Below w2.heap.size w2 wR) (fun i _ => m - (intOf i).toNat)
        case atStart => exact ⟨0, Nat.zero_le _, rfl, hB3⟩
        case round =>
          obtain ⟨k, hk, rfl, hBr⟩ := hrel
          rename World => wR2
          have hbr' := hb2'.trans (hBr.mono hb2'.size)
          have t3 := HC wR2 hbr' 3 _ rfl
          by_cases hlt : k < m
          · have hkm : (k : Int) < m := by omega
            obtain ⟨b1, o1, A1, c1, hA1, hbl1, hc1, hs1⟩ := sr.rowAt (i := k) (L := t + 1) (by rw [HR.out]; exact hlt) (HRL.out k hlt)
            obtain ⟨bx, ox, xk, hAx, hbx, hxk, hcx⟩ := sx.at_ (k := k) (by rw [HX.out]; exact hlt)
            have hxkb := HEL.out xk (List.mem_of_getElem? hxk)
            have hcok := co_at hxk
            have hRk := HALL.out k hlt
            rw [hcok] at hRk
            have hLk := HRL.out k hlt
            subst hA1 hAx
            have HS : ∀ W, Below wb.heap.size wb W → W.cell? ⟨w.heap.size, 0, none⟩ = some (.int .u64 P) ∧ W.cell? ⟨w.heap.size, 2, none⟩ = some (.slice (some ⟨bx, ox, none⟩) m c) ∧ W.cell? ⟨w.heap.size, 3, none⟩ = some (.slice (some ⟨b1, o1, none⟩) m cb) ∧ W.cell? ⟨b1, o1 + k, none⟩ = some (.slice A1 (t + 1) c1) ∧ W.cell? ⟨bx, ox + k, none⟩ = some (.int .u64 xk) := fun W hW => ⟨HC W hW 0 _ rfl, HC W hW 2 _ rfl, HC W hW 3 _ rfl, ((tow W hW).cell (p := ⟨b1, o1 + k, none⟩) hbl1).trans hc1, ((tow W hW).cell (p := ⟨bx, ox + k, none⟩) hbx).trans hcx⟩
            obtain ⟨d0, d1, d2, d3, d4⟩ := HS wR2 hbr'
            have f1 := kr xk hxkb wR2.drew hBr.drew
            rw [hRk] at f1
            have f2 := fun (g7 : Nat) (w7 : World) (hK : Below wb.heap.size wb w7) (hO : OwnAt w7 wR2.drew.heap.size g7 (t + 1) (t + 1) (ro rows k)) => sameL_b (some ⟨g7, 0, none⟩) A1 (ro rows k) (t + 1) c1 w7 hO.sl (hs1.next (tow w7 hK)) (by omega)
            rw [hLk] at f2
            generalize ro rows k = R at f1 f2
            clear hxk hcok hRk hLk hc1 hcx hs1 kr t3
            go_wp2_with fail
            go_region_held3 (fun w' => w'.cell? ⟨w.heap.size, 0, none⟩ = some (.int .u64 P) ∧ w'.cell? ⟨w.heap.size, 2, none⟩ = some (.slice (some ⟨bx, ox, none⟩) m c) ∧ w'.cell? ⟨w.heap.size, 3, none⟩ = some (.slice (some ⟨b1, o1, none⟩) m cb) ∧ w'.cell? ⟨b1, o1 + k, none⟩ = some (.slice A1 (t + 1) c1) ∧ w'.cell? ⟨bx, ox + k, none⟩ = some (.int .u64 xk))
              (first | (refine ⟨?_, ?_, ?_, ?_, ?_⟩ <;> assumption) | exact ⟨d0, d1, d2, d3, d4⟩)
              (first | (go_at_call 20; (with_reducible refine f1.mono ?_); rintro e w7 ⟨g7, rfl, hO7, hb7'⟩; have hb7 : Below wR2.heap.size wR2 w7 := (Below.refl _ wR2).drew.trans (hb7'.mono (Nat.le_refl _)); have hK7 := hbr'.trans (hb7.mono hbr'.size); obtain ⟨e0, e1, e2, e3, e4⟩ := HS w7 hK7; have f2' := f2 g7 w7 hK7 hO7; clear hb7') | (go_at_call 19; (with_reducible refine f2'.mono ?_); rintro e w8 ⟨rfl, hb8⟩; have hK8 := hK7.trans (hb8.mono hK7.size); obtain ⟨u0, u1, u2, u3, u4⟩ := HS w8 hK8; have HB8 := Lib.hid (hBr.trans ((hb7.trans (hb8.mono hb7.size)).mono hBr.size)); clear hb8))
            all_goals
              go_wp2
              go_roundw
              case rel => exact ⟨k + 1, by omega, by simp, HB8.out⟩
              case measure => simp [intOf]; omega
          · obtain rfl : m = k := by omega
            clear kr
            go_wp2_with fail
            refine (awake10 _).mono ?_
            rintro e w4 ⟨rfl, hb4⟩
            have HF := Lib.hid (tow w4 (hbr'.trans (hb4.mono hbr'.size)))
            go_wp2
            go_ret
            exact ⟨rfl, HF.out⟩

theorem lifted (os : Os) (started : os.Started) (H : Type) (enc : TypeId × Value → H) :
    ReturnsInHanded {} Try.checked os 7 .any (Rows.bivariatePairwiseAgreementSpec.pre6 enc Try.prog Try.f7 Rows.bivariatePairwiseAgreementRow.domain false) (Rows.bivariatePairwiseAgreementSpec.post enc Try.prog Try.f7 false true false false) := by
  refine returnsInHanded_of_change (C := Try.checked) own started (by kernel_rfl) Try.func7
    (ChangeSpec.witness6 (enc := enc) (C := Try.checked) false ⟨#[], #[.agg #[.int .u64 0, .int .i64 0, .slice none 0 0, .slice none 0 0]], []⟩ 8 (by kernel_rfl) (by kernel_rfl) (by kernel_rfl) (by kernel_rfl)) ?_
  intro W base args ds gs before hval0 hW hcnd _
  have hval : ∀ (j : Nat) t v, Try.f7.params[j]? = some t → args[j]? = some v → Value.okWide Try.prog W .any base t v := hval0
  have hW' := hW
  obtain ⟨p, q, hA0, hV, rfl, hfz, hnd⟩ := hW
  have hA : DataW.TrodAll enc Try.prog W 0 (fun _ => true) true Try.f7.params.toList args.toList ds p := hA0
  rw [Try.params7] at hA hval
  obtain ⟨v0, d0, rfl, rfl, t0⟩ := trodAll_one hA
  obtain ⟨rfl, rfl⟩ := trodVars_none hV
  clear hA0 hval0
  simp only [List.append_nil] at hW'
  have l0 : ∀ x ∈ p, x.block < W.heap.size := fun x hx => hW'.lt x (by simp [hx])
  obtain ⟨x0, y0, A0, u0, c0, B0, v0, k0, rfl, b0, e0, r0, f0, m0, g0⟩ := arg_rap (hval 0 39 v0 rfl rfl) t0 l0
  refine (walk x0 y0 A0 c0 u0 B0 k0 v0 b0 e0 f0 g0 W r0 m0).mono fun e W' ⟨he, hb⟩ => ?_
  subst he
  exact ⟨_, rfl, post_of_below (pa := p) (pv := []) hW' (fun _ _ _ => (trodAll_cons_mk (shut_bool Try.underlying4 _) trodAll_mk0)) (fun sp hsp => trodAll_mk1 (stay_rap t0 hb l0 sp (fun x hx => hsp x (by simp [hx])))) (fun _ _ => rfl) (by simp)
    hb (ok_one (by kernel_rfl) rfl (okWide_bool_mk Try.underlying4 _))⟩

theorem over : Rows.bivariatePairwiseAgreementRow.holds Try.pinned (OpenSpec.ofChange Rows.bivariatePairwiseAgreementSpec) :=
  OpenClaim.holds_of_wide 7 Try.f7 rfl rfl rfl rfl rfl rfl rfl ⟨rfl, rfl, rfl, rfl, rfl⟩ rfl rfl rfl rfl rfl (by kernel_rfl) Try.func7 (by kernel_rfl)
    (of_decide_eq_true (by kernel_rfl)) (by unfold Func.isWrapper; first | (rw [if_pos (by decide +kernel)]; kernel_rfl) | (rw [if_neg (by decide +kernel)]; exact ⟨rfl, rfl⟩))
    (fun os started H enc _ => lifted os started H enc)

theorem proved : Rows.BivariatePairwiseAgreementSaid := over
end Go.Proofs.Ytkhiiiggmhncbaa.bivariatePairwiseAgreement
