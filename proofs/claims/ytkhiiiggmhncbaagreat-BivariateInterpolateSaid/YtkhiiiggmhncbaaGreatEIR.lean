import Derived.Test.YtkhiiiggmhncbaaGreatEPow
namespace Go.Proofs.YtkhiiiggmhncbaaGreat
set_option maxRecDepth 100000
open Go.ChangeShapes Go.WideShapes Go.ChangeAt Go.RowKit PolyMath FieldMath MatMath

theorem range_ro (rows : List (List Int)) {n : Nat} (h : n ≤ rows.length) : ((List.range n).map fun i => ro rows i) = rows.take n := by
  refine List.ext_getElem? fun i => ?_
  rw [List.getElem?_map]
  by_cases hi : i < n
  · rw [List.getElem?_range hi, List.getElem?_take_of_lt hi, ro_get (by omega)]; rfl
  · rw [List.getElem?_eq_none (by rw [List.length_range]; omega), List.getElem?_eq_none (by rw [List.length_take]; omega)]; rfl
theorem range_vm (p : Int) (xs : List Int) (N : Nat) {n : Nat} (h : n ≤ xs.length) : ((List.range n).map fun i => pows p (co xs i) N) = vmx p (xs.take n) N := by
  unfold vmx
  rw [← range_co xs h, List.map_map]; rfl
theorem ir_math {p : Int} (hp : OkP p) {xs : List Int} {R : List (List Int)} {n : Nat} (hn : xs.Nodup) (hx : El p xs) (hl : xs.length = n) (h0 : 0 < n) (hR : Mat p n n R) :
    ∃ X, invM p (vmx p xs n) = some X ∧ Mat p n n X ∧ Mat p n n (mulM p X R) ∧ (Sym (mulM p X R) ↔ Sym (fitL p xs R n)) ∧ (Sym (mulM p X R) → fitL p xs R n = mulM p X R) := by
  have hbd := hp.bd
  obtain ⟨X, h1, h2, h3⟩ := vm_inv hp.good hn hx hl h0
  obtain ⟨h4, h5⟩ := colsM_fit hp.good hl h0 hR h2 h3
  have h6 := fitL_fit hp.good (xs := xs) (rows := R) (n := n) hn hx hl fun i j => hR.bd (by omega) i j
  have h7 := FitC.unique hp.good hn hx hl h6 h5
  refine ⟨X, h1, h2, h4, ?_, fun h => ?_⟩
  · rw [h7]; exact (colsM_sym h4).symm
  · rw [h7]; exact colsM_same h4 h

set_option maxHeartbeats 4000000 in
theorem rItp_bad (p T : Int) (hT : -9223372036854775808 ≤ T ∧ T ≤ 9223372036854775807) (A B : Option Addr) (ca cb n m : Nat) (xs : List Int) (rows : List (List Int)) (lx : xs.length = n) (lr : rows.length = m) (hm : m ≤ 12) (hn : n ≤ 12) (hb : argI T xs rows = false) (w : World) (sx : Sl w A ca xs) (sr : Sll w B cb rows) :
    Calls Tryz.prog 7 #[.int .u64 p, .int .i64 T, .slice A n ca, .slice B m cb] w fun e w' => e = .returned (.tuple #[.slice none 0 0, .int .i64 1]) ∧ Below w.heap.size w w' := by
  have hno := of_decide_eq_false hb
  clear hb
  by_cases h1 : 0 ≤ T
  rotate_left
  · have h1' : decide (T < 0) = true := decide_eq_true (by omega)
    have h1'' : T < 0 := by omega
    clear hno
    go_enter Tryz.func7, Tryz.ntmps7
    go_wp2
    go_ret2
    exact ⟨rfl, Below.refl _ _⟩
  have h1' : ¬ T < 0 := by omega
  by_cases h3 : m = n
  rotate_left
  · have h3' : ((m : Int) != n) = true := bne_iff_ne.2 (by omega)
    have h3'' : ¬ (m : Int) = n := by omega
    clear hno
    go_enter Tryz.func7, Tryz.ntmps7
    go_wp2
    go_ret2
    exact ⟨rfl, Below.refl _ _⟩
  subst h3
  have h3' : ((m : Int) != m) = false := by simp
  by_cases h2 : T < m
  rotate_left
  · have h2' : (m : Int) ≤ T := by omega
    clear hno
    go_enter Tryz.func7, Tryz.ntmps7
    go_wp2
    go_ret2
    exact ⟨rfl, Below.refl _ _⟩
  obtain ⟨t, rfl⟩ : ∃ t : Nat, T = t := ⟨T.toNat, by omega⟩
  have h2' : ¬ (m : Int) ≤ t := by omega
  have hds := unlike10_any A ca xs w sx (by omega)
  rw [lx] at hds
  by_cases h4 : xs.Nodup
  rotate_left
  · rw [decide_eq_false h4] at hds
    clear hno lx lr
    go_enter Tryz.func7, Tryz.ntmps7
    go_wp2_with fail
    refine hds.mono ?_; rintro e w1 ⟨rfl, kk, hkk⟩
    have hb1 : Below w.heap.size w w1 := by rw [hkk]; exact below_drewN (Below.refl _ _) kk
    clear hkk
    go_wp2
    go_ret2
    exact ⟨rfl, hb1⟩
  rw [decide_eq_true h4] at hds
  have hex : ¬ ∀ i, i < m → (ro rows i).length = t + 1 := fun h => hno ⟨h1, by rw [lr]; exact h2, by rw [lr]; exact lx.symm, h4, fun i hi => by have := h i (by omega); omega⟩
  have HEX := Lib.hid hex
  have HR := Lib.hid lr
  have w1' : IntKind.i64.wrap ((t : Int) + 1) = (t : Int) + 1 := IntWalk.i64_in _ (by omega)
  clear hno lx h4 hex lr
  go_enter Tryz.func7, Tryz.ntmps7
  go_wp2_with fail
  refine hds.mono ?_; rintro e w1 ⟨rfl, kk, hkk⟩
  have hb1 : Below w.heap.size w w1 := by rw [hkk]; exact below_drewN (Below.refl _ _) kk
  clear hkk
  go_wp2
  go_loop [10] (fun i => ∃ k : Nat, k ≤ m ∧ i = .int .i64 k ∧ Hid (∀ j, j < k → (ro rows j).length = t + 1)) (fun i => m - (intOf i).toNat)
  case atStart => exact ⟨0, Nat.zero_le _, rfl, Lib.hid fun _ h => absurd h (Nat.not_lt_zero _)⟩
  case round =>
    obtain ⟨k, hk, rfl, hAll⟩ := hrel
    by_cases hlt : k < m
    · have hkm : (k : Int) < m := by omega
      obtain ⟨l, hl⟩ : ∃ l, (ro rows k).length = l := ⟨_, rfl⟩
      obtain ⟨b1, o1, A1, c1, hA1, hbl1, hc1, hs1⟩ := sr.rowAt (i := k) (L := l) (by rw [HR.out]; exact hlt) hl
      subst hA1
      have d1 := (hb1.cell (p := ⟨b1, o1 + k, none⟩) hbl1).trans hc1
      by_cases heq : l = t + 1
      · subst heq
        have hNew := Lib.hid (show ∀ j, j < k + 1 → (ro rows j).length = t + 1 from fun j hj => by
          by_cases e : j < k
          · exact hAll.out j e
          · obtain rfl : k = j := by omega
            exact hl)
        have hd1 : (((t + 1 : Nat) : Int) != (t : Int) + 1) = false := by simp
        clear hl hs1 hc1
        go_wp2
        go_round
        case rel => exact ⟨k + 1, by omega, by simp, hNew⟩
        case measure => simp [intOf]; omega
      · have hd1 : ((l : Int) != (t : Int) + 1) = true := bne_iff_ne.2 (by omega)
        have hd2 : ¬ (l : Int) = (t : Int) + 1 := by omega
        clear hl hs1 hc1
        go_wp2
        go_ret2
        exact ⟨rfl, hb1⟩
    · obtain rfl : m = k := by omega
      exact absurd hAll.out HEX.out

set_option maxHeartbeats 8000000 in
theorem rItp_ok (p : Int) (hp : OkP p) (t : Nat) (A B : Option Addr) (ca cb m : Nat) (xs : List Int) (rows : List (List Int)) (lx : xs.length = m) (lr : rows.length = m) (hm : m ≤ 12) (ht : t < m) (hx : El p xs) (hnd : xs.Nodup) (hr : ∀ r ∈ rows, El p r) (hrl : ∀ i, i < m → (ro rows i).length = t + 1) (w : World) (sx : Sl w A ca xs) (sr : Sll w B cb rows) :
    Calls Tryz.prog 7 #[.int .u64 p, .int .i64 (t : Int), .slice A m ca, .slice B m cb] w fun e w' => ItpE w e w' (t + 1) (Fits p xs rows (t + 1) m (fitL p (xs.take (t + 1)) (rows.take (t + 1)) (t + 1))) (fitL p (xs.take (t + 1)) (rows.take (t + 1)) (t + 1)) := by
  obtain ⟨j0, hj, hy0, hy1, hy2⟩ := info_parts info_sl
  have hbd := hp.bd
  have hds := unlike10_any A ca xs w sx (by omega)
  rw [lx, decide_eq_true hnd] at hds
  have hro : ∀ i, i < m → El p (ro rows i) := fun i hi => hr _ (List.mem_of_getElem? (ro_get (by rw [lr]; exact hi)))
  have hF := itp_fit hp lx lr ht hx hnd hr
  have hR : Mat p (t + 1) (t + 1) (rows.take (t + 1)) := .of (by rw [List.length_take]; omega) fun i hi => by
    have e : ro (rows.take (t + 1)) i = ro rows i := by unfold ro; rw [List.getElem?_take_of_lt hi]
    rw [e]; exact ⟨hrl i (by omega), hro i (by omega)⟩
  obtain ⟨X, hX, mX, mD, hsy1, hsy2⟩ := ir_math hp (xs := xs.take (t + 1)) (R := rows.take (t + 1)) (n := t + 1) (hnd.sublist (List.take_sublist _ _)) (fun z hz => hx z (List.mem_of_mem_take hz)) (by rw [List.length_take]; omega) (by omega) hR
  have mV : Mat p (t + 1) (t + 1) (vmx p (xs.take (t + 1)) (t + 1)) := vm_mat (by omega) (by rw [List.length_take]; omega)
  have kI := fun (A1 : Option Addr) (c1 : Nat) W (s1 : Sll W A1 c1 (vmx p (xs.take (t + 1)) (t + 1))) => (rInverse_any p hp A1 c1 _ (by rw [mV.rows]; omega) mV.els (squ_mat mV (by omega)) W s1).mono (R' := fun e w' => ∃ A' c', e = .returned (.tuple #[.slice A' (t + 1) c', .int .i64 0]) ∧ Sll w' A' c' X ∧ Below W.heap.size W w') (by
    rintro e w' (⟨X2, h1, A', c', h2, h3, h4⟩ | ⟨h1, _⟩)
    · rw [hX] at h1
      injection h1 with h1
      subst h1
      rw [mX.rows] at h2
      exact ⟨A', c', h2, h3.sll, h4⟩
    · rw [hX] at h1; cases h1)
  rw [mV.rows] at kI
  have kM := fun (A1 A2 : Option Addr) (c1 c2 : Nat) W (s1 : Sll W A1 c1 X) (s2 : Sll W A2 c2 (rows.take (t + 1))) => rMul_ok p hp A1 A2 c1 c2 X (rows.take (t + 1)) (mX.sized (by omega) (by omega)) (hR.sized (by omega) (by omega)) mX.els hR.els mX.isRect hR.isRect (by rw [mX.cols (by omega), hR.rows]) W s1 s2
  unfold MatE at kM
  rw [mX.rows, hR.rows, mD.rows] at kM
  have kS := fun (A1 : Option Addr) (c1 : Nat) W (s1 : Sll W A1 c1 (mulM p X (rows.take (t + 1)))) => rSym_any A1 c1 _ (by rw [mD.rows]; omega) W s1
  rw [mD.rows] at kS
  have hD2 : symB (mulM p X (rows.take (t + 1))) = true ↔ Sym (mulM p X (rows.take (t + 1))) := by
    rw [symB_iff]
    exact ⟨fun h => h.2, fun h => ⟨sqB_iff.2 ⟨by rw [mD.rows]; omega, fun i hi => by rw [mD.rows] at hi ⊢; exact (mD.ro hi).1⟩, h⟩⟩
  obtain ⟨f, hfe⟩ : ∃ f : Nat → List Int, f = fun i => pows p (co xs i) (t + 1) := ⟨_, rfl⟩
  obtain ⟨g, hge⟩ : ∃ g : Nat → List Int, g = fun i => ro rows i := ⟨_, rfl⟩
  have hfl : ∀ i, (f i).length = t + 1 := fun i => by rw [hfe]; exact pows_len _ _ _
  have hV : (List.range (t + 1)).map f = vmx p (xs.take (t + 1)) (t + 1) := by rw [hfe]; exact range_vm p xs (t + 1) (by omega)
  have hU : (List.range (t + 1)).map g = rows.take (t + 1) := by rw [hge]; exact range_ro rows (by omega)
  have HFE := fun (i : Nat) (x : Int) (h : co xs i = x) => (show pows p x (t + 1) = f i by rw [hfe, ← h])
  have HGE := fun (i : Nat) => (show ro rows i = g i by rw [hge])
  rw [← hV] at kI
  rw [← hU] at kM kS hD2 hsy1 hsy2 mD
  rw [← hU] at hF ⊢
  generalize fitL p (xs.take (t + 1)) ((List.range (t + 1)).map g) (t + 1) = C at hF hsy1 hsy2 ⊢
  generalize mulM p X ((List.range (t + 1)).map g) = D at kM kS hD2 hsy1 hsy2 mD
  have kP := fun (x : Int) (hx : 0 ≤ x ∧ x < p) W => rPows_any p x hp hx (t + 1) (by omega) W
  rw [show ((t + 1 : Nat) : Int) = (t : Int) + 1 from by omega] at kP
  have HF := Lib.hid hF
  have HX := Lib.hid lx
  have HR := Lib.hid lr
  have HE := Lib.hid hx
  have HRL := Lib.hid hrl
  have HRO := Lib.hid hro
  have HMD := Lib.hid mD
  have HS1 := Lib.hid hsy1
  have HS2 := Lib.hid hsy2
  have HD2 := Lib.hid hD2
  have HFL := Lib.hid hfl
  have h1' : ¬ (t : Int) < 0 := by omega
  have h2' : ¬ (m : Int) ≤ t := by omega
  have h3' : ((m : Int) != m) = false := by simp
  have w1' : IntKind.i64.wrap ((t : Int) + 1) = (t : Int) + 1 := IntWalk.i64_in _ (by omega)
  clear hF lx lr hx hnd hr hrl hro hR hX mX mD hsy1 hsy2 mV hD2 hfe hge hfl hV hU
  go_enter Tryz.func7, Tryz.ntmps7
  go_wp2_with fail
  refine hds.mono ?_; rintro e w1 ⟨rfl, kk, hkk⟩
  have hb1 : Below w.heap.size w w1 := by rw [hkk]; exact below_drewN (Below.refl _ _) kk
  clear hkk hds
  go_wp2
  go_loop [10] (fun i => ∃ k : Nat, k ≤ m ∧ i = .int .i64 k) (fun i => m - (intOf i).toNat)
  case atStart => exact ⟨0, Nat.zero_le _, rfl⟩
  case round =>
    obtain ⟨k, hk, rfl⟩ := hrel
    by_cases hlt : k < m
    · have hkm : (k : Int) < m := by omega
      obtain ⟨b1, o1, A1, c1, hA1, hbl1, hc1, hs1⟩ := sr.rowAt (i := k) (L := t + 1) (by rw [HR.out]; exact hlt) (HRL.out k hlt)
      subst hA1
      have d1 := (hb1.cell (p := ⟨b1, o1 + k, none⟩) hbl1).trans hc1
      have hd1 : (((t + 1 : Nat) : Int) != (t : Int) + 1) = false := by simp
      clear hs1 hc1
      go_wp2
      go_round
      case rel => exact ⟨k + 1, by omega, by simp⟩
      case measure => simp [intOf]; omega
    · obtain rfl : m = k := by omega
      go_wp2
      go_loopw [11, 12, 13] (fun v u i wr => ∃ k : Nat, k ≤ t + 1 ∧ i = .int .i64 k ∧ LOwn w.heap.size wr v ((List.range k).map f) ∧ LOld w.heap.size wr u ((List.range k).map g) ∧ Hid (∀ e, v.ownBlock = some e → u.ownBlock = some e → False) ∧ Below w.heap.size w wr) (fun _ _ i _ => t + 1 - (intOf i).toNat)
      case atStart => exact ⟨0, Nat.zero_le _, rfl, LOwn.none _ _, lold_none _ _, Lib.hid (fun e h => by simp [Value.ownBlock] at h), hb1⟩
      case round =>
        obtain ⟨k, hk, rfl, hL, hO, hNE, hB⟩ := hrel
        rename World => W0
        have hsz := hB.size
        by_cases hlt : k < t + 1
        · have hkt : (k : Int) ≤ t := by omega
          have hkm : (k : Int) < m := by omega
          obtain ⟨b1, o1, x, hA1, hbl1, hxk, hcx⟩ := sx.at_ (k := k) (by rw [HX.out]; omega)
          obtain ⟨b2, o2, A2, c2, hA2, hbl2, hc2, hs2⟩ := sr.rowAt (i := k) (L := t + 1) (by rw [HR.out]; omega) (HRL.out k (by omega))
          subst hA1 hA2
          have hxb := HE.out x (List.mem_of_getElem? hxk)
          have hFK := HFE k x (co_at hxk)
          have d1 := (hB.cell (p := ⟨b1, o1 + k, none⟩) hbl1).trans hcx
          have hlk := HRL.out k (by omega)
          have hold : ∀ ad, A2 = some ad → ad.block < w.heap.size := fun ad e => by
            obtain ⟨b', off, z, h1, h2, _⟩ := hs2.at_ (k := 0) (by omega)
            rw [e] at h1; injection h1 with h1; rw [h1]; exact h2
          rw [HGE k] at hs2 hlk
          have k1 := kP x hxb W0
          rw [hFK] at k1
          clear hxk hFK hcx
          go_wp2_with fail
          refine k1.mono ?_
          rintro e w7 ⟨v7, rfl, hrow7, hb7⟩
          have hB7 := hB.trans (hb7.mono hsz)
          have hsz7 := hB7.size
          obtain ⟨A7, c7, hv7, hs7⟩ := own_form hrow7
          have hty : Ty w7 A7 := by rw [hv7] at hrow7; exact Ty.of_own hrow7
          rw [HFL.out k] at hv7
          subst hv7
          obtain ⟨vs, h1, h2⟩ := two_v (hL.next hb7) (lold_next hO hb7) hNE.out (rows_len f k) hs7 hty (HFL.out k)
          have H2 := Lib.hid h2
          clear h2 hL hO hNE hs7 hty hrow7 hb7 k1
          go_wp2_with (first | (at_builtin; refine wpList_append_own_at _ rfl _ _ 24 rfl w.heap.size 23 j0 (.slice none 0 0) 1 24 Tryz.underlying24 hj hy0 hy1 hy2 rfl (by decide) _ _ _ rfl h1 ⟨w7.heap.size, 0, none⟩ 1 1 [.slice A7 (t + 1) c7] rfl rfl (cell_one_new _ _ _) (by simp [Value.oneCell']) (by simp only [maxLen]; omega) (by omega) (by simp; omega) ?_; intro v' w2 hown' hgrow _ hat; have hB2 : Below w.heap.size w w2 := (hB7.alloc hsz7 _).grown hgrow (by simp; omega) (fun k e => (World.ownsRow.lt h1 k e).1); obtain ⟨hL2, hO2, hNE2⟩ := H2.out v' w2 hown' hgrow hat; have hsz2 := hB2.size; have d2 := (hB2.cell (p := ⟨b2, o2 + k, none⟩) hbl2).trans hc2; obtain ⟨us, g1, g2⟩ := two_u hL2 hO2 hNE2 (rows_len g k) (hs2.next hB2) hold hlk; have G2 := Lib.hid g2; clear g2 hL2 hO2 hNE2 H2 hown' hgrow hat h1 hc2) | (at_builtin; refine wpList_append_own_at _ rfl _ _ 24 rfl w.heap.size 23 j0 (.slice none 0 0) 1 24 Tryz.underlying24 hj hy0 hy1 hy2 rfl (by decide) _ _ _ rfl g1 ⟨w2.heap.size, 0, none⟩ 1 1 [.slice A2 (t + 1) c2] rfl rfl (cell_one_new _ _ _) (by simp [Value.oneCell']) (by simp only [maxLen]; omega) (by omega) (by simp; omega) ?_; intro u' w3 hown3 hgrow3 _ hat3))
          have hB3 : Below w.heap.size w w3 := (hB2.alloc hsz2 _).grown hgrow3 (by simp; omega) (fun k e => (World.ownsRow.lt g1 k e).1)
          obtain ⟨hL3, hO3, hNE3⟩ := G2.out u' w3 hown3 hgrow3 hat3
          rw [← rows_next f k] at hL3
          rw [← rows_next g k] at hO3
          have HNE3 := Lib.hid hNE3
          clear hown3 hgrow3 hat3 g1 hNE3
          go_roundw
          case rel => exact ⟨k + 1, by omega, by simp, hL3, hO3, HNE3, hB3⟩
          case measure => simp [intOf]; omega
        · obtain rfl : k = t + 1 := by omega
          have hkt : ¬ ((t + 1 : Nat) : Int) ≤ t := by omega
          have hkt2 : ¬ ((t : Int) + 1) ≤ t := by omega
          obtain ⟨A2, c2, hv, hs2⟩ := hL.form
          obtain ⟨A3, c3, hu, hs3⟩ := lold_form hO
          rw [rows_len] at hv hu
          subst hv hu
          have q1 := kI A2 c2 W0 hs2
          clear hL hO hNE kI kP hs2
          go_wp2_with fail
          refine q1.mono ?_
          rintro e w4 ⟨A4, c4, rfl, hs4, hb4⟩
          have hB4 := hB.trans (hb4.mono hsz)
          have q2 := kM A4 A3 c4 c3 w4 hs4 (hs3.next hb4)
          clear q1 kM hs4 hs3 hb4
          go_wp2_with fail
          refine q2.mono ?_
          rintro e w5 ⟨A5, c5, rfl, hs5, hb5⟩
          have hB5 := hB4.trans (hb5.mono hB4.size)
          have q3 := kS A5 c5 w5 hs5
          clear q2 kS hb5
          cases hq : symB D with
          | false =>
            rw [hq] at q3
            have hNo : Hid (¬ Fits p xs rows (t + 1) m C) := Lib.hid (fun h => by
              have h2 := HD2.out.2 (HS1.out.2 h.1)
              rw [hq] at h2
              cases h2)
            clear hq
            go_wp2_with fail
            refine q3.mono ?_; rintro e w6 ⟨rfl, hb6⟩
            go_wp2
            go_ret2
            exact .inr ⟨hNo.out, rfl, hB5.trans (hb6.mono hB5.size)⟩
          | true =>
            rw [hq] at q3
            obtain rfl : C = D := HS2.out (HD2.out.1 hq)
            have hSm := Lib.hid (HD2.out.1 hq)
            clear hq
            go_wp2_with fail
            refine q3.mono ?_; rintro e w6 ⟨rfl, hb6⟩
            have hB6 := hB5.trans (hb6.mono hB5.size)
            have hs6 := hs5.next hb6
            clear q3 hb6 hB5 hs5
            go_wp2
            go_loopw [18] (fun i wr => ∃ k : Nat, k ≤ m ∧ i = .int .i64 k ∧ Hid (∀ i, i < k → brow p C (co xs i) = ro rows i) ∧ Below w6.heap.size w6 wr) (fun i _ => m - (intOf i).toNat)
            case atStart => exact ⟨0, Nat.zero_le _, rfl, Lib.hid (fun i h => absurd h (Nat.not_lt_zero _)), Below.refl _ _⟩
            case round =>
              obtain ⟨k, hk2, rfl, hE2, hBr⟩ := hrel
              rename World => wr
              by_cases hlt : k < m
              · obtain ⟨b1, o1, x, hA1, hbl1, hxk, hcx⟩ := sx.at_ (k := k) (by rw [HX.out]; exact hlt)
                obtain ⟨b2, o2, A2, c2, hA2, hbl2, hc2, hs2⟩ := sr.rowAt (i := k) (by rw [HR.out]; exact hlt) (HRL.out k hlt)
                subst hA1 hA2
                have hBB := hB6.trans (hBr.mono hB6.size)
                have hxb := HE.out x (List.mem_of_getElem? hxk)
                have hX := Lib.hid (co_at hxk)
                have d1 := (hBB.cell (p := ⟨b1, o1 + k, none⟩) hbl1).trans hcx
                have d2 := (hBB.cell (p := ⟨b2, o2 + k, none⟩) hbl2).trans hc2
                have hkm : (k : Int) < m := by omega
                have hrw := rRow_any p x hp hxb A5 c5 (t + 1) C HMD.out (by omega) wr.drew (hs6.next hBr).drew
                have hlb := Lib.hid (show (brow p C x).length = t + 1 by rw [brow_len]; exact HMD.out.rows)
                have hq := fun (W : World) (A' : Option Addr) (c' : Nat) (hO : Sl W A' c' (brow p C x)) (hW : Below w.heap.size w W) => sameL_dec A' A2 (t + 1) (t + 1) c' c2 (brow p C x) (ro rows k) hlb.out (HRL.out k hlt) (by omega) (by omega) W hO (hs2.next hW)
                have hbl1w : b1 < wr.heap.size := Nat.lt_of_lt_of_le hbl1 hBB.size
                have hbl2w : b2 < wr.heap.size := Nat.lt_of_lt_of_le hbl2 hBB.size
                clear hxk hcx hc2
                by_cases heq : brow p C x = ro rows k
                · have hN := Lib.hid (show ∀ i, i < k + 1 → brow p C (co xs i) = ro rows i from fun i h2 => by
                    by_cases e : i = k
                    · subst e; rw [hX.out]; exact heq
                    · exact hE2.out i (by omega))
                  rw [decide_eq_true heq] at hq
                  clear heq hE2
                  go_wp2_with fail
                  go_region_held3 (fun w' => w'.cell? ⟨b1, o1 + k, none⟩ = some (.int .u64 x) ∧ w'.cell? ⟨b2, o2 + k, none⟩ = some (.slice A2 (t + 1) c2))
                    (first | (refine ⟨?_, ?_⟩ <;> assumption) | exact ⟨d1, d2⟩)
                    (first | (go_at_call 26; (with_reducible refine hrw.mono ?_); rintro e w7 ⟨A7, c7, rfl, hO7, hb7'⟩; have hb7 : Below wr.heap.size wr w7 := (Below.refl _ wr).drew.trans (hb7'.mono (Nat.le_refl _)); have q1 := (hb7.cell (p := ⟨b1, o1 + k, none⟩) hbl1w).trans d1; have q2 := (hb7.cell (p := ⟨b2, o2 + k, none⟩) hbl2w).trans d2; have hB7 := hBB.trans (hb7.mono hBB.size); have hq7 := hq w7 A7 c7 hO7 hB7; have HB7 := Lib.hid (hBr.trans (hb7.mono hBr.size)); clear hO7 hb7') | (go_at_call 13; (with_reducible refine hq7.mono ?_); rintro e w8 ⟨rfl, m8, hm8⟩; have hb8 : Below w7.heap.size w7 w8 := (by rw [hm8]; exact below_drewN (Below.refl _ w7) m8); have HB8 := Lib.hid (HB7.out.trans (hb8.mono HB7.out.size)); have r1 := (hb8.cell (p := ⟨b1, o1 + k, none⟩) (Nat.lt_of_lt_of_le hbl1w hb7.size)).trans q1; have r2 := (hb8.cell (p := ⟨b2, o2 + k, none⟩) (Nat.lt_of_lt_of_le hbl2w hb7.size)).trans q2; clear hm8 hb8))
                  all_goals
                    go_wp2
                    go_roundw
                    case rel => exact ⟨k + 1, by omega, by simp, hN, HB8.out⟩
                    case measure => simp [intOf]; omega
                · have hNo : Hid (¬ Fits p xs rows (t + 1) m C) := Lib.hid (fun h => heq (by have h9 := Fits.all HF.out (fun i hi => HRL.out i (by omega)) h k hlt; rw [hX.out] at h9; exact h9))
                  rw [decide_eq_false heq] at hq
                  clear heq hE2
                  go_wp2_with fail
                  go_region_held3 (fun w' => w'.cell? ⟨b1, o1 + k, none⟩ = some (.int .u64 x) ∧ w'.cell? ⟨b2, o2 + k, none⟩ = some (.slice A2 (t + 1) c2))
                    (first | (refine ⟨?_, ?_⟩ <;> assumption) | exact ⟨d1, d2⟩)
                    (first | (go_at_call 26; (with_reducible refine hrw.mono ?_); rintro e w7 ⟨A7, c7, rfl, hO7, hb7'⟩; have hb7 : Below wr.heap.size wr w7 := (Below.refl _ wr).drew.trans (hb7'.mono (Nat.le_refl _)); have q1 := (hb7.cell (p := ⟨b1, o1 + k, none⟩) hbl1w).trans d1; have q2 := (hb7.cell (p := ⟨b2, o2 + k, none⟩) hbl2w).trans d2; have hB7 := hBB.trans (hb7.mono hBB.size); have hq7 := hq w7 A7 c7 hO7 hB7; have HB7 := Lib.hid (hBr.trans (hb7.mono hBr.size)); clear hO7 hb7') | (go_at_call 13; (with_reducible refine hq7.mono ?_); rintro e w8 ⟨rfl, m8, hm8⟩; have hb8 : Below w7.heap.size w7 w8 := (by rw [hm8]; exact below_drewN (Below.refl _ w7) m8); have HB8 := Lib.hid (HB7.out.trans (hb8.mono HB7.out.size)); have r1 := (hb8.cell (p := ⟨b1, o1 + k, none⟩) (Nat.lt_of_lt_of_le hbl1w hb7.size)).trans q1; have r2 := (hb8.cell (p := ⟨b2, o2 + k, none⟩) (Nat.lt_of_lt_of_le hbl2w hb7.size)).trans q2; clear hm8 hb8))
                  all_goals
                    have HB9 := Lib.hid (hB6.trans (HB8.out.mono hB6.size))
                    go_wp2
                    go_ret2
                    exact .inr ⟨hNo.out, rfl, HB9.out⟩
              · obtain rfl : m = k := by omega
                have hYes : Hid (Fits p xs rows (t + 1) m C) := Lib.hid ⟨hSm.out, fun i _ h => hE2.out i h⟩
                have HS := Lib.hid (hs6.next hBr)
                have HB := Lib.hid (hB6.trans (hBr.mono hB6.size))
                clear hE2
                go_wp2
                go_ret2
                exact .inl ⟨hYes.out, _, _, rfl, HS.out, HB.out⟩
end Go.Proofs.YtkhiiiggmhncbaaGreat
