/- Apply and Mul of the reference of layer 6. Nothing that lay is changed. Conditions: a supported prime, words of its field, at most 100 rows and columns. -/
import Derived.Test.YtgkhngiiimnchaaRGen
namespace Go.Proofs.Ytgkhngiiimnchaa
open Go.RowKit PolyMath FieldMath MatMath

theorem rDot_b (p : Int) (hp : OkP p) (A B : Option Addr) (ca cb n : Nat) (a b : List Int) (ha : El p a) (hb : El p b) (la : a.length = n) (lb : b.length = n) (hl : n ≤ 1000) (w : World) (sa : Sl w A ca a) (sb : Sl w B cb b) :
    Calls Try.prog 30 #[.int .u64 p, .slice A n ca, .slice B n cb] w fun e w' => e = .returned (.int .u64 (dot p a b)) ∧ Below w.heap.size w w' :=
  (rDot_any p hp A B ca cb n a b ha hb la lb hl w sa sb).mono fun _ _ ⟨he, m, hm⟩ => ⟨he, by rw [hm]; exact below_drewN (Below.refl _ w) m⟩

theorem rApply_bad1 (p : Int) (A B : Option Addr) (c cv : Nat) (rows : List (List Int)) (v : List Int) (hz : Sized rows) (hr : rect rows = false) (w : World) (h : Sll w A c rows) :
    Calls Try.prog 16 #[.int .u64 p, .slice A rows.length c, .slice B v.length cv] w fun e w' => e = .returned (.tuple #[.slice none 0 0, .int .i64 1]) ∧ Below w.heap.size w w' := by
  have h1 := rRect_b A c rows (by have := hz.1; omega) w h
  rw [hr] at h1
  go_enter Try.func16, Try.ntmps16
  go_wp2_with fail
  refine h1.mono ?_; rintro e w1 ⟨rfl, hB⟩
  go_wp2_with fail
  go_ret2
  exact ⟨rfl, hB⟩
theorem rectN_of {rows : List (List Int)} (hr : rect rows = true) : rectN rows = ncol rows := by unfold rectN; rw [hr]; rfl
theorem rApply_bad2 (p : Int) (A B : Option Addr) (c cv : Nat) (rows : List (List Int)) (v : List Int) (hz : Sized rows) (hr : rect rows = true) (hn : ncol rows ≠ v.length) (w : World) (h : Sll w A c rows) :
    Calls Try.prog 16 #[.int .u64 p, .slice A rows.length c, .slice B v.length cv] w fun e w' => e = .returned (.tuple #[.slice none 0 0, .int .i64 1]) ∧ Below w.heap.size w w' := by
  have h1 := rRect_b A c rows (by have := hz.1; omega) w h
  rw [hr, rectN_of hr] at h1
  have hn' : ((ncol rows : Int) != v.length) = true := bne_iff_ne.2 (by omega)
  go_enter Try.func16, Try.ntmps16
  go_wp2_with fail
  refine h1.mono ?_; rintro e w1 ⟨rfl, hB⟩
  go_wp2_with fail
  go_ret2
  exact ⟨rfl, hB⟩

set_option maxHeartbeats 1000000 in
theorem rApply_ok (p : Int) (hp : OkP p) (A B : Option Addr) (c cv : Nat) (rows : List (List Int)) (v : List Int) (hz : Sized rows) (hE : ∀ r ∈ rows, El p r) (hv : El p v) (hr : rect rows = true) (hn : ncol rows = v.length) (w : World) (h : Sll w A c rows) (sv : Sl w B cv v) :
    Calls Try.prog 16 #[.int .u64 p, .slice A rows.length c, .slice B v.length cv] w fun e w' => RowE w e w' (app p rows v) := by
  obtain ⟨i0, hi0, hz0, hz1, hz2⟩ := info_parts info_u64
  have hbd := hp.bd
  have hN := hz.1
  have h1 := rRect_b A c rows (by omega) w h
  have hmat := mat_of hr hE
  rw [hr, rectN_of hr] at h1
  have hvl : v.length ≤ 100 := by rw [← hn]; exact hz.2 0
  have hn' : ((ncol rows : Int) != v.length) = false := by rw [hn]; simp
  have HN := Lib.hid hn
  clear hr hn
  go_enter Try.func16, Try.ntmps16
  go_wp2_with fail
  refine h1.mono ?_; rintro e w1 ⟨rfl, hB1⟩
  have hs1 := h.next hB1
  have sv1 := sv.next hB1
  clear h1 h sv
  go_wp2_with fail
  go_loopw [10, 11] (fun o i wr => ∃ k : Nat, k ≤ rows.length ∧ i = .int .i64 k ∧ wr.ownsRow w1.heap.size 22 1 o k (((List.range k).map fun i => dot p (ro rows i) v).map (Value.int .u64)) ∧ Below w1.heap.size w1 wr) (fun _ i _ => rows.length - (intOf i).toNat)
  case atStart => exact ⟨0, Nat.zero_le _, rfl, World.ownsRow_nil _ _ _ _, Below.refl _ _⟩
  case round =>
    obtain ⟨k, hk, rfl, hO, hBr⟩ := hrel
    have hszr : w1.heap.size ≤ wr.heap.size := hBr.size
    by_cases hlt : k < rows.length
    · obtain ⟨b, off, A', c', hA, hbw, hc, hs⟩ := (hs1.next hBr).rowAt (i := k) (L := v.length) hlt (by rw [← HN.out]; exact (hmat.ro hlt).1)
      subst hA
      have hin := rDot_b p hp A' B c' cv v.length (ro rows k) v (hmat.ro hlt).2 hv (by rw [← HN.out]; exact (hmat.ro hlt).1) rfl (by omega) wr hs (sv1.next hBr)
      have hNX : Hid ((((List.range k).map fun i => dot p (ro rows i) v).map (Value.int .u64)) ++ [.int .u64 (dot p (ro rows k) v)] = ((List.range (k + 1)).map fun i => dot p (ro rows i) v).map (Value.int .u64)) := Lib.hid (by rw [map_next, List.map_append]; rfl)
      have hkn : (k : Int) < rows.length := by omega
      obtain ⟨Ao, co', ho⟩ := row_form hO
      subst ho
      have HO := Lib.hid hO
      clear hO hs
      generalize dot p (ro rows k) v = D at *
      go_wp2_with (first | (at_builtin; refine wpList_append_own _ rfl _ _ 24 rfl w1.heap.size 22 i0 (.int .u64 0) 1 8 Try.underlying24 hi0 hz0 hz1 hz2 rfl (by decide) _ _ _ rfl HO5.out ⟨w5.heap.size, 0, none⟩ 1 1 [.int .u64 D] rfl rfl (cell_one_new _ _ _) (by simp [Value.oneCell']) (by simp only [maxLen]; omega) (by omega) (by simp; omega) ?_; intro v6 w6 hown6 hgrow6 _) | (go_at_call 30; refine hin.mono ?_; rintro e w5 ⟨rfl, hb5⟩; have HO5 := Lib.hid ((own_below HO.out hb5).alloc (.cells #[.int .u64 D] 22)); have hsz5 := hb5.size))
      rw [hNX.out] at hown6
      go_roundw
      case rel => exact ⟨k + 1, by omega, by simp, hown6, ((hBr.trans (hb5.mono hszr)).alloc (by omega) _).grown hgrow6 (by simp; omega) (fun x e => (World.ownsRow.lt HO5.out x e).1)⟩
      case measure => simp [intOf]; omega
    · obtain rfl : k = rows.length := by omega
      obtain ⟨A2, c2, hv2, hs2⟩ := own_form hO
      have hl2 : ((List.range rows.length).map fun i => dot p (ro rows i) v).length = rows.length := by simp
      rw [hl2] at hv2
      subst hv2
      go_wp2_with fail
      go_ret2
      exact ⟨A2, c2, by rw [app_len]; rfl, hs2, hB1.trans (hBr.mono hB1.size)⟩

/-- An entry of the product by a column. -/
theorem mul_entry {p : Int} {a : List Int} {b : List (List Int)} {k l : Nat} (hr : rect b = true) (hE : ∀ r ∈ b, El p r) (hp : 0 < p) (hb : 0 < b.length) (hk : k < ncol b) (hl : a.length = l) (hlb : b.length = l) : dot p a (ro (trn b) k) = sg l (fun j => co a j * mx b j k) % p := by
  have _hT := trn_mat (p := p) hp (mat_of hr hE) hb
  unfold dot
  rw [hl]
  congr 1
  exact sg_congr _ fun j hj => by rw [← mx_ro, trn_mx hk (by omega)]

set_option maxRecDepth 100000 in
set_option maxHeartbeats 4000000 in
theorem rMul_ok (p : Int) (hp : OkP p) (A B : Option Addr) (ca cb : Nat) (a b : List (List Int)) (za : Sized a) (zb : Sized b) (ea : ∀ r ∈ a, El p r) (eb : ∀ r ∈ b, El p r) (ha : rect a = true) (hb : rect b = true) (hn : ncol a = b.length) (w : World) (sa : Sll w A ca a) (sb : Sll w B cb b) :
    Calls Try.prog 14 #[.int .u64 p, .slice A a.length ca, .slice B b.length cb] w fun e w' => MatE w e w' (mulM p a b) := by
  obtain ⟨i0, hi0, hz0, hz1, hz2⟩ := info_parts info_u64
  obtain ⟨j0, hj0, hy0, hy1, hy2⟩ := info_parts info_sl
  have hbd := hp.bd
  have hN := za.1
  have hNb := zb.1
  have hma := mat_of ha ea
  have g1 := fun W (h : Sll W A ca a) => rRect_b A ca a (by omega) W h
  rw [ha, rectN_of ha] at g1
  have g2 := fun W (h : Sll W B cb b) => rRect_b B cb b (by omega) W h
  rw [hb, rectN_of hb] at g2
  have hnb : ncol b ≤ 100 := zb.2 0
  have hn' : ((ncol a : Int) != b.length) = false := by rw [hn]; simp
  have hTl := trn_len b
  have HN := Lib.hid hn
  clear hn
  go_enter Try.func14, Try.ntmps14
  go_wp2_with fail
  refine (g1 _ sa).mono ?_; rintro e w1 ⟨rfl, hB⟩
  replace sa := sa.next hB
  replace sb := sb.next hB
  go_wp2_with fail
  refine (g2 _ sb).mono ?_; rintro e w2 ⟨rfl, hb2⟩
  replace sa := sa.next hb2
  replace sb := sb.next hb2
  replace hB := hB.trans (hb2.mono hB.size)
  clear hb2
  go_wp2_with fail
  refine (rTurn_any B cb b zb hb _ sb).mono ?_; rintro e w3 ⟨vt, vst, rfl, hMt, hb3⟩
  replace sa := sa.next hb3
  replace hB := hB.trans (hb3.mono hB.size)
  obtain ⟨At, ct, hvt, st⟩ := hMt.form
  rw [hTl] at hvt
  subst hvt
  clear hb3 hMt sb
  go_wp2_with fail
  go_loopw [13, 14] (fun o i wr => ∃ (k : Nat) (vs : List Value), k ≤ a.length ∧ i = .int .i64 k ∧ MP w3.heap.size wr o k k vs ((mulM p a b).take k) ∧ Below w3.heap.size w3 wr) (fun _ i _ => a.length - (intOf i).toNat)
  case atStart => exact ⟨0, [], Nat.zero_le _, rfl, MP.zero _ _, Below.refl _ _⟩
  case round =>
    obtain ⟨k, vs, hk, rfl, hM, hBr⟩ := hrel
    have hszr : w3.heap.size ≤ wr.heap.size := hBr.size
    by_cases hlt : k < a.length
    · obtain ⟨ba, oa, A', c', hA, hba, hca, hsa⟩ := sa.rowAt (i := k) (L := b.length) hlt (by rw [← HN.out]; exact (hma.ro hlt).1)
      subst hA
      have hela := (hma.ro hlt).2
      have hlena := (hma.ro hlt).1
      have hkn : (k : Int) < a.length := by omega
      have hMH := Lib.hid hM
      obtain ⟨Ao, co', ho⟩ := row_form hM.head
      subst ho
      clear hM
      rename World => W0
      go_wp2_with fail
      go_loopw [15, 16] (fun o i wr => ∃ j : Nat, j ≤ ncol b ∧ i = .int .i64 j ∧ wr.ownsRow W0.heap.size 22 1 o j (((List.range j).map fun c => sg (ro a k).length (fun t => co (ro a k) t * mx b t c) % p).map (Value.int .u64)) ∧ Below W0.heap.size W0 wr) (fun _ i _ => ncol b - (intOf i).toNat)
      case atStart => exact ⟨0, Nat.zero_le _, rfl, World.ownsRow_nil _ _ _ _, Below.refl _ _⟩
      case round =>
        obtain ⟨j, hj, rfl, hO, hBj⟩ := hrel
        have hszj : W0.heap.size ≤ wr.heap.size := hBj.size
        have hBB := hBr.trans (hBj.mono hszr)
        by_cases hltj : j < ncol b
        · have hb0 : 0 < b.length := ncol_pos (by omega)
          have hT := trn_mat (p := p) (by omega) (mat_of hb eb) hb0
          obtain ⟨bt, ot, T', cT, hAt, hbt, hct, hst⟩ := st.rowAt (i := j) (L := b.length) (by rw [hTl]; exact hltj) (hT.ro hltj).1
          subst hAt
          have hcaw := (hBB.cell (p := ⟨ba, oa + k, none⟩) hba).trans hca
          have hctw := (hBB.cell (p := ⟨bt, ot + j, none⟩) hbt).trans hct
          have hdot := rDot_b p hp A' T' c' cT b.length (ro a k) (ro (trn b) j) hela (hT.ro hltj).2 (by rw [hlena, HN.out]) (hT.ro hltj).1 (by omega) wr.drew (hsa.next hBB).drew (hst.next hBB).drew
          have hentry := mul_entry (a := ro a k) (l := b.length) hb eb (by omega) hb0 hltj (by rw [hlena, HN.out]) rfl
          have hNX : Hid ((((List.range j).map fun c => sg (ro a k).length (fun t => co (ro a k) t * mx b t c) % p).map (Value.int .u64)) ++ [.int .u64 (dot p (ro a k) (ro (trn b) j))] = ((List.range (j + 1)).map fun c => sg (ro a k).length (fun t => co (ro a k) t * mx b t c) % p).map (Value.int .u64)) := Lib.hid (by rw [map_next, List.map_append, hentry, hlena, HN.out]; rfl)
          have hjn : (j : Int) < ncol b := by omega
          obtain ⟨Ar, cr, hr'⟩ := row_form hO
          subst hr'
          have HO := Lib.hid hO
          have hbaw : ba < wr.heap.size := Nat.lt_of_lt_of_le hba (Nat.le_trans hszr hszj)
          have hbtw : bt < wr.heap.size := Nat.lt_of_lt_of_le hbt (Nat.le_trans hszr hszj)
          clear hO hentry hT
          generalize dot p (ro a k) (ro (trn b) j) = D at *
          go_wp2_with fail
          go_region_held3 (fun w' => w'.cell? ⟨ba, oa + k, none⟩ = some (.slice A' b.length c') ∧ w'.cell? ⟨bt, ot + j, none⟩ = some (.slice T' b.length cT))
            (first | (refine ⟨?_, ?_⟩ <;> assumption))
            (first
              | (go_at_call 30; (with_reducible refine hdot.mono ?_); rintro e w5 ⟨rfl, hb5⟩; have hBd : Below wr.heap.size wr w5 := (Below.refl _ wr).drew.trans (hb5.mono (Nat.le_refl _)); have c15 := (hBd.cell (p := ⟨ba, oa + k, none⟩) hbaw).trans hcaw; have c25 := (hBd.cell (p := ⟨bt, ot + j, none⟩) hbtw).trans hctw; have hsz5 := hBd.size; have HO5 := Lib.hid ((own_below HO.out hBd).alloc (.cells #[.int .u64 D] 22)); have c16 : (w5.alloc (.cells #[.int .u64 D] 22)).cell? ⟨ba, oa + k, none⟩ = some (.slice A' b.length c') := (World.cell?_alloc_some _ _ _ (by rw [c15]; rfl)).trans c15; have c26 : (w5.alloc (.cells #[.int .u64 D] 22)).cell? ⟨bt, ot + j, none⟩ = some (.slice T' b.length cT) := (World.cell?_alloc_some _ _ _ (by rw [c25]; rfl)).trans c25; clear hb5)
              | (refine step_append_own _ (by rfl) _ _ _ (by rfl) W0.heap.size 22 i0 (.int .u64 0) 1 8 Try.underlying24 hi0 hz0 hz1 hz2 rfl (by decide) _ _ _ (by rfl) HO5.out ⟨w5.heap.size, 0, none⟩ 1 1 [.int .u64 D] (by rfl) (by rfl) (cell_one_new _ _ _) (by simp [Value.oneCell']) (by simp only [maxLen]; omega) (by omega) (by first | omega | (simp; done) | (simp; omega)) ?_; intro v6 w6 hown6 hgrow6; have hB6 : Below W0.heap.size W0 w6 := ((hBj.trans (hBd.mono hszj)).alloc (by omega) _).grown hgrow6 (by first | omega | (simp; done) | (simp; omega)) (fun x e => (World.ownsRow.lt HO5.out x e).1); have c17 := ((hBr.trans (hB6.mono hszr)).cell (p := ⟨ba, oa + k, none⟩) hba).trans hca; have c27 := ((hBr.trans (hB6.mono hszr)).cell (p := ⟨bt, ot + j, none⟩) hbt).trans hct))
          all_goals
            rw [hNX.out] at hown6
            go_wp2_with fail
            go_roundw
            case rel => exact ⟨j + 1, by omega, by simp, hown6, hB6⟩
            case measure => simp [intOf]; omega
        · obtain rfl : j = ncol b := by omega
          have hRow : ((List.range (ncol b)).map fun c => sg (ro a k).length (fun t => co (ro a k) t * mx b t c) % p) = ro (mulM p a b) k := (mulM_ro p b hlt).symm
          rw [hRow] at hO
          have hrl : (ro (mulM p a b) k).length = ncol b := by rw [mulM_ro p b hlt, mulR_len]
          have hTK : Hid ((mulM p a b).take k ++ [ro (mulM p a b) k] = (mulM p a b).take (k + 1)) := Lib.hid (by rw [List.take_add_one, ro_get (by rw [mulM_len]; exact hlt)]; rfl)
          obtain ⟨Ar, cr, hr'⟩ := row_form hO
          subst hr'
          have hbA := hBj.alloc hszj (.cells #[.slice Ar (ncol b) cr] 24)
          have hOA := Lib.hid (hO.alloc (.cells #[.slice Ar (ncol b) cr] 24))
          have hhd := Lib.hid (hMH.out.next hbA).head
          clear hO hRow
          go_wp2_with (at_builtin; refine wpList_append_own _ rfl _ _ 23 rfl w3.heap.size 24 j0 (.slice none 0 0) 1 24 Try.underlying23 hj0 hy0 hy1 hy2 rfl (by decide) _ _ _ rfl hhd.out ⟨wr.heap.size, 0, none⟩ 1 1 [.slice Ar (ncol b) cr] rfl rfl (cell_one_new _ _ _) (by simp [Value.oneCell']) (by simp only [maxLen]; omega) (by omega) (by simp; omega) ?_; intro v6 w6 hown6 hgrow6 _)
          go_roundw
          case rel => exact ⟨k + 1, _, by omega, by simp, by rw [← hTK.out]; exact hMH.out.add hbA hszr (by rw [hrl]; exact hOA.out) hown6 hgrow6, (hBr.trans (hbA.mono hszr)).grown hgrow6 (by simp; omega) (fun x e => (World.ownsRow.lt hhd.out x e).1)⟩
          case measure => simp [intOf]; omega
    · obtain rfl : k = a.length := by omega
      rw [List.take_of_length_le (by rw [mulM_len]; exact Nat.le_refl _)] at hM
      obtain ⟨A2, c2, hv2, hs2⟩ := hM.form
      subst hv2
      go_wp2_with fail
      go_ret2
      exact ⟨A2, c2, by rw [mulM_len]; rfl, hs2, hB.trans (hBr.mono hB.size)⟩

theorem rMul_bad (p : Int) (A B : Option Addr) (ca cb : Nat) (a b : List (List Int)) (za : Sized a) (zb : Sized b) (h : mulB a b = false) (w : World) (sa : Sll w A ca a) (sb : Sll w B cb b) :
    Calls Try.prog 14 #[.int .u64 p, .slice A a.length ca, .slice B b.length cb] w fun e w' => e = .returned (.tuple #[.slice none 0 0, .int .i64 1]) ∧ Below w.heap.size w w' := by
  have g1 := fun W (h : Sll W A ca a) => rRect_b A ca a (by have := za.1; omega) W h
  have g2 := fun W (h : Sll W B cb b) => rRect_b B cb b (by have := zb.1; omega) W h
  cases ha : rect a with
  | false =>
    rw [ha] at g1
    go_enter Try.func14, Try.ntmps14
    go_wp2_with fail
    refine (g1 _ sa).mono ?_; rintro e w1 ⟨rfl, hB⟩
    go_wp2_with fail
    refine (g2 _ (sb.next hB)).mono ?_; rintro e w2 ⟨rfl, hb2⟩
    go_wp2_with fail
    go_ret2
    exact ⟨rfl, hB.trans (hb2.mono hB.size)⟩
  | true =>
    rw [ha, rectN_of ha] at g1
    cases hb : rect b with
    | false =>
      rw [hb] at g2
      go_enter Try.func14, Try.ntmps14
      go_wp2_with fail
      refine (g1 _ sa).mono ?_; rintro e w1 ⟨rfl, hB⟩
      go_wp2_with fail
      refine (g2 _ (sb.next hB)).mono ?_; rintro e w2 ⟨rfl, hb2⟩
      go_wp2_with fail
      go_ret2
      exact ⟨rfl, hB.trans (hb2.mono hB.size)⟩
    | true =>
      have hn : ncol a ≠ b.length := fun e => by rw [mulB_iff.2 ⟨ha, hb, e⟩] at h; cases h
      have hn' : ((ncol a : Int) != b.length) = true := bne_iff_ne.2 (by omega)
      rw [hb] at g2
      go_enter Try.func14, Try.ntmps14
      go_wp2_with fail
      refine (g1 _ sa).mono ?_; rintro e w1 ⟨rfl, hB⟩
      go_wp2_with fail
      refine (g2 _ (sb.next hB)).mono ?_; rintro e w2 ⟨rfl, hb2⟩
      go_wp2_with fail
      go_ret2
      exact ⟨rfl, hB.trans (hb2.mono hB.size)⟩
end Go.Proofs.Ytgkhngiiimnchaa
