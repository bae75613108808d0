/- beside (with the identity) and Inverse of the reference of layer 6. Nothing that lay is changed. Conditions: a supported prime, words of its field, at most 50 rows and columns. -/
import Derived.Test.YtjijlefplidhpaaMH
import Derived.Test.YtjijlefplidhpaaMF
import Derived.Test.YtjijlefplidhpaaMC
namespace Go.Proofs.Ytjijlefplidhpaa
set_option maxRecDepth 100000
open Go.RowKit PolyMath FieldMath MatMath

set_option maxHeartbeats 4000000 in
theorem besideI_any (p : Int) (A B : Option Addr) (ca cb : Nat) (a : List (List Int)) (hN : a.length ≤ 100) (h0 : 0 < a.length) (ha : Mat p a.length a.length a) (w : World) (sa : Sll w A ca a) (sb : Sll w B cb (oneL a.length)) :
    Calls Try.prog 86 #[.slice A a.length ca, .slice B a.length cb] w fun e w' => MFresh w e w' (agiL a) := by
  obtain ⟨u0, hu0, hx0, hx1, hx2⟩ := info_parts info_u64
  obtain ⟨j0, hj0, hy0, hy1, hy2⟩ := info_parts info_sl
  have hgl : (agiL a).length = a.length := agiK_len a _
  obtain ⟨L, hL⟩ : ∃ L, L = a.length := ⟨_, rfl⟩
  have hL0 : 0 < L := by omega
  have hL1 : L ≤ 100 := by omega
  have hrA : ∀ k, k < a.length → (ro a k).length = L := fun k hk => by rw [hL]; exact (ha.ro hk).1
  have hrB := fun k (hk : k < a.length) => (show (ro (oneL a.length) k).length = a.length by unfold oneL; rw [ro_map _ hk]; exact unitL_len _ _)
  have hrow0 := fun k (hk : k < a.length) => (show ro (agiL a) k = ro a k ++ unitL a.length k by unfold agiL; rw [agiK_ro _ hk, if_pos hk])
  have hone := fun k (hk : k < a.length) => (show ro (oneL a.length) k = unitL a.length k by unfold oneL; exact ro_map _ hk)
  have hol := Lib.hid (oneL_len a.length)
  have HL := Lib.hid hL
  clear hL
  go_enter Try.func86, Try.ntmps86
  go_wp2
  go_loopw [5, 6] (fun v i wr => ∃ (k : Nat) (vs : List Value), k ≤ a.length ∧ i = .int .i64 k ∧ MP w.heap.size wr v k k vs ((agiL a).take k) ∧ Below w.heap.size w wr) (fun _ i _ => a.length - (intOf i).toNat)
  case atStart => exact ⟨0, [], Nat.zero_le _, rfl, MP.zero _ _, Below.refl _ _⟩
  case round =>
    obtain ⟨k, vs, hk, rfl, hM, hB⟩ := hrel
    have hsz : w.heap.size ≤ wr.heap.size := hB.size
    by_cases hlt : k < a.length
    · obtain ⟨ba, oa, A', c', hA', hba, hca, hsa⟩ := sa.rowAt (i := k) (L := L) hlt (hrA k hlt)
      obtain ⟨bb, ob, B', c8, hB', hbb, hcb, hsb⟩ := sb.rowAt (i := k) (L := L) (by rw [hol.out]; exact hlt) (by rw [hrB k hlt, HL.out])
      subst hA' hB'
      rw [hone k hlt] at hsb
      obtain ⟨b7, o7, _, hA7, hb7l, _, _⟩ := hsa.at_ (k := 0) (by rw [hrA k hlt]; exact hL0)
      obtain ⟨b8, o8, _, hB8, hb8, _, _⟩ := hsb.at_ (k := 0) (by rw [unitL_len, ← HL.out]; exact hL0)
      subst hA7 hB8
      have hcaw := (hB.cell (p := ⟨ba, oa + k, none⟩) hba).trans hca
      have hcbw := (hB.cell (p := ⟨bb, ob + k, none⟩) hbb).trans hcb
      have hbaw : ba < wr.heap.size := Nat.lt_of_lt_of_le hba hsz
      have hbbw : bb < wr.heap.size := Nat.lt_of_lt_of_le hbb hsz
      have hkn : (k : Int) < a.length := by omega
      have hMH := Lib.hid hM
      obtain ⟨Ao, co', ho⟩ := row_form hM.head
      subst ho
      have hTK : Hid ((agiL a).take k ++ [ro (agiL a) k] = (agiL a).take (k + 1)) := Lib.hid (by rw [List.take_add_one, ro_get (by rw [hgl]; exact hlt)]; rfl)
      have hrow : Hid (ro (agiL a) k = ro a k ++ unitL a.length k) := Lib.hid (hrow0 k hlt)
      have hlit := own_lit0 wr
      have hrl := Lib.hid (hrA k hlt)
      have hul : Hid ((unitL a.length k).length = L) := Lib.hid (by rw [unitL_len, HL.out])
      have hsw := hsa.next hB
      have honeA := Lib.hid (one_cells (ro a k))
      have honeB := Lib.hid (one_cells (unitL a.length k))
      have ca1 : (wr.alloc (.cells #[] 22)).cell? ⟨ba, oa + k, none⟩ = some (.slice (some ⟨b7, o7, none⟩) L c') := (World.cell?_alloc_some _ _ _ (by rw [hcaw]; rfl)).trans hcaw
      have cb1 : (wr.alloc (.cells #[] 22)).cell? ⟨bb, ob + k, none⟩ = some (.slice (some ⟨b8, o8, none⟩) L c8) := (World.cell?_alloc_some _ _ _ (by rw [hcbw]; rfl)).trans hcbw
      have hnw := Lib.hid (hsw.news (.cells #[] 22) L)
      rw [List.take_of_length_le (by rw [hrl.out]; exact Nat.le_refl _)] at hnw
      have hnwD : Hid (∀ j u, ((ro a k).map (Value.int .u64))[j]? = some u → ((wr.alloc (.cells #[] 22)).drew).cell? ((⟨b7, o7, none⟩ : Addr).add j) = some u) := Lib.hid fun j u hu => hnw.out j u hu
      have hlitD : Hid (((wr.alloc (.cells #[] 22)).drew).ownsRow wr.heap.size 22 1 (.slice (some ⟨wr.heap.size, 0, none⟩) 0 0) 0 []) := Lib.hid hlit.out
      have hln : Hid (((ro a k).map (Value.int .u64)).length = L * 1) := Lib.hid (by rw [List.length_map, hrl.out, Nat.mul_one])
      have hln2 : Hid (((unitL a.length k).map (Value.int .u64)).length = L * 1) := Lib.hid (by rw [List.length_map, hul.out, Nat.mul_one])
      have hnB : Hid (∀ w5, Below wr.heap.size wr w5 → ∀ j u, ((unitL a.length k).map (Value.int .u64))[j]? = some u → w5.cell? ((⟨b8, o8, none⟩ : Addr).add j) = some u) := Lib.hid fun w5 hb5 j u hu => by
        have h9 := (hsb.next (hB.trans (hb5.mono hsz))).rd ⟨b8, o8, none⟩ rfl (fun e => by have := hul.out; rw [e] at this; simp at this; omega)
        obtain ⟨b9, o9, e9, _, hc9⟩ := h9
        injection e9 with e1 e2
        subst e1 e2
        rw [List.getElem?_map] at hu
        obtain ⟨x, hx, rfl⟩ := Option.map_eq_some_iff.1 hu
        rw [Addr.add_lit]
        exact hc9 j x hx
      clear hsw hsa hnw hM
      go_wp2_with fail
      go_region_held3 (fun w' => w'.cell? ⟨ba, oa + k, none⟩ = some (.slice (some ⟨b7, o7, none⟩) L c') ∧ w'.cell? ⟨bb, ob + k, none⟩ = some (.slice (some ⟨b8, o8, none⟩) L c8))
        (first | (refine ⟨?_, ?_⟩ <;> assumption) | exact ⟨ca1, cb1⟩)
        (first | (refine step_append_own _ (by rfl) _ _ _ (by rfl) w.heap.size 31 j0 (.slice none 0 0) 1 24 Try.underlying25 hj0 hy0 hy1 hy2 rfl (by decide) _ _ _ (by rfl) hhd.out ⟨w6.heap.size, 0, none⟩ 1 1 [.slice A6 (L + L) c6] (by rfl) (by rfl) (cell_one_new _ _ _) (by simp [Value.oneCell']) (by simp only [maxLen]; omega) (by omega) (by first | omega | (simp; done) | (simp; omega)) ?_; intro v8 w8 hown8 hgrow8; have hB8 : Below w.heap.size w w8 := (hB.trans (hb7.mono hsz)).grown hgrow8 (by first | omega | (simp; done) | (simp; omega)) (fun x e => (World.ownsRow.lt hhd.out x e).1); have c18 := (hB8.cell (p := ⟨ba, oa + k, none⟩) hba).trans hca; have c28 := (hB8.cell (p := ⟨bb, ob + k, none⟩) hbb).trans hcb) | (refine step_append_own _ (by rfl) _ _ _ (by rfl) wr.heap.size 22 u0 (.int .u64 0) 1 8 Try.underlying31 hu0 hx0 hx1 hx2 rfl (by decide) _ _ _ (by rfl) hown5H.out ⟨b8, o8, none⟩ L c8 ((unitL a.length k).map (Value.int .u64)) (by rfl) hln2.out hn5.out honeB.out (by simp only [maxLen]; omega) (by omega) (by first | omega | (simp; done) | (simp; omega)) ?_; intro v6 w6 hown6 hgrow6; obtain ⟨A6, c6, hv6⟩ := row_form hown6; subst hv6; have hb6 : Below wr.heap.size wr w6 := hb5.grown hgrow6 hsz5 (fun x e => (World.ownsRow.lt hown5H.out x e).1); have hsz6 := hb6.size; have c16 := (hb6.cell (p := ⟨ba, oa + k, none⟩) hbaw).trans hcaw; have c26 := (hb6.cell (p := ⟨bb, ob + k, none⟩) hbbw).trans hcbw; have hb7 := hb6.alloc hsz6 (.cells #[.slice A6 (L + L) c6] 31); have c17 := (hb7.cell (p := ⟨ba, oa + k, none⟩) hbaw).trans hcaw; have c27 := (hb7.cell (p := ⟨bb, ob + k, none⟩) hbbw).trans hcbw; have hhd := Lib.hid (hMH.out.next hb7).head; have hu7 := Lib.hid (hown6.alloc (.cells #[.slice A6 (L + L) c6] 31)); clear hown6 hgrow6) | (refine step_append_own _ (by rfl) _ _ _ (by rfl) wr.heap.size 22 u0 (.int .u64 0) 1 8 Try.underlying31 hu0 hx0 hx1 hx2 rfl (by decide) _ _ _ (by rfl) hlitD.out ⟨b7, o7, none⟩ L c' ((ro a k).map (Value.int .u64)) (by rfl) hln.out hnwD.out honeA.out (by simp only [maxLen]; omega) (by omega) (by first | omega | (simp; done) | (simp; omega)) ?_; intro v5 w5 hown5 hgrow5; rw [Nat.zero_add, List.nil_append] at hown5; obtain ⟨A5, c5, hv5⟩ := row_form hown5; subst hv5; have hb5 : Below wr.heap.size wr w5 := ((Below.refl _ wr).alloc (Nat.le_refl _) _).drew.grown hgrow5 (by first | omega | (simp; done) | (simp; omega)) (fun x e => (World.ownsRow.lt hlitD.out x e).1); have hsz5 := hb5.size; have c15 := (hb5.cell (p := ⟨ba, oa + k, none⟩) hbaw).trans hcaw; have c25 := (hb5.cell (p := ⟨bb, ob + k, none⟩) hbbw).trans hcbw; have hn5 := Lib.hid (hnB.out w5 hb5); have hown5H := Lib.hid hown5; clear hown5 hgrow5))
      all_goals
        go_wp2_with fail
        go_roundw
        case rel => exact ⟨k + 1, _, by omega, by simp, by rw [← hTK.out]; exact hMH.out.add hb7 hsz (by rw [hrow.out, List.length_append, List.map_append, hrl.out, hul.out]; exact hu7.out) hown8 hgrow8, hB8⟩
        case measure => simp [intOf]; omega
    · obtain rfl : k = a.length := by omega
      rw [List.take_of_length_le (by rw [hgl]; exact Nat.le_refl _)] at hM
      obtain ⟨Ao, co', ho⟩ := row_form hM.head
      subst ho
      go_wp2_with fail
      go_ret
      exact ⟨_, vs, rfl, by rw [hgl]; exact hM, hB⟩
/-- A matrix that reads as rows, all of it in memory from base on. -/
structure SllF (w : World) (base : Nat) (A : Option Addr) (c : Nat) (rows : List (List Int)) : Prop where
  cap : rows.length ≤ c
  nil : A = none → c = 0
  rd : ∀ ad, A = some ad → rows ≠ [] → ∃ b off, ad = ⟨b, off, none⟩ ∧ base ≤ b ∧ b < w.heap.size ∧ ∀ j r, rows[j]? = some r → ∃ A' c', w.cell? ⟨b, off + j, none⟩ = some (.slice A' r.length c') ∧ Sl w A' c' r ∧ ∀ ad', A' = some ad' → base ≤ ad'.block
theorem SllF.sll {w : World} {base : Nat} {A : Option Addr} {c : Nat} {rows : List (List Int)} (h : SllF w base A c rows) : Sll w A c rows :=
  ⟨h.cap, h.nil, fun ad e hn => by
    obtain ⟨b, off, h1, _, h2, h3⟩ := h.rd ad e hn
    exact ⟨b, off, h1, h2, fun j r hr => by obtain ⟨A', c', q1, q2, _⟩ := h3 j r hr; exact ⟨A', c', q1, q2⟩⟩⟩
theorem SllF.next {w w' : World} {base : Nat} {A : Option Addr} {c : Nat} {rows : List (List Int)} (h : SllF w base A c rows) (hb : Below w.heap.size w w') : SllF w' base A c rows :=
  ⟨h.cap, h.nil, fun ad e hn => by
    obtain ⟨b, off, h1, h0, h2, h3⟩ := h.rd ad e hn
    exact ⟨b, off, h1, h0, Nat.lt_of_lt_of_le h2 hb.size, fun j r hr => by
      obtain ⟨A', c', q1, q2, q3⟩ := h3 j r hr
      exact ⟨A', c', (hb.cell (p := ⟨b, off + j, none⟩) h2).trans q1, q2.next hb, q3⟩⟩⟩
theorem SllF.grown {w w' : World} {base g : Nat} {A : Option Addr} {c : Nat} {rows : List (List Int)} (h : SllF w base A c rows) (hg : w.grownBy w' (some g)) (hlt : g < base) : SllF w' base A c rows :=
  ⟨h.cap, h.nil, fun ad e hn => by
    obtain ⟨b, off, h1, h0, h2, h3⟩ := h.rd ad e hn
    have hne : some b ≠ some g := fun e => by injection e with e; omega
    refine ⟨b, off, h1, h0, Nat.lt_of_lt_of_le h2 hg.size, fun j r hr => ?_⟩
    obtain ⟨A', c', q1, q2, q3⟩ := h3 j r hr
    refine ⟨A', c', ?_, q2.grown hg (fun ad' e' e2 => by have := q3 ad' e'; injection e2 with e2; omega), q3⟩
    rw [← q1]
    unfold World.cell?
    rw [hg.block b h2 hne]⟩
theorem Sl.dropN {w : World} {b off c : Nat} {xs : List Int} (h : Sl w (some ⟨b, off, none⟩) c xs) {q : Nat} (hq : q ≤ xs.length) : Sl w (some ⟨b, off + q, none⟩) (c - q) (xs.drop q) := by
  refine ⟨by rw [List.length_drop]; have := h.cap; omega, (fun e => by cases e), fun ad e hn => ?_⟩
  injection e with e
  subst e
  obtain ⟨b', off', e', hlt, hc⟩ := h.rd _ rfl (fun e => hn (by rw [e]; simp))
  injection e' with e1 e2
  subst e1 e2
  refine ⟨b, off + q, rfl, hlt, fun j r hr => ?_⟩
  rw [List.getElem?_drop] at hr
  rw [Nat.add_assoc]
  exact hc (q + j) r hr

/-- What Inverse of the reference hands back. -/
def InvF (p : Int) (A : List (List Int)) (w : World) (e : Ending) (w' : World) : Prop :=
  (∃ X, invM p A = some X ∧ ∃ A' c', e = .returned (.tuple #[.slice A' X.length c', .int .i64 0]) ∧ SllF w' w.heap.size A' c' X ∧ Below w.heap.size w w') ∨ (invM p A = none ∧ e = .returned (.tuple #[.slice none 0 0, .int .i64 8]) ∧ Below w.heap.size w w')

set_option maxHeartbeats 4000000 in
theorem rInverse_any (p : Int) (hp : OkP p) (A : Option Addr) (c : Nat) (rows : List (List Int)) (hN : rows.length ≤ 50) (hE : ∀ r ∈ rows, El p r) (hr : squ rows = true) (w : World) (h : Sll w A c rows) :
    Calls Try.prog 54 #[.int .u64 p, .slice A rows.length c] w fun e w' => InvF p rows w e w' := by
  obtain ⟨j0, hj0, hy0, hy1, hy2⟩ := info_parts info_sl
  have hbd := hp.bd
  have h1 := rSquare_any A c rows (by omega) w h
  obtain ⟨q1, q2, q3⟩ := squ_iff.1 hr
  have hmat := mat_of q3 hE
  rw [← q2] at hmat
  rw [hr] at h1
  have hmat2 := agiL_mat (p := p) (by omega) hmat
  have hELF := elim_ok hp.good hmat2 rows.length
  have hgl : (agiL rows).length = rows.length := agiK_len rows _
  have g2 := fun W => rOne_any rows.length (by omega) W
  unfold MFresh at g2
  have g3 := fun W B cb (a1 : Sll W A c rows) (a2 : Sll W B cb (oneL rows.length)) => besideI_any p A B c cb rows (by omega) q1 hmat W a1 a2
  have g4 := fun W Ag cg (a1 : Sll W Ag cg (agiL rows)) => red_any p hp Ag cg (rows.length + rows.length) rows.length (agiL rows) (by omega) (by omega) (by omega) (fun _ => by rw [hgl]; exact q1) (by rw [hgl]; exact hmat2) W a1
  rw [hgl] at g4
  unfold Redd at g4
  rw [hgl] at g4
  have HS : Hid (invM p rows = if (elim p (agiL rows) rows.length).pv.length < rows.length then none else some ((elim p (agiL rows) rows.length).R.map fun r => r.drop rows.length)) := Lib.hid rfl
  have hol := Lib.hid (oneL_len rows.length)
  clear hr q2 hgl
  go_enter Try.func54, Try.ntmps54
  go_wp2_with fail
  refine h1.mono ?_; rintro e w1 ⟨rfl, hB1⟩
  replace h := h.next hB1
  clear h1
  go_wp2_with fail
  refine (g2 _).mono ?_; rintro e w2 ⟨v2, vs2, rfl, hM2, hb2⟩
  obtain ⟨A2, c2, hv2, s2⟩ := hM2.form
  rw [hol.out] at hv2
  subst hv2
  replace h := h.next hb2
  have hB2 := hB1.trans (hb2.mono hB1.size)
  clear g2 hM2 hb2
  go_wp2_with fail
  refine (g3 _ _ _ h s2).mono ?_; rintro e w3 ⟨v3, vs3, rfl, hM3, hb3⟩
  have hgl2 : (agiL rows).length = rows.length := agiK_len rows _
  obtain ⟨A3, c3, hv3, s3⟩ := hM3.form
  rw [hgl2] at hv3
  subst hv3
  have hB3 := hB2.trans (hb3.mono hB2.size)
  clear g3 hM3 hb3 s2 hgl2
  go_wp2_with fail
  refine (g4 _ _ _ s3).mono ?_; rintro e w4 ⟨v4, vs4, pvv, rfl, hM4, hP4, hb4⟩
  obtain ⟨A9, c9, hv9⟩ := row_form hP4
  subst hv9
  obtain ⟨g, cap, hv4, hbg, _⟩ := World.ownsRow.form hM4.head q1
  subst hv4
  have hBend := hB3.trans (hb4.mono hB3.size)
  have hb3w : w.heap.size ≤ w3.heap.size := hB3.size
  clear g4 hP4 s3 hb4
  generalize elim p (agiL rows) rows.length = S at *
  generalize hq : S.pv.length = q at *
  clear hq
  by_cases hqN : q < rows.length
  · have HR : Hid (invM p rows = none) := Lib.hid (by rw [HS.out, if_pos hqN])
    have hqI : (q : Int) < rows.length := by omega
    clear HS
    go_wp2_with fail
    go_ret2
    exact .inr ⟨HR.out, rfl, hBend⟩
  · have HR : Hid (invM p rows = some (S.R.map fun r => r.drop rows.length)) := Lib.hid (by rw [HS.out, if_neg hqN])
    have hqI : ¬ (q : Int) < rows.length := by omega
    obtain ⟨L2, hL2⟩ : ∃ L2, L2 = rows.length + rows.length := ⟨_, rfl⟩
    have hL2a : rows.length < L2 := by omega
    have hL2b := Lib.hid hL2
    clear hL2
    have hhd := fun (i : Nat) (hi : i < rows.length) => hM4.hd (i := i) (L := L2) hi (by rw [hL2b.out]; exact (hELF.mat.ro hi).1) (by omega)
    have hgl4 := World.ownsRow.lt hM4.head g rfl
    clear HS hM4
    go_wp2_with fail
    go_loopw [9, 10] (fun v i wr => ∃ (k : Nat) (us : List Value), k ≤ rows.length ∧ i = .int .i64 k ∧ wr.ownsRow w4.heap.size 31 1 v k us ∧ Hid (∀ i, i < k → ∃ b cb, vs4[i]? = some (.slice (some ⟨b, 0, none⟩) L2 cb) ∧ us[i]? = some (.slice (some ⟨b, rows.length, none⟩) (L2 - rows.length) (cb - rows.length))) ∧ Below w4.heap.size w4 wr) (fun _ i _ => rows.length - (intOf i).toNat)
    case atStart => exact ⟨0, [], Nat.zero_le _, rfl, World.ownsRow_nil _ _ _ _, Lib.hid (fun i hi => absurd hi (Nat.not_lt_zero _)), Below.refl _ _⟩
    case round =>
      obtain ⟨k, us, hk, rfl, hO, hI, hB⟩ := hrel
      have hsz := hB.size
      by_cases hlt : k < rows.length
      · obtain ⟨b, cb, hv, hcv, hOb, hne, hcb⟩ := hhd k hlt
        have hcell := (hB.cell (p := ⟨g, k, none⟩) hgl4.2).trans hcv
        have hkr : (k : Int) < rows.length := by omega
        have hL2I : (rows.length : Int) ≤ L2 := by omega
        have hcbI : (L2 : Int) ≤ cb := by omega
        have hcbn : ¬ cb = rows.length := by omega
        have hul : us.length = k := by have := hO.1; omega
        have hI2 : Hid (∀ i, i < k + 1 → ∃ b9 cb9, vs4[i]? = some (.slice (some ⟨b9, 0, none⟩) L2 cb9) ∧ (us ++ [.slice (some ⟨b, rows.length, none⟩) (L2 - rows.length) (cb - rows.length)])[i]? = some (.slice (some ⟨b9, rows.length, none⟩) (L2 - rows.length) (cb9 - rows.length))) := Lib.hid fun i hi => by
          by_cases e : i = k
          · subst e
            exact ⟨b, cb, hv, by rw [List.getElem?_append_right (by omega), hul, Nat.sub_self]; rfl⟩
          · obtain ⟨b', cb', h1, h2⟩ := hI.out i (by omega)
            exact ⟨b', cb', h1, by rw [List.getElem?_append_left (by omega)]; exact h2⟩
        obtain ⟨Ao, co', ho⟩ := row_form hO
        subst ho
        clear hI hv hOb hul
        go_wp2_with (at_builtin; refine wpList_append_own _ rfl _ _ 25 rfl w4.heap.size 31 j0 (.slice none 0 0) 1 24 Try.underlying25 hj0 hy0 hy1 hy2 rfl (by decide) _ _ _ rfl (hO.alloc _) ⟨wr.heap.size, 0, none⟩ 1 1 [.slice (some ⟨b, rows.length, none⟩) (L2 - rows.length) (cb - rows.length)] rfl rfl (cell_one_new _ _ _) (by simp [Value.oneCell']) (by simp only [maxLen]; omega) (by omega) (by simp; omega) ?_; intro v6 w6 hown6 hgrow6 _)
        go_roundw
        case rel => exact ⟨k + 1, _, by omega, by simp, hown6, hI2, (hB.alloc hsz _).grown hgrow6 (by simp; omega) (fun x e => (World.ownsRow.lt hO x e).1)⟩
        case measure => simp [intOf]; omega
      · obtain rfl : k = rows.length := by omega
        have hXl : (S.R.map fun r => r.drop rows.length).length = rows.length := by rw [List.length_map]; exact hELF.mat.rows
        obtain ⟨g5, c5, hv5, hbg5, hlt5⟩ := World.ownsRow.form hO q1
        subst hv5
        have hfin : SllF wr w.heap.size (some ⟨g5, 0, none⟩) c5 (S.R.map fun r => r.drop rows.length) := by
          refine ⟨?_, (fun e => by cases e), fun ad e _ => ?_⟩
          · rw [hXl]
            rcases hO.2 with ⟨e, _⟩ | ⟨g', cap', cur, e, _, _, h9, _⟩
            · cases e
            · injection e with _ _ e3
              rw [e3]; exact h9
          injection e with e
          subst e
          refine ⟨g5, 0, rfl, by have := hBend.size; omega, hlt5, fun j r hr => ?_⟩
          have hj : j < rows.length := by have := (List.getElem?_eq_some_iff.1 hr).1; rw [hXl] at this; exact this
          rw [List.getElem?_map, ro_get (by rw [hELF.mat.rows]; exact hj)] at hr
          injection hr with hr
          subst hr
          obtain ⟨b, cb, h1, h2⟩ := hI.out j hj
          obtain ⟨b', cb', h3, _, h4, h5, _⟩ := hhd j hj
          rw [h1] at h3
          injection h3 with h3
          injection h3 with e1 e2 e3
          injection e1 with e1
          injection e1 with e1 _
          subst e1 e3
          have hlen := (hELF.mat.ro hj).1
          refine ⟨some ⟨b, rows.length, none⟩, cb - rows.length, ?_, ?_, fun ad' e' => ?_⟩
          · rw [Nat.zero_add, World.ownsRow.cellAt hO j (by omega), h2, List.length_drop, hlen, hL2b.out]
          · have := (h4.sl.next hB).dropN (q := rows.length) (by rw [hlen]; omega)
            rwa [Nat.zero_add] at this
          · injection e' with e'
            subst e'
            have := h4.lt
            show w.heap.size ≤ b
            omega
        clear hO hI
        go_wp2_with fail
        go_ret2
        exact .inl ⟨_, HR.out, _, _, by rw [hXl]; rfl, hfin, hBend.trans (hB.mono hBend.size)⟩
end Go.Proofs.Ytjijlefplidhpaa
