/- DivMod of package poly where the divisor is not zero: quotient and remainder; nothing that lay is changed. Conditions: a supported prime, polynomials over its field of at most 400 coefficients. -/
import Derived.Test.YtkkfkkicbgejaaaPDivI
import Derived.IntWalk
namespace Go.Proofs.Ytkkfkkicbgejaaa
set_option maxRecDepth 100000
open Go.RowKit Go.Shelf PolyMath FieldMath
attribute [local go_sem] Oper.semAt_some

set_option maxRecDepth 100000 in
set_option maxHeartbeats 4000000 in
theorem div_row (p : Int) (hp : OkP p) (A B : Option Addr) (ca cb d : Nat) (a b : List Int) (ha : El p a) (hb : El p b) (la : a.length ≤ 400) (lb : b.length ≤ 400) (w : World)
    (hra : Sl w A ca a) (hrb : Sl w B cb b) (hd : tn b = d + 1) :
    Calls Try.prog 55 #[.int .u64 p, .slice A a.length ca, .slice B b.length cb] w fun e w' => DivRow p a b w e w' := by
  have hbd := hp.bd
  have hB0 : Below w.heap.size w ((w.alloc (.cells #[.int .u64 p] 22)).alloc (.cells #[.slice B b.length cb] 33)) := ((Below.refl _ w).alloc (Nat.le_refl _) _).alloc (by simp) _
  have hdeg := degree_any B cb b _ (hrb.next hB0) (by omega)
  rw [hd, show (((d + 1 : Nat) : Int) - 1) = (d : Int) from by omega] at hdeg
  have hld0 := tn_top b (by omega)
  have hdb := tn_le b
  rw [hd, Nat.add_sub_cancel] at hld0
  have hldb := hb.co (p := p) (by omega) d
  obtain ⟨ld, hld⟩ : ∃ ld, co b d = ld := ⟨_, rfl⟩
  have hcf := fun W (h : Below w.heap.size w W) => coef_any B cb b d W (hrb.next h)
  rw [coI_nat] at hcf
  rw [hld] at hcf hld0 hldb
  have hinv := hp.good.inv (a := ld) (by omega) hldb.2
  have hivb := fpow_bd p ld (p - 2) (by omega)
  have hic := fun W => inverse_any p ld hp (by omega) hldb.2 W
  generalize fpow p ld (p - 2) = iv at hinv hivb hic
  have hINV : Hid (fmul p (co b d) iv = 1) := Lib.hid (by rw [hld]; exact hinv)
  have hD0 := Lib.hid hd
  have hd400 : d + 1 ≤ b.length := by omega
  clear hinv hld hld0 hd
  refine (callsIn_wide (n := 3)).1 ?_
  refine callsIn_of_wp_marks Try.func55 rfl trivial ?_ rfl
  simp only [Try.ntmps55, List.size_toArray, List.length_cons, List.length_nil, Nat.reduceAdd, Nat.reduceSub, Array.replicate_succ, Array.replicate_zero, List.push_toArray, List.append_toArray, List.nil_append, List.cons_append]
  gi_wp2_with (refine ⟨trivial, ?_⟩; gi_at_call 74; refine (callsIn_wide.2 hdeg).mono ?_; rintro e w' ⟨rfl, rfl⟩)
  rw [wpIn_wide]
  have hB1 := hB0.alloc hB0.size (.cells #[.int .i64 (d : Int)] 3)
  have b1 := ((Boxed.new w 22 (.int .u64 p)).alloc (.cells #[.slice B b.length cb] 33)).alloc (.cells #[.int .i64 (d : Int)] 3)
  have b2 := (Boxed.new (w.alloc (.cells #[.int .u64 p] 22)) 33 (.slice B b.length cb)).alloc (.cells #[.int .i64 (d : Int)] 3)
  have b3 := Boxed.new ((w.alloc (.cells #[.int .u64 p] 22)).alloc (.cells #[.slice B b.length cb] 33)) 3 (.int .i64 (d : Int))
  simp only [World.size_alloc] at b2 b3
  clear hdeg hB0
  generalize ((w.alloc (.cells #[.int .u64 p] 22)).alloc (.cells #[.slice B b.length cb] 33)).alloc (.cells #[.int .i64 (d : Int)] 3) = W3 at hB1 b1 b2 b3 ⊢
  have c1 := b1.cell
  have c2 := b2.cell
  have c3 := b3.cell
  refine Code.wp_mono (Q := fun e a' w' => e = .normal ∧ a' = { tmps := #[.int .u64 p, .slice A a.length ca, .slice B b.length cb, .pointer (some ⟨w.heap.size, 0, none⟩), undef, .pointer (some ⟨w.heap.size + 1, 0, none⟩), .slice none 0 0, .slice none 0 0, .int .i64 0, .pointer (some ⟨w.heap.size + 1 + 1, 0, none⟩), .pointer (some ⟨W3.heap.size, 0, none⟩), .int .i64 0, undef, undef, undef, undef, undef, .slice B b.length cb, .int .i64 (d : Int), .tuple #[.int .u64 iv, .int .i64 0], .int .u64 p, .slice B b.length cb, .int .i64 (d : Int), .int .u64 ld, .tuple #[.int .u64 iv, .int .i64 0], .int .u64 iv, .int .i64 0, undef, undef, undef, undef, undef, undef, undef, undef, undef, undef, undef, undef, undef, undef, undef, undef, undef, undef, undef, undef, undef, undef, undef, undef, undef, undef, undef, undef, undef, undef, undef, undef, undef, undef, undef, undef, undef, undef, undef, undef, undef, undef, undef, undef, undef, undef, undef, undef, undef, undef, undef, undef, undef, undef, undef, undef, undef, undef, undef, undef, undef, undef], defers := [] } ∧ w' = (W3.alloc (.cells #[.int .u64 iv] 22)).drew) ?_ ?first
  case first =>
    go_region_held3 (fun w' => w'.cell? ⟨w.heap.size, 0, none⟩ = some (.int .u64 p) ∧ w'.cell? ⟨w.heap.size + 1, 0, none⟩ = some (.slice B b.length cb) ∧ w'.cell? ⟨w.heap.size + 1 + 1, 0, none⟩ = some (.int .i64 (d : Int))) (first | exact ⟨c1, c2, c3⟩ | exact ⟨Lib.cell?_alloc_some _ c1, Lib.cell?_alloc_some _ c2, Lib.cell?_alloc_some _ c3⟩)
      (first | (go_at_call 75; refine (hcf _ ?_).mono ?_; (first | exact hB1.drew | exact (hB1.alloc hB1.size _).drew); rintro e w' ⟨rfl, rfl⟩) | (go_at_call 71; refine (hic _).mono ?_; rintro e w' ⟨rfl, rfl⟩))
    all_goals exact ⟨rfl, rfl, rfl⟩
  rintro _ _ _ ⟨rfl, rfl, rfl⟩
  have hB4 : Below w.heap.size w (W3.alloc (.cells #[.int .u64 iv] 22)).drew := (hB1.alloc hB1.size _).drew
  have b4 : Boxed (W3.alloc (.cells #[.int .u64 iv] 22)).drew W3.heap.size 22 (.int .u64 iv) := Boxed.new W3 _ _
  have e1 : Boxed (W3.alloc (.cells #[.int .u64 iv] 22)).drew w.heap.size 22 (.int .u64 p) := b1.alloc _
  have e2 : Boxed (W3.alloc (.cells #[.int .u64 iv] 22)).drew (w.heap.size + 1) 33 (.slice B b.length cb) := b2.alloc _
  have e3 : Boxed (W3.alloc (.cells #[.int .u64 iv] 22)).drew (w.heap.size + 1 + 1) 3 (.int .i64 (d : Int)) := b3.alloc _
  have hs3 := b3.lt
  clear hcf hic b1 b2 b3 c1 c2 c3 hB1
  generalize W3.heap.size = s3 at hs3 b4 ⊢
  generalize (W3.alloc (.cells #[.int .u64 iv] 22)).drew = W4 at hB4 b4 e1 e2 e3 ⊢
  obtain ⟨i0, hi, hz0, hz1, hz2⟩ := info_parts info_u64
  have htr := trim_any A ca a W4 (hra.next hB4) (by omega)
  have htl := tn_le a
  have hrl := trim_length a
  have hel := ha.trim
  obtain ⟨r0, hr0⟩ : ∃ r0, trim a = r0 := ⟨_, rfl⟩
  rw [hr0] at htr hrl hel
  have hR0 := Lib.hid hr0
  have hr400 : r0.length ≤ a.length := by omega
  have hRL := Lib.hid hrl
  clear hr0 hrl htl
  obtain ⟨N, hN⟩ : ∃ N : Nat, (N : Int) = max ((r0.length : Int) - d) 0 := ⟨(max ((r0.length : Int) - d) 0).toNat, by omega⟩
  have hNa : N ≤ a.length := by omega
  have hNM : r0.length ≤ N + d := by omega
  have hNM2 : 0 < N → r0.length = N + d := by omega
  have hNM3 := Lib.hid hNM2
  have hNH := Lib.hid hN
  have hb8 : i0.bytes * N ≤ 281474976710656 := by rw [hz2]; omega
  have hB8 := Lib.hid hb8
  clear hN hNM2 hb8
  gi_wp2_with fail
  refine ⟨trivial, ?_⟩
  refine (callsIn_wide.2 htr).mono ?_
  rintro e w5 ⟨v, rfl, hown5, hb5⟩
  obtain ⟨Ar, cr, rfl, hsr⟩ := own_form hown5
  clear htr
  have hB5 : Below w.heap.size w w5 := hB4.trans (hb5.mono hB4.size)
  have k1 : Boxed w5 w.heap.size 22 (.int .u64 p) := (hb5.block _ e1.lt).trans e1
  have k2 : Boxed w5 (w.heap.size + 1) 33 (.slice B b.length cb) := (hb5.block _ e2.lt).trans e2
  have k3 : Boxed w5 (w.heap.size + 1 + 1) 3 (.int .i64 (d : Int)) := (hb5.block _ e3.lt).trans e3
  have k4 : Boxed w5 s3 22 (.int .u64 iv) := (hb5.block _ b4.lt).trans b4
  have hAr : Hid (∀ ad, Ar = some ad → s3 < ad.block ∧ ad.block < w5.heap.size) := Lib.hid fun ad e => by
    have h1 := hown5.lt ad.block (by rw [e]; rfl)
    have h2 := b4.lt
    omega
  have hs5 : s3 < w5.heap.size := k4.lt
  have hown6 := Joins.ownsRow_le hown5 hB4.size
  have hOW := Lib.hid hown6
  clear hown5 hown6 hb5 hsr e1 e2 e3 b4 hB4
  have m1 := k1.alloc (.cells #[.slice Ar r0.length cr] 33)
  have m2 := k2.alloc (.cells #[.slice Ar r0.length cr] 33)
  have m3 := k3.alloc (.cells #[.slice Ar r0.length cr] 33)
  have m4 := k4.alloc (.cells #[.slice Ar r0.length cr] 33)
  have m5 := Boxed.new w5 33 (.slice Ar r0.length cr)
  have hB6 := hB5.alloc hB5.size (.cells #[.slice Ar r0.length cr] 33)
  have hO6 := Lib.hid (hOW.out.alloc (.cells #[.slice Ar r0.length cr] 33))
  have hsz6 : (w5.alloc (.cells #[.slice Ar r0.length cr] 33)).heap.size = w5.heap.size + 1 := World.size_alloc _ _
  have hSZ6 := Lib.hid hsz6
  clear k1 k2 k3 k4 hB5 hOW hsz6
  have c3 := m3.cell
  have c5 := m5.cell
  gi_wp2_with (gi_at_make; refine wpListIn_make_full _ rfl _ _ 33 rfl w.heap.size 22 i0 (.int .u64 0) 1 Try.underlying33 hi hz0 hz1 .i64 .i64 _ _ N rfl rfl (by have := hNH.out; omega) (by have := hNH.out; omega) hB8.out (by simp only [maxLen]; omega) hB6.size ?_; intro w7 hown7 hgrow7)
  · have hb7 : Below w.heap.size w w7 := hB6.grown hgrow7 hB6.size (fun k e => by cases e)
    have n1 := m1.kept hgrow7 (by simp)
    have n2 := m2.kept hgrow7 (by simp)
    have n3 := m3.kept hgrow7 (by simp)
    have n4 := m4.kept hgrow7 (by simp)
    have n5 := m5.kept hgrow7 (by simp)
    have hOr7 := hO6.out.kept hgrow7 (by cases (Value.slice Ar r0.length cr).ownBlock <;> simp)
    simp only [Value.cells, toList_madeCells_one, Nat.mul_one] at hown7
    rw [hSZ6.out] at hown7
    have hOq7 : OwnAt w7 w.heap.size (w5.heap.size + 1) N N (List.replicate N 0) := by unfold OwnAt; simpa using hown7
    have hq7 := hOq7.lt
    clear hown7 hgrow7 m1 m2 m3 m4 m5 hB6 hO6 hSZ6 c3 c5
    refine ⟨trivial, ?_⟩
    refine (back_in _ _ _ _ _).mono ?_
    rintro e w' ⟨rfl, rfl⟩
    gi_wp2_with fail
    have hsz8 : (w7.alloc (.cells #[.slice (some ⟨w5.heap.size + 1, 0, none⟩) N N] 33)).heap.size = w7.heap.size + 1 := World.size_alloc _ _
    have hMid : Mid w p a b B Ar cb cr r0.length N d s3 w5.heap.size (w5.heap.size + 1) w7.heap.size iv [] ((w7.alloc (.cells #[.slice (some ⟨w5.heap.size + 1, 0, none⟩) N N] 33)).alloc (.cells #[.slice (some ⟨w5.heap.size + 1, 0, none⟩) N N] 33)) := {
      e1 := (n1.alloc _).alloc _
      e2 := (n2.alloc _).alloc _
      e3 := (n3.alloc _).alloc _
      e4 := (n4.alloc _).alloc _
      e5 := (n5.alloc _).alloc _
      e6 := (Boxed.new w7 _ _).alloc _
      e7 := by rw [← hsz8]; exact Boxed.new _ _ _
      rows := ⟨List.replicate N 0, r0, (hOq7.push _).push _, (hOr7.alloc _).alloc _, el_zeros (by omega) N, hel, fun _ => by rw [← hR0.out]; exact DivInv.start (by have := hRL.out; omega)⟩
      below := (hb7.alloc hb7.size _).alloc (by have := hb7.size; simp; omega) _ }
    have hOq9 := (hOq7.push (.cells #[.slice (some ⟨w5.heap.size + 1, 0, none⟩) N N] 33)).push (.cells #[.slice (some ⟨w5.heap.size + 1, 0, none⟩) N N] 33)
    have hAp : Apart w.heap.size s3 w5.heap.size (w5.heap.size + 1) w7.heap.size Ar := ⟨hs3, hs5, by omega, hq7.2, hAr.out⟩
    have hRD := Lib.hid hOq9.reads
    have hMI := Lib.hid hMid
    have hAP := Lib.hid hAp
    clear n1 n2 n3 n4 n5 hOr7 hOq7 hOq9 hsz8 hMid hAp hAr hb7
    generalize w5.heap.size = br at *
    refine wpIn_rangeFunc_ownG rfl (by omega) (gf := 63) (lb := #[.pointer (some ⟨w7.heap.size + 1, 0, none⟩)]) rfl trivial (enters_of Try.func63 (by kernel_rfl) rfl)
      (back_stops (3 - 1) (by omega) (w7.heap.size + 1) (br + 1) 0 N N (some ⟨br + 1, 0, none⟩) (fun _ => rfl) (by omega) AnyV (KeepsD (br + 1) (w7.heap.size + 1) N) (keepingD _ _ _) _ (fun _ => by simp; omega) hMI.out.e7 hRD.out) (fun h k => h.trans k) (KeepsD.book (by simp; omega) (by simp)) (Below.refl _ _) (fun _ => rfl)
      (Mid w p a b B Ar cb cr r0.length N d s3 br (br + 1) w7.heap.size iv)
      (fun _ _ _ => False)
      (Mid.own hAP.out (by simp))
      (fun _ _ _ _ _ hs _ _ => hs)
      hMI.out
      (fun y => { tmps := #[.int .u64 p, .slice A a.length ca, .slice B b.length cb, .pointer (some ⟨w.heap.size, 0, none⟩), undef, .pointer (some ⟨w.heap.size + 1, 0, none⟩), .slice none 0 0, .slice none 0 0, .int .i64 0, .pointer (some ⟨w.heap.size + 1 + 1, 0, none⟩), .pointer (some ⟨s3, 0, none⟩), .int .i64 0, .pointer (some ⟨br, 0, none⟩), .pointer (some ⟨w7.heap.size, 0, none⟩), .int .i64 (y.1.1 : Int), undef, undef, .slice B b.length cb, .int .i64 (d : Int), .tuple #[.int .u64 iv, .int .i64 0], .int .u64 p, .slice B b.length cb, .int .i64 (d : Int), .int .u64 ld, .tuple #[.int .u64 iv, .int .i64 0], .int .u64 iv, .int .i64 0, .int .i64 0, .bool false, undef, .slice A a.length ca, .slice Ar r0.length cr, .slice Ar r0.length cr, .int .i64 (r0.length : Int), .int .i64 (d : Int), .int .i64 ((r0.length : Int) - (d : Int)), .int .i64 0, .slice (some ⟨br + 1, 0, none⟩) N N, .slice (some ⟨br + 1, 0, none⟩) N N, .func (.func 63) #[] #[.pointer (some ⟨w7.heap.size + 1, 0, none⟩)], .int .i64 (y.1.1 : Int), .int .u64 y.1.2, undef, undef, undef, undef, undef, undef, undef, undef, undef, undef, undef, undef, undef, undef, undef, undef, undef, undef, undef, undef, undef, undef, undef, undef, undef, undef, undef, undef, undef, undef, undef, undef, undef, undef, undef, undef, undef, undef, undef, undef, undef, undef, undef, undef, undef, undef, undef], defers := [] }) ?assign ?body ?done ?stop
    case assign =>
      intro l x W K hK
      gi_wp2
      exact hK
    case stop =>
      rintro D c pre W _ _ h _
      exact h.elim
    case body =>
      rintro l pre ⟨⟨i, v⟩, hiN, hv⟩ W hM _
      have h1 := hNH.out
      have h2 : i < N := hiN
      omega
    case done =>
      rintro D ys W hD hS hM hK
      have hlen := congrArg List.length hS
      rw [List.length_map, dn_len] at hlen
      obtain ⟨qs, rs, hOq, hOr, hEq, hEr, hDI⟩ := hM.rows
      rw [hlen] at hDI
      have hDM := Lib.hid ((hDI hS).done hD0.out hEq hEr)
      have hql := hOq.len
      have hrl : rs.length = r0.length := by have := hOr.1; simpa using this
      have hsq := hOq.sl
      have hsr := Sl.of_own hOr
      have ht1 := trimmed_any _ _ qs W.drew hsq.drew (by omega)
      have ht2 := trimmed_any _ _ rs W.drew hsr.drew (by omega)
      rw [hql] at ht1
      rw [hrl] at ht2
      have hqa : (trim qs).length ≤ a.length := by rw [trim_length]; have := tn_le qs; omega
      have hS1 := Lib.hid hsq.trims
      have hS2 := Lib.hid hsr.trims
      have c5 := hM.e5.cell
      have c6 := hM.e6.cell
      have hBW := hM.below
      clear hDI hS hlen hql hrl hsq hsr hOq hOr
      gi_wp2
      rw [wpIn_wide]
      refine wp_region_still_lit (by kernel_rfl) (by kernel_rfl) ?_
      change wpStill _ _ (World.drew _) _ _ _
      repeat still_step
      still_call (still_of ht1)
      repeat still_step
      still_call (still_of ht2)
      repeat still_step
      refine wpStill_nil ?_
      gi_wp2
      have hK2 : W.drew.heap[D]? = some (.deferred (some [])) := hK
      have hDb : w7.heap.size + 1 + 1 ≤ D := by simpa using hD
      refine ⟨by simp, .inl ⟨_, _, rfl, run_takeDeferred hK2, ?_⟩⟩
      exact ⟨_, results_tmp3 rfl _ _ _, trim qs, trim rs, _, _, _, _, rfl, hS1.out.drew.grown (grownBy_putObj' _ D _) (fun ad hA e => by injection hA with hA; subst hA; injection e with e; change br + 1 = D at e; omega),
        hS2.out.drew.grown (grownBy_putObj' _ D _) (fun ad hA e => by have := (hAP.out.a5 ad hA).2; injection e with e; omega), hDM.out, hqa, hBW.drew.trans (belowK_b (w := w) (Nat.le_refl _) W.drew D _ _ (by have := hBW.size; omega) hK2 rfl rfl)⟩

  · have hb7 : Below w.heap.size w w7 := hB6.grown hgrow7 hB6.size (fun k e => by cases e)
    have n1 := m1.kept hgrow7 (by simp)
    have n2 := m2.kept hgrow7 (by simp)
    have n3 := m3.kept hgrow7 (by simp)
    have n4 := m4.kept hgrow7 (by simp)
    have n5 := m5.kept hgrow7 (by simp)
    have hOr7 := hO6.out.kept hgrow7 (by cases (Value.slice Ar r0.length cr).ownBlock <;> simp)
    simp only [Value.cells, toList_madeCells_one, Nat.mul_one] at hown7
    rw [hSZ6.out] at hown7
    have hOq7 : OwnAt w7 w.heap.size (w5.heap.size + 1) N N (List.replicate N 0) := by unfold OwnAt; simpa using hown7
    have hq7 := hOq7.lt
    clear hown7 hgrow7 m1 m2 m3 m4 m5 hB6 hO6 hSZ6 c3 c5
    refine ⟨trivial, ?_⟩
    refine (back_in _ _ _ _ _).mono ?_
    rintro e w' ⟨rfl, rfl⟩
    gi_wp2_with fail
    have hsz8 : (w7.alloc (.cells #[.slice (some ⟨w5.heap.size + 1, 0, none⟩) N N] 33)).heap.size = w7.heap.size + 1 := World.size_alloc _ _
    have hMid : Mid w p a b B Ar cb cr r0.length N d s3 w5.heap.size (w5.heap.size + 1) w7.heap.size iv [] ((w7.alloc (.cells #[.slice (some ⟨w5.heap.size + 1, 0, none⟩) N N] 33)).alloc (.cells #[.slice (some ⟨w5.heap.size + 1, 0, none⟩) N N] 33)) := {
      e1 := (n1.alloc _).alloc _
      e2 := (n2.alloc _).alloc _
      e3 := (n3.alloc _).alloc _
      e4 := (n4.alloc _).alloc _
      e5 := (n5.alloc _).alloc _
      e6 := (Boxed.new w7 _ _).alloc _
      e7 := by rw [← hsz8]; exact Boxed.new _ _ _
      rows := ⟨List.replicate N 0, r0, (hOq7.push _).push _, (hOr7.alloc _).alloc _, el_zeros (by omega) N, hel, fun _ => by rw [← hR0.out]; exact DivInv.start (by have := hRL.out; omega)⟩
      below := (hb7.alloc hb7.size _).alloc (by have := hb7.size; simp; omega) _ }
    have hOq9 := (hOq7.push (.cells #[.slice (some ⟨w5.heap.size + 1, 0, none⟩) N N] 33)).push (.cells #[.slice (some ⟨w5.heap.size + 1, 0, none⟩) N N] 33)
    have hAp : Apart w.heap.size s3 w5.heap.size (w5.heap.size + 1) w7.heap.size Ar := ⟨hs3, hs5, by omega, hq7.2, hAr.out⟩
    have hRD := Lib.hid hOq9.reads
    have hMI := Lib.hid hMid
    have hAP := Lib.hid hAp
    clear n1 n2 n3 n4 n5 hOr7 hOq7 hOq9 hsz8 hMid hAp hAr hb7
    generalize w5.heap.size = br at *
    refine wpIn_rangeFunc_ownG rfl (by omega) (gf := 63) (lb := #[.pointer (some ⟨w7.heap.size + 1, 0, none⟩)]) rfl trivial (enters_of Try.func63 (by kernel_rfl) rfl)
      (back_stops (3 - 1) (by omega) (w7.heap.size + 1) (br + 1) 0 N N (some ⟨br + 1, 0, none⟩) (fun _ => rfl) (by omega) AnyV (KeepsD (br + 1) (w7.heap.size + 1) N) (keepingD _ _ _) _ (fun _ => by simp; omega) hMI.out.e7 hRD.out) (fun h k => h.trans k) (KeepsD.book (by simp; omega) (by simp)) (Below.refl _ _) (fun _ => rfl)
      (Mid w p a b B Ar cb cr r0.length N d s3 br (br + 1) w7.heap.size iv)
      (fun _ _ _ => False)
      (Mid.own hAP.out (by simp))
      (fun _ _ _ _ _ hs _ _ => hs)
      hMI.out
      (fun y => { tmps := #[.int .u64 p, .slice A a.length ca, .slice B b.length cb, .pointer (some ⟨w.heap.size, 0, none⟩), undef, .pointer (some ⟨w.heap.size + 1, 0, none⟩), .slice none 0 0, .slice none 0 0, .int .i64 0, .pointer (some ⟨w.heap.size + 1 + 1, 0, none⟩), .pointer (some ⟨s3, 0, none⟩), .int .i64 0, .pointer (some ⟨br, 0, none⟩), .pointer (some ⟨w7.heap.size, 0, none⟩), .int .i64 (y.1.1 : Int), undef, undef, .slice B b.length cb, .int .i64 (d : Int), .tuple #[.int .u64 iv, .int .i64 0], .int .u64 p, .slice B b.length cb, .int .i64 (d : Int), .int .u64 ld, .tuple #[.int .u64 iv, .int .i64 0], .int .u64 iv, .int .i64 0, .int .i64 0, .bool false, undef, .slice A a.length ca, .slice Ar r0.length cr, .slice Ar r0.length cr, .int .i64 (r0.length : Int), .int .i64 (d : Int), .int .i64 ((r0.length : Int) - (d : Int)), .int .i64 ((r0.length : Int) - (d : Int)), .slice (some ⟨br + 1, 0, none⟩) N N, .slice (some ⟨br + 1, 0, none⟩) N N, .func (.func 63) #[] #[.pointer (some ⟨w7.heap.size + 1, 0, none⟩)], .int .i64 (y.1.1 : Int), .int .u64 y.1.2, undef, undef, undef, undef, undef, undef, undef, undef, undef, undef, undef, undef, undef, undef, undef, undef, undef, undef, undef, undef, undef, undef, undef, undef, undef, undef, undef, undef, undef, undef, undef, undef, undef, undef, undef, undef, undef, undef, undef, undef, undef, undef, undef, undef, undef, undef, undef], defers := [] }) ?assign ?body ?done ?stop
    case assign =>
      intro l x W K hK
      gi_wp2
      exact hK
    case stop =>
      rintro D c pre W _ _ h _
      exact h.elim
    case body =>
      rintro l pre ⟨⟨i, v⟩, hiN, hv⟩ W hM hpl
      have hi2 : i < N := hiN
      have hML := hNM3.out (by omega)
      obtain ⟨qs, rs, hOq, hOr, hEq, hEr, hDI⟩ := hM.rows
      have hDV := Lib.hid hDI
      have hrl : rs.length = r0.length := by have := hOr.1; simpa using this
      obtain ⟨gr, cr', hgr⟩ := Joins.ownsRow_form hOr (by omega)
      injection hgr with hg1 _ hg2
      subst hg1 hg2
      have hOr2 : OwnAt W w.heap.size gr r0.length cr rs := hOr
      have hxr : rs[i + d]? = some (rs[i + d]'(by omega)) := List.getElem?_eq_getElem _
      have hxc := co_at hxr
      generalize rs[i + d]'(by omega) = x at hxr hxc
      have hxb := hEr x (List.mem_of_getElem? hxr)
      have hcb := fmul_bd p x iv (by omega)
      have c1 := hM.e1.cell
      have c3 := hM.e3.cell
      have c4 := hM.e4.cell
      have c5 := hM.e5.cell
      have c6 := hM.e6.cell
      have cx := hOr2.cell hxr
      have cq := hOq.cell (List.getElem?_eq_getElem (show i < qs.length by rw [hOq.len]; exact hi2))
      have fq := hOq.frozen i
      have hXC := Lib.hid hxc
      have hRLL := Lib.hid hrl
      have hMLL := Lib.hid hML
      have wi : (i : Int) + d < r0.length := by omega
      have wj : (i : Int) < N := by omega
      clear hDI hxr hxc hrl hML
      have wr1 : IntKind.i64.wrap ((i : Int) + (d : Int)) = (i : Int) + (d : Int) := IntWalk.i64_in _ (by omega)
      have wr2 : ((i : Int) + (d : Int)).toNat = i + d := by omega
      have wr3 : (0 : Int) ≤ (i : Int) + (d : Int) := by omega
      gi_wp2
      refine wpIn_tail 12 (by kernel_rfl) (by kernel_rfl) (by kernel_rfl) ?_
      simp only [List.take_succ_cons, List.take_zero, List.drop_succ_cons, List.drop_zero]
      repeat still_step
      still_call (still_of (mul_any _ _ _ hp hxb.1 hxb.2 hivb.1 hivb.2 _))
      repeat still_step
      refine wpStill_nil ?_
      go_wp2
      clear wr1 wr2 wr3 wi
      have hgb := (hAP.out.a5 _ rfl).2
      have hgs := (hAP.out.a5 _ rfl).1
      change gr < br at hgb
      change s3 < gr at hgs
      have hG1 := grown_drew (hOq.grow i (fmul p x iv))
      have hOq1 := (hOq.put i (fmul p x iv)).drew
      have hOr1 := hOr2.kept hG1 (by simp; omega)
      have f1 := hM.e1.kept hG1 (by simp; omega)
      have f2 := hM.e2.kept hG1 (by simp; omega)
      have f3 := hM.e3.kept hG1 (by simp; omega)
      have f4 := hM.e4.kept hG1 (by simp; omega)
      have f5 := hM.e5.kept hG1 (by simp)
      have f6 := hM.e6.kept hG1 (by simp; omega)
      have f7 := hM.e7.kept hG1 (by simp; omega)
      have hB1 := hM.below.grown hG1 hM.below.size (fun k e => by injection e with e; omega)
      have hst : remL p rs b (fmul p x iv) i r0.length 0 = rs := by rw [← hRLL.out]; exact remL_start (by omega) hEr b _ i
      have hST := Lib.hid hst
      have hql := hOq.len
      have hQL := Lib.hid hql
      have hcx : fmul p (co rs (i + d)) iv = fmul p x iv := by rw [hXC.out]
      have hCX := Lib.hid hcx
      clear hst hql hcx c1 c3 c4 c5 c6 cx cq fq hOr hOr2 hOq hM hXC
      generalize fmul p x iv = c at *
      generalize (W.setCell ⟨br + 1, i, none⟩ (.int .u64 c)).drew = W1 at *
      have g2 := f2.cell
      have g3 := f3.cell
      have hsb := hrb.next hB1
      have hcap := hrb.cap
      have hdcap : (d : Int) + 1 ≤ cb := by omega
      obtain ⟨bb, ob, hBB, _⟩ : ∃ bb ob, B = some ⟨bb, ob, none⟩ ∧ True := by
        obtain ⟨bb, ob, _, e, _⟩ := hrb.at_ (k := 0) (by omega)
        exact ⟨bb, ob, e, trivial⟩
      subst hBB
      gi_wp2
      gi_loopw [59] (fun j wr => ∃ J : Nat, J ≤ d + 1 ∧ j = .int .i64 J ∧ OwnAt wr w.heap.size gr r0.length cr (remL p rs b c i r0.length J) ∧ W1.grownBy wr (some gr)) (fun j _ => d + 1 - (intOf j).toNat)
      case atStart => exact ⟨0, Nat.zero_le _, rfl, by rw [hST.out]; exact hOr1, World.grownBy.refl _ _⟩
      case round =>
        obtain ⟨J, hJ, rfl, hOJ, hGJ⟩ := hrel
        have hBJ := hB1.grown hGJ hB1.size (fun k e => by injection e with e; omega)
        by_cases hlt : J < d + 1
        · obtain ⟨b', o', y, hBy, _, hyb, hcy⟩ := (hrb.next hBJ).at_ (k := J) (by omega)
          cases hBy
          have hyb2 := hb y (List.mem_of_getElem? hyb)
          have hyc := co_at hyb
          have hset := remL_set p rs b c i r0.length J
          rw [hyc] at hset
          have hS := Lib.hid hset
          have hML2 := hMLL.out
          have hget := hOJ.cell (remL_get p rs b c i r0.length J (i + J) (by omega))
          have hfz := hOJ.frozen (i + J)
          have hzb := md (remAt (co rs) (co b) c i J (i + J)) p (by omega)
          clear hyb hyc hset
          generalize remAt (co rs) (co b) c i J (i + J) % p = z at hS hget hzb
          have hmb := fmul_bd p c y (by omega)
          have hput := Lib.hid (hOJ.put (i + J) (fsub p z (fmul p c y)))
          have hgr2 := Lib.hid (hOJ.grow (i + J) (fsub p z (fmul p c y)))
          have g1 := (f1.kept hGJ (by simp; omega)).cell
          have g5 := (f5.kept hGJ (by simp; omega)).cell
          have g6 := (f6.kept hGJ (by simp; omega)).cell
          have hqi : (qs.set i c)[i]? = some c := by rw [List.getElem?_set, if_pos rfl, if_pos (by rw [hQL.out]; exact hi2)]
          have g7 := (hOq1.kept hGJ (by simp; omega)).cell hqi
          have wi : (i : Int) + J < r0.length := by omega
          have wd : (J : Int) < (d : Int) + 1 := by omega
          have wr1 : IntKind.i64.wrap ((i : Int) + (J : Int)) = (i : Int) + (J : Int) := IntWalk.i64_in _ (by omega)
          have wr2 : ((i : Int) + (J : Int)).toNat = i + J := by omega
          have wr3 : (0 : Int) ≤ (i : Int) + (J : Int) := by omega
          clear hqi hML2
          gi_wp2
          refine wpIn_tail 20 (by kernel_rfl) (by kernel_rfl) (by kernel_rfl) ?_
          simp only [List.take_succ_cons, List.take_zero, List.drop_succ_cons, List.drop_zero]
          repeat still_step
          still_call (still_of (mul_any _ _ _ hp hcb.1 hcb.2 hyb2.1 hyb2.2 _))
          repeat still_step
          still_call (still_of (sub_any _ _ _ hp hzb.1 hzb.2 hmb.1 hmb.2 _))
          repeat still_step
          refine wpStill_nil ?_
          go_wp2
          clear wr1 wr2 wr3 wi wd
          gi_wp2
          go_roundw
          case rel => exact ⟨J + 1, by omega, by simp, by rw [← hS.out]; exact hput.out.drew, grown_drew (grown_trans hGJ hgr2.out)⟩
          case measure => simp [intOf]; omega
        · obtain rfl : J = d + 1 := by omega
          gi_wp2
          exact ⟨(KeepsFrom.of_grownBy hG1 (fun j e => by injection e with e; simp; omega)).trans (KeepsFrom.of_grownBy hGJ (fun j e => by injection e with e; simp; omega)),
            ⟨fun v hv => (hv.kept hG1 (by simp; omega)).kept hGJ (by simp; omega), fun _ => (hOq1.kept hGJ (by simp; omega)).reads⟩,
            { e1 := f1.kept hGJ (by simp; omega)
              e2 := f2.kept hGJ (by simp; omega)
              e3 := f3.kept hGJ (by simp; omega)
              e4 := f4.kept hGJ (by simp; omega)
              e5 := f5.kept hGJ (by simp; omega)
              e6 := f6.kept hGJ (by simp; omega)
              e7 := f7.kept hGJ (by simp; omega)
              rows := ⟨qs.set i c, remL p rs b c i r0.length (d + 1), hOq1.kept hGJ (by simp; omega), hOJ, el_set hEq hcb i, remL_el (by omega) _ _ _ _ _ _, fun hpre => by
                obtain ⟨h1, h2⟩ := dn_split hpre
                have h3 := DivInv.step hD0.out hMLL.out hpl hQL.out hRLL.out hINV.out (hDV.out h1)
                change i = N - 1 - pre.length at h2
                rw [← h2, hCX.out] at h3
                rw [List.length_append]
                exact h3⟩
              below := hBJ }⟩
    case done =>
      rintro D ys W hD hS hM hK
      have hlen := congrArg List.length hS
      rw [List.length_map, dn_len] at hlen
      obtain ⟨qs, rs, hOq, hOr, hEq, hEr, hDI⟩ := hM.rows
      rw [hlen] at hDI
      have hDM := Lib.hid ((hDI hS).done hD0.out hEq hEr)
      have hql := hOq.len
      have hrl : rs.length = r0.length := by have := hOr.1; simpa using this
      have hsq := hOq.sl
      have hsr := Sl.of_own hOr
      have ht1 := trimmed_any _ _ qs W.drew hsq.drew (by omega)
      have ht2 := trimmed_any _ _ rs W.drew hsr.drew (by omega)
      rw [hql] at ht1
      rw [hrl] at ht2
      have hqa : (trim qs).length ≤ a.length := by rw [trim_length]; have := tn_le qs; omega
      have hS1 := Lib.hid hsq.trims
      have hS2 := Lib.hid hsr.trims
      have c5 := hM.e5.cell
      have c6 := hM.e6.cell
      have hBW := hM.below
      clear hDI hS hlen hql hrl hsq hsr hOq hOr
      gi_wp2
      rw [wpIn_wide]
      refine wp_region_still_lit (by kernel_rfl) (by kernel_rfl) ?_
      change wpStill _ _ (World.drew _) _ _ _
      repeat still_step
      still_call (still_of ht1)
      repeat still_step
      still_call (still_of ht2)
      repeat still_step
      refine wpStill_nil ?_
      gi_wp2
      have hK2 : W.drew.heap[D]? = some (.deferred (some [])) := hK
      have hDb : w7.heap.size + 1 + 1 ≤ D := by simpa using hD
      refine ⟨by simp, .inl ⟨_, _, rfl, run_takeDeferred hK2, ?_⟩⟩
      exact ⟨_, results_tmp3 rfl _ _ _, trim qs, trim rs, _, _, _, _, rfl, hS1.out.drew.grown (grownBy_putObj' _ D _) (fun ad hA e => by injection hA with hA; subst hA; injection e with e; change br + 1 = D at e; omega),
        hS2.out.drew.grown (grownBy_putObj' _ D _) (fun ad hA e => by have := (hAP.out.a5 ad hA).2; injection e with e; omega), hDM.out, hqa, hBW.drew.trans (belowK_b (w := w) (Nat.le_refl _) W.drew D _ _ (by have := hBW.size; omega) hK2 rfl rfl)⟩

end Go.Proofs.Ytkkfkkicbgejaaa
