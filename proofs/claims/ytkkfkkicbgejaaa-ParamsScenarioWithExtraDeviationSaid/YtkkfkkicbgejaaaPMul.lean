/- Mul and Scale of package poly: the trimmed product; nothing that lay is changed. Conditions: a supported prime, polynomials over its field of at most 400 coefficients. -/
import Derived.Test.YtkkfkkicbgejaaaPBase
import Derived.StillTailTactics
namespace Go.Proofs.Ytkkfkkicbgejaaa
set_option maxRecDepth 100000
open Go.RowKit PolyMath FieldMath

theorem still_of {P : Program} {f : FuncId} {args : Array Value} {w : World} {v : Value} (h : Calls P f args w fun e w' => e = .returned v ∧ w = w') : Calls P f args w (fun e w'' => e = .returned v ∧ w'' = w) :=
  h.mono fun _ _ ⟨he, hm⟩ => ⟨he, hm.symm⟩
theorem grown_trans {X Y Z : World} {row : Option Nat} (h : X.grownBy Y row) (k : Y.grownBy Z row) : X.grownBy Z row :=
  ⟨k.os.trans h.os, k.tape.trans h.tape, k.output.trans h.output, Nat.le_trans h.size k.size, fun b hb hr => (k.block b (Nat.lt_of_lt_of_le hb h.size) hr).trans (h.block b hb hr)⟩
theorem grown_drew {X Y : World} {row : Option Nat} (h : X.grownBy Y row) : X.grownBy Y.drew row := ⟨h.os, h.tape, h.output, h.size, h.block⟩
theorem Sl.grown {w w' : World} {A : Option Addr} {c : Nat} {xs : List Int} {row : Option Nat} (h : Sl w A c xs) (hg : w.grownBy w' row) (hr : ∀ ad, A = some ad → some ad.block ≠ row) : Sl w' A c xs :=
  ⟨h.cap, h.nil, fun ad hA hn => by
    obtain ⟨b, off, rfl, hb, hc⟩ := h.rd ad hA hn
    exact ⟨b, off, rfl, Nat.lt_of_lt_of_le hb hg.size, fun j x hx => hg.cell (hc j x hx) (hr ⟨b, off, none⟩ hA)⟩⟩

/-- The row at g, n words with room for c, holds the words xs, and may be written. -/
def OwnAt (w : World) (base g n c : Nat) (xs : List Int) : Prop := w.ownsRow base 22 1 (.slice (some ⟨g, 0, none⟩) n c) n (xs.map (Value.int .u64))
theorem OwnAt.lt {w : World} {base g n c : Nat} {xs : List Int} (h : OwnAt w base g n c xs) : base ≤ g ∧ g < w.heap.size := World.ownsRow.lt h g rfl
theorem OwnAt.len {w : World} {base g n c : Nat} {xs : List Int} (h : OwnAt w base g n c xs) : xs.length = n := by have := h.1; simpa using this
theorem OwnAt.cell {w : World} {base g n c i : Nat} {x : Int} {xs : List Int} (h : OwnAt w base g n c xs) (hx : xs[i]? = some x) : w.cell? ⟨g, i, none⟩ = some (.int .u64 x) := by
  have hi : i < n := by have := (List.getElem?_eq_some_iff.1 hx).1; rw [h.len] at this; exact this
  exact (World.ownsRow.cellAt h i (by omega)).trans (by rw [List.getElem?_map, hx]; rfl)
theorem OwnAt.frozen {w : World} {base g n c : Nat} {xs : List Int} (h : OwnAt w base g n c xs) (i : Nat) : w.frozen? ⟨g, i, none⟩ = false := World.ownsRow.frozenAt h i
theorem OwnAt.put {w : World} {base g n c : Nat} {xs : List Int} (h : OwnAt w base g n c xs) (i : Nat) (x : Int) : OwnAt (w.setCell ⟨g, i, none⟩ (.int .u64 x)) base g n c (xs.set i x) := by
  have := (World.ownsRow.stored h i (.int .u64 x)).1
  rw [← List.map_set] at this
  exact this
theorem OwnAt.grow {w : World} {base g n c : Nat} {xs : List Int} (h : OwnAt w base g n c xs) (i : Nat) (x : Int) : w.grownBy (w.setCell ⟨g, i, none⟩ (.int .u64 x)) (some g) := (World.ownsRow.stored h i (.int .u64 x)).2
theorem OwnAt.push {w : World} {base g n c : Nat} {xs : List Int} (h : OwnAt w base g n c xs) (o : Obj) : OwnAt (w.alloc o) base g n c xs := World.ownsRow.alloc h o
theorem OwnAt.drew {w : World} {base g n c : Nat} {xs : List Int} (h : OwnAt w base g n c xs) : OwnAt w.drew base g n c xs := h
theorem OwnAt.sl {w : World} {base g n c : Nat} {xs : List Int} (h : OwnAt w base g n c xs) : Sl w (some ⟨g, 0, none⟩) c xs := Sl.of_own h
theorem OwnAt.kept {w w' : World} {base g n c : Nat} {xs : List Int} {row : Option Nat} (h : OwnAt w base g n c xs) (hg : w.grownBy w' row) (hr : some g ≠ row) : OwnAt w' base g n c xs :=
  World.ownsRow.kept h hg (.inr hr)

set_option maxHeartbeats 1000000 in
theorem sumAdd_any (p x y ix : Int) (hp : OkP p) (hx0 : 0 ≤ x) (hx : x < p) (hy0 : 0 ≤ y) (hy : y < p) (g n c base i : Nat) (xs : List Int) (w : World)
    (hix : ix = i) (hown : OwnAt w base g n c xs) (hxi : xs[i]? = some x) :
    Calls Try.prog 85 #[.agg #[.int .u64 p, .slice (some ⟨g, 0, none⟩) n c], .int .i64 ix, .int .u64 y] w fun e w' => (∃ v, e = .returned v) ∧
      OwnAt w' base g n c (xs.set i (fadd p x y)) ∧ w.grownBy w' (some g) := by
  subst hix
  have hbd := hp.bd
  have hi : i < n := by have := (List.getElem?_eq_some_iff.1 hxi).1; rw [hown.len] at this; exact this
  have hlt := hown.lt
  have hcell := hown.cell hxi
  have hfz := hown.frozen i
  have hST := Lib.hid (hown.put i (fadd p x y))
  have hGR := Lib.hid (hown.grow i (fadd p x y))
  have hii : (i : Int) < n := by omega
  have hne : g ≠ w.heap.size := by omega
  clear hown hxi
  go_enter Try.func85, Try.ntmps85
  go_wp2
  refine wp_region_still_tail 13 (by kernel_rfl) (by kernel_rfl) ?_
  simp only [List.take_succ_cons, List.take_zero, List.drop_succ_cons, List.drop_zero]
  change wpStill _ _ (World.drew _) (fun a' => wpList _ _ _ _ a' (World.drew _)) _ _
  repeat still_step
  still_call (still_of (add_any _ _ _ hp (by omega) (by omega) (by omega) (by omega) _))
  repeat still_step
  refine wpStill_nil ?_
  go_wp2
  go_end0
  exact ⟨⟨_, rfl⟩, (hST.out.push _).drew, grown_drew (grown_trans hGR.out (World.grownBy_alloc _ _ _))⟩

/-- What the loops over the terms hold. -/
def Terms (w0 w1 : World) (p : Int) (a b : List Int) (g c I K : Nat) (w : World) : Prop :=
  OwnAt w w0.heap.size g (a.length + b.length - 1) c (mulL p a b (a.length + b.length - 1) I K) ∧ w1.grownBy w (some g)

set_option maxHeartbeats 2000000 in
theorem terms_any (p : Int) (hp : OkP p) (A B : Option Addr) (ca cb g c : Nat) (a b : List Int) (ha : El p a) (hb : El p b) (la : a.length ≤ 400) (lb : b.length ≤ 400) (w0 w : World)
    (hra : Sl w0 A ca a) (hrb : Sl w0 B cb b) (hB : Below w0.heap.size w0 w) (h0 : Terms w0 w p a b g c 0 0 w) :
    Calls Try.prog 84 #[.int .u64 p, .slice A a.length ca, .slice B b.length cb, .func (.func 85) #[.agg #[.int .u64 p, .slice (some ⟨g, 0, none⟩) (a.length + b.length - 1) c]] #[]] w
      fun e w' => (∃ v, e = .returned v) ∧ Terms w0 w p a b g c a.length 0 w' := by
  have hbd := hp.bd
  have hlt := h0.1.lt
  have hs0 := hB.size
  have hBel : Hid (∀ wr, w.grownBy wr (some g) → Below w0.heap.size w0 wr) := Lib.hid fun wr h => hB.grown h hs0 (fun k e => by injection e with e; omega)
  clear hB
  go_enter Try.func84, Try.ntmps84
  go_wp2
  go_loopw [14] (fun i wr => ∃ I : Nat, I ≤ a.length ∧ i = .int .i64 I ∧ Terms w0 w p a b g c I 0 wr) (fun i _ => a.length - (intOf i).toNat)
  case atStart => exact ⟨0, Nat.zero_le _, rfl, h0⟩
  case round =>
    obtain ⟨I, hI, rfl, hT⟩ := hrel
    by_cases hltI : I < a.length
    · obtain ⟨ba, oa, x, hA, _, hx, hcx⟩ := (hra.next (hBel.out _ hT.2)).at_ hltI
      subst hA
      have hxb := ha x (List.mem_of_getElem? hx)
      have hX := Lib.hid (co_at hx)
      have hI' : (I : Int) < a.length := by omega
      clear hx
      go_wp2
      go_loopw [21] (fun k wr => ∃ K : Nat, K ≤ b.length ∧ k = .int .i64 K ∧ Terms w0 w p a b g c I K wr) (fun k _ => b.length - (intOf k).toNat)
      case atStart => exact ⟨0, Nat.zero_le _, rfl, hT⟩
      case round =>
        obtain ⟨K, hK, rfl, hT2⟩ := hrel
        by_cases hltK : K < b.length
        · obtain ⟨bb, ob, y, hB', _, hy, hcy⟩ := (hrb.next (hBel.out _ hT2.2)).at_ hltK
          subst hB'
          have hyb := hb y (List.mem_of_getElem? hy)
          have hY := Lib.hid (co_at hy)
          have hK' : (K : Int) < b.length := by omega
          have hm := fmul_bd p x y (by omega)
          have hz := md (mulAt (co a) (co b) I K (I + K)) p (by omega)
          have hset := mulL_set p a b (a.length + b.length - 1) I K
          rw [hX.out, hY.out] at hset
          have hS := Lib.hid hset
          have hget := Lib.hid (mulL_get p a b (a.length + b.length - 1) I K (I + K) (by omega))
          clear hy hset
          go_wp2_with (first | (go_at_call 42; refine (mul_any _ _ _ hp hxb.1 hxb.2 hyb.1 hyb.2 _).mono ?_; rintro e w' ⟨rfl, rfl⟩) | (go_at_call 85; refine (sumAdd_any _ _ _ _ hp hz.1 hz.2 hm.1 hm.2 g _ c w0.heap.size (I + K) _ _ (by omega) hT2.1 hget.out).mono ?_; rintro e w2 ⟨⟨v, rfl⟩, hO2, hG2⟩))
          rw [hS.out] at hO2
          go_roundw
          case rel => exact ⟨K + 1, by omega, by simp, hO2, grown_trans hT2.2 hG2⟩
          case measure => simp [intOf]; omega
        · obtain rfl : K = b.length := by omega
          have hT3 := hT2
          unfold Terms at hT3
          rw [mulL_row] at hT3
          have hH := Lib.hid hT3
          clear hT3
          go_wp2
          go_roundw
          case rel => exact ⟨I + 1, by omega, by simp, hH.out⟩
          case measure => simp [intOf]; omega
    · obtain rfl : I = a.length := by omega
      go_wp2
      go_end0
      exact ⟨⟨_, rfl⟩, hT⟩

theorem pmul_trims (p : Int) (a b : List Int) : pmul p (trim a) (trim b) = pmul p a b :=
  same_of (pmul_trim _ _ _) (pmul_trim _ _ _) fun n => by rw [co_pmul, co_pmul, conv_ext (co_trim a) (co_trim b)]
theorem pmul_one (p k : Int) (a : List Int) : pmul p [k] a = pscl p k a :=
  same_of (pmul_trim _ _ _) (pscl_trim _ _ _) fun n => by
    rw [co_pmul, co_pscl, conv_ext (f := co [k]) (g := co a) (f' := fun i => if i = 0 then k else 0) (g' := co a) (fun i => co_mono k 0 i) (fun _ => rfl), conv_mono, if_pos (Nat.zero_le _), Nat.sub_zero]
theorem Sl.trims {w : World} {A : Option Addr} {c : Nat} {xs : List Int} (h : Sl w A c xs) : Sl w A c (trim xs) := h.take _

set_option maxHeartbeats 2000000 in
theorem mul_row (p : Int) (hp : OkP p) (A B : Option Addr) (ca cb : Nat) (a b : List Int) (ha : El p a) (hb : El p b) (la : a.length ≤ 400) (lb : b.length ≤ 400) (w : World)
    (hra : Sl w A ca a) (hrb : Sl w B cb b) :
    Calls Try.prog 73 #[.int .u64 p, .slice A a.length ca, .slice B b.length cb] w fun e w' => Row w e w' (pmul p a b) := by
  obtain ⟨i0, hi, hz0, hz1, hz2⟩ := info_parts info_u64
  have ht1 := trimmed_any A ca a w hra (by omega)
  have ht2 := trimmed_any B cb b w hrb (by omega)
  have hca := hra.cap
  have hcb := hrb.cap
  have hla := tn_le a
  have hlb := tn_le b
  have hsa := hra.trims
  have hsb := hrb.trims
  have hea := ha.trim
  have heb := hb.trim
  by_cases h0 : tn a = 0 ∨ tn b = 0
  · have hE := Lib.hid (pmul_nil (p := p) h0)
    rw [trim_length] at ht1 ht2
    clear hsa hsb hea heb
    generalize tn a = m at *
    generalize tn b = n at *
    by_cases hm : m = 0
    · subst hm
      clear h0
      go_enter Try.func73, Try.ntmps73
      go_wp2_with fail
      refine ht1.mono ?_; rintro e w' ⟨rfl, rfl⟩
      go_wp2_with fail
      refine ht2.mono ?_; rintro e w' ⟨rfl, rfl⟩
      go_wp2_with fail
      go_ret
      rw [hE.out]
      exact ⟨none, 0, rfl, Sl.nothing _, Below.refl _ _⟩
    · have hn : n = 0 := h0.resolve_left hm
      subst hn
      clear h0
      have hmz : ((m : Int) == 0) = false := beq_eq_false_iff_ne.2 (by omega)
      go_enter Try.func73, Try.ntmps73
      go_wp2_with fail
      refine ht1.mono ?_; rintro e w' ⟨rfl, rfl⟩
      go_wp2_with fail
      refine ht2.mono ?_; rintro e w' ⟨rfl, rfl⟩
      go_wp2_with fail
      go_ret
      rw [hE.out]
      exact ⟨none, 0, rfl, Sl.nothing _, Below.refl _ _⟩
  · have hpa : 0 < (trim a).length := by rw [trim_length]; omega
    have hpb : 0 < (trim b).length := by rw [trim_length]; omega
    have hma : (trim a).length ≤ 400 := by rw [trim_length]; omega
    have hmb : (trim b).length ≤ 400 := by rw [trim_length]; omega
    have hE := Lib.hid ((mulL_done p (trim a) (trim b)).trans (pmul_trims p a b))
    clear h0 hla hlb hca hcb
    generalize trim a = a' at *
    generalize trim b = b' at *
    have hza : ((a'.length : Int) == 0) = false := beq_eq_false_iff_ne.2 (by omega)
    have hzb : ((b'.length : Int) == 0) = false := beq_eq_false_iff_ne.2 (by omega)
    have hb8 : i0.bytes * (a'.length + b'.length - 1) ≤ 281474976710656 := by rw [hz2]; omega
    have hB8 := Lib.hid hb8
    clear hb8
    go_enter Try.func73, Try.ntmps73
    go_wp2_with fail
    refine ht1.mono ?_; rintro e w' ⟨rfl, rfl⟩
    go_wp2_with fail
    refine ht2.mono ?_; rintro e w' ⟨rfl, rfl⟩
    go_wp2_with (at_make; refine wpList_make_full _ rfl _ _ 33 rfl w.heap.size 22 i0 (.int .u64 0) 1 Try.underlying33 hi hz0 hz1 .i64 .i64 _ _ (a'.length + b'.length - 1) rfl rfl (by omega) (by omega) hB8.out (by simp only [maxLen]; omega) (Nat.le_refl _) ?_; intro w1 hown1 hgrow1)
    have hb1 : Below w.heap.size w w1 := (Below.refl _ w).grown hgrow1 (Nat.le_refl _) (fun k e => by cases e)
    simp only [Value.cells, toList_madeCells_one, Nat.mul_one] at hown1
    have hown2 : OwnAt w1 w.heap.size w.heap.size (a'.length + b'.length - 1) (a'.length + b'.length - 1) (mulL p a' b' (a'.length + b'.length - 1) 0 0) := by
      unfold OwnAt; rw [mulL_start]; simpa using hown1
    clear hown1
    have hlt1 := hown2.lt
    have hb2 := hb1.alloc hb1.size (.cells #[.int .u64 p, .slice (some ⟨w.heap.size, 0, none⟩) (a'.length + b'.length - 1) (a'.length + b'.length - 1)] 99)
    have hc2 : (w1.alloc (.cells #[.int .u64 p, .slice (some ⟨w.heap.size, 0, none⟩) (a'.length + b'.length - 1) (a'.length + b'.length - 1)] 99)).cell? ⟨w1.heap.size, 1, none⟩ = some (.slice (some ⟨w.heap.size, 0, none⟩) (a'.length + b'.length - 1) (a'.length + b'.length - 1)) := by go_simp
    refine (terms_any p hp A B ca cb w.heap.size (a'.length + b'.length - 1) a' b' hea heb hma hmb w (w1.alloc (.cells #[.int .u64 p, .slice (some ⟨w.heap.size, 0, none⟩) (a'.length + b'.length - 1) (a'.length + b'.length - 1)] 99)) hsa hsb hb2 ⟨hown2.push _, World.grownBy.refl _ _⟩).mono ?_
    rintro e w3 ⟨⟨v, rfl⟩, hO3, hG3⟩
    have hc3 := hG3.cell hc2 (fun e => by injection e with e; have := hlt1.2; change w1.heap.size = w.heap.size at e; omega)
    have hb3 := hb2.grown hG3 (by have := hlt1.2; simp; omega) (fun k e => by injection e with e; omega)
    have ht3 := trimmed_any _ _ _ w3 hO3.sl (by rw [mulL_len]; omega)
    rw [mulL_len, hE.out] at ht3
    have hs3 := hO3.sl.trims
    rw [hE.out] at hs3
    have hS3 := Lib.hid hs3
    clear hs3 hO3 hG3 hc2 hb2
    go_wp2_with fail
    refine ht3.mono ?_; rintro e w' ⟨rfl, rfl⟩
    go_wp2_with fail
    go_ret
    exact ⟨_, _, rfl, hS3.out, hb3⟩

theorem scale_row (p k : Int) (hp : OkP p) (hk : 0 ≤ k ∧ k < p) (A : Option Addr) (ca : Nat) (a : List Int) (ha : El p a) (la : a.length ≤ 400) (w : World) (hra : Sl w A ca a) :
    Calls Try.prog 58 #[.int .u64 p, .int .u64 k, .slice A a.length ca] w fun e w' => Row w e w' (pscl p k a) := by
  have hm := mul_row p hp _ A 1 ca [k] a (fun x hx => by rw [List.mem_singleton] at hx; subst hx; exact hk) ha (by simp) la _ (Sl.l1 w k) (hra.push _)
  rw [pmul_one] at hm
  go_enter Try.func58, Try.ntmps58
  go_wp2_with fail
  refine hm.mono ?_; rintro e w2 ⟨A2, c2, rfl, hs2, hb2⟩
  have hS := Lib.hid hs2
  clear hs2 hm
  go_wp2_with fail
  go_ret
  exact ⟨A2, c2, rfl, hS.out, ((Below.refl _ w).alloc (Nat.le_refl _) _).trans (hb2.mono (by simp))⟩

end Go.Proofs.Ytkkfkkicbgejaaa
