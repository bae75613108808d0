/- Mul of package bits: the bits of the product, as many as both operands have together, in memory of its own; nothing that lay is changed. Conditions: bit vectors of at most 1000 bits. -/
import Derived.WalkSmall
import Derived.Test.YtcjibadnhhnpmaaBAdd
import Derived.Test.YtcjibadnhhnpmaaBProds
namespace Go.Proofs.Ytcjibadnhhnpmaa
open Go.RowKit Go.Shelf BitMath
attribute [local go_sem] Oper.semAt_some

theorem wpListIn_make_full {F : Fence} {n : Nat} {P : Program} (w : World) {ops : Array Oper} {rest : List Oper} {o : Oper} {a : Act} {Q : Exit → Act → World → Prop}
    (hg : o.guard = none) (l c : Operand) (t : TypeId) (hop : o.op = Op.makeSlice t l c)
    (base : Nat) (e : TypeId) (i : TypeInfo) (z : Value) (size : Nat) (h1 : P.underlying t = some (.slice e)) (h2 : P.info? e = some i) (h3 : i.zero = some z) (h4 : i.size = size)
    (kl kc : IntKind) (L C : Int) (m : Nat) (hl : a.eval l = .int kl L) (hc : a.eval c = .int kc C) (hL : L = (m : Int)) (hC : C = (m : Int)) (b2 : i.bytes * m ≤ 281474976710656) (b3 : m ≤ maxLen) (b4 : base ≤ w.heap.size)
    (hK : ∀ w', w'.ownsRow base e size (.slice (some ⟨w.heap.size, 0, none⟩) m m) m (madeCells z.cells (m * size)).toList → w.grownBy w' none → wpListIn F n P ops Q rest (a.put o.dst (.slice (some ⟨w.heap.size, 0, none⟩) m m)) w') :
    wpListIn F n P ops Q (o :: rest) a w := by
  refine wpListIn_plain hg fun K hK' => ?_
  obtain ⟨w', hrun, r1, r2⟩ := run_make_full (P := P) w base t e i z size h1 h2 h3 h4 kl kc m b2 b3 b4
  subst hL
  subst hC
  unfold Oper.wpIn
  refine ⟨?_, ?_⟩
  · simp [Oper.about, hop]
  · rw [Oper.semAt_plain F _ _ (by rw [hop]; intro c hc'; cases hc')]
    simp [execOp, hop, hl, hc, hrun, Result.andThen]
    exact hK' _ _ (hK w' r1 r2)

/-- The words in the row: as many as the product has bits, none above the number of bits that have come, and worth what these add up to. -/
def Count {m : Nat} (pre : List (PP m)) (cs : List Int) : Prop := cs.length = m ∧ (∀ x ∈ cs, 0 ≤ x ∧ x ≤ pre.length) ∧ val cs = psum pre ∧ pre.length ≤ 1000000

theorem Count.zero {m : Nat} : Count ([] : List (PP m)) (List.replicate m 0) :=
  ⟨by simp, fun x hx => by rw [List.eq_of_mem_replicate hx]; simp, by rw [val_replicate]; rfl, by simp⟩
theorem Count.step {m : Nat} {pre : List (PP m)} {cs : List Int} (h : Count pre cs) {i : Nat} {v x : Int} (hp : i < m ∧ (v = 0 ∨ v = 1)) (hx : cs[i]? = some x) (hl : pre.length < 1000000) :
    Count (pre ++ [⟨(i, v), hp⟩]) (cs.set i (x + v)) := by
  obtain ⟨h1, h2, h3, _⟩ := h
  refine ⟨by simp [h1], fun y hy => ?_, ?_, by simp; omega⟩
  · simp only [List.length_append, List.length_cons, List.length_nil]
    have hb := h2 x (List.mem_of_getElem? hx)
    have hv := hp.2
    rcases List.mem_or_eq_of_mem_set hy with h | h
    · have := h2 y h; omega
    · omega
  · rw [val_set cs i (x + v) x hx, psum_snoc, h3, show x + v - x = v from by omega]

/-- The first k words are bits, and with the carry the words are worth V. -/
def Carried (V : Int) (m k : Nat) (cv : Int) (cs : List Int) : Prop :=
  cs.length = m ∧ (∀ j x, j < k → cs[j]? = some x → x = 0 ∨ x = 1) ∧ (∀ x ∈ cs, 0 ≤ x ∧ x ≤ 1000000) ∧ 0 ≤ cv ∧ cv ≤ 1000000 ∧ val cs + 2 ^ k * cv = V

theorem Carried.start {m : Nat} {pre : List (PP m)} {cs : List Int} {V : Int} (h : Count pre cs) (hv : psum pre = V) : Carried V m 0 0 cs :=
  ⟨h.1, fun j x hj _ => absurd hj (by omega), fun x hx => by have := h.2.1 x hx; have := h.2.2.2; omega, by omega, by omega, by rw [h.2.2.1, hv]; simp⟩
theorem Carried.step {V cv x : Int} {m k : Nat} {cs : List Int} (h : Carried V m k cv cs) (hx : cs[k]? = some x) : Carried V m (k + 1) ((x + cv) / 2) (cs.set k ((x + cv) % 2)) := by
  obtain ⟨h1, h2, h3, h4, h5, h6⟩ := h
  have hb := h3 x (List.mem_of_getElem? hx)
  refine ⟨by simp [h1], fun j y hj hy => ?_, fun y hy => ?_, by omega, by omega, ?_⟩
  · rw [List.getElem?_set] at hy
    split at hy
    · split at hy
      · cases hy; omega
      · cases hy
    · exact h2 j y (by omega) hy
  · rcases List.mem_or_eq_of_mem_set hy with h | h
    · exact h3 y h
    · omega
  · rw [val_set cs k _ x hx, p2s, ← h6]
    have e : x + cv = (x + cv) % 2 + 2 * ((x + cv) / 2) := by omega
    generalize (x + cv) % 2 = d at *
    generalize (x + cv) / 2 = q at *
    rw [show cv = d + 2 * q - x from by omega]
    generalize (2 : Int) ^ k = p
    rw [Int.mul_sub, Int.mul_sub, Int.mul_add, Int.mul_comm 2 p, Int.mul_assoc]
    omega
theorem Carried.done {V cv : Int} {m : Nat} {cs : List Int} (h : Carried V m m cv cs) (h0 : V < 2 ^ m) : cs = digs V m := by
  obtain ⟨h1, h2, h3, h4, h5, h6⟩ := h
  have hb : Bits cs := fun x hx => by
    obtain ⟨j, hj, e⟩ := List.mem_iff_getElem.1 hx
    exact h2 j x (by omega) (by rw [List.getElem?_eq_getElem hj, e])
  have a1 := val_nonneg hb
  have a2 := val_lt hb
  have hp := p2 m
  have e0 : cv = 0 := by
    rcases Int.lt_or_le 0 cv with h | h
    · have : 2 ^ m * 1 ≤ 2 ^ m * cv := Int.mul_le_mul_of_nonneg_left (by omega) (Int.le_of_lt hp)
      omega
    · omega
  rw [e0, Int.mul_zero, Int.add_zero] at h6
  exact eq_digs hb h1 (by rw [h6, Int.emod_eq_of_lt (by omega) h0])

theorem prod_lt {a b : List Int} (ha : Bits a) (hb : Bits b) : val a * val b < 2 ^ (a.length + b.length) := by
  rw [Int.pow_add]
  have h1 := val_lt ha
  have h2 := val_lt hb
  have h3 := val_nonneg hb
  have h4 := p2 a.length
  have e1 : val a * val b ≤ 2 ^ a.length * val b := Int.mul_le_mul_of_nonneg_right (Int.le_of_lt h1) h3
  have e2 : 2 ^ a.length * val b < 2 ^ a.length * 2 ^ b.length := Int.mul_lt_mul_of_pos_left h2 h4
  omega

theorem own_ex {β γ : Type} {I : γ → β → World → Prop} (h : ∀ c, Own (I c)) : Own (fun s W => ∃ c, I c s W) := fun s X Y row ⟨c, hc⟩ hg hr => ⟨c, h c s X Y row hc hg hr⟩
theorem own_and {β : Type} {p : β → Prop} {I : β → World → Prop} (h : Own I) : Own (fun s W => p s ∧ I s W) := fun s X Y row hs hg hr => ⟨hs.1, h s X Y row hs.2 hg hr⟩

set_option maxRecDepth 100000 in
set_option maxHeartbeats 4000000 in
theorem mul_any (A A' : Option Addr) (c c' : Nat) (a b : List Int) (ha : Bits a) (hb : Bits b) (la : a.length ≤ 1000) (lb : b.length ≤ 1000) (w : World) (hra : Rd w.heap.size w A a) (hrb : Rd w.heap.size w A' b) :
    Calls Try.prog 26 #[.slice A a.length c, .slice A' b.length c'] w fun e w' => Row w e w' (digs (val a * val b) (a.length + b.length)) := by
  obtain ⟨i0, hi, hz0, hz1, hz2⟩ := info_parts info_u64
  have hb8 : i0.bytes * (a.length + b.length) ≤ 281474976710656 := by rw [hz2]; omega
  have hB8 := Lib.hid hb8
  clear hb8
  refine (callsIn_wide (n := 3)).1 ?_
  refine callsIn_of_wp_marks Try.func26 rfl trivial ?_ rfl
  simp only [Try.ntmps26, List.size_toArray, List.length_cons, List.length_nil, Nat.reduceAdd, Nat.reduceSub, Array.replicate_succ, Array.replicate_zero, List.push_toArray, List.append_toArray, List.nil_append, List.cons_append]
  gi_wp2_with (first
    | (gi_at_make; refine wpListIn_make_full _ rfl _ _ 24 rfl w.heap.size 22 i0 (.int .u64 0) 1 Try.underlying24 hi hz0 hz1 .i64 .i64 _ _ (a.length + b.length) rfl rfl (by omega) (by omega) hB8.out (by simp only [maxLen]; omega) (Nat.le_refl _) ?_; intro w1 hown1 hgrow1)
    | (refine ⟨trivial, ?_⟩; gi_at_call 33; refine (prods_in _ _ _ _ _ _ _ _).mono ?_; rintro e w' ⟨rfl, rfl⟩))
  have hb1 : Below w.heap.size w w1 := (Below.refl _ w).grown hgrow1 (Nat.le_refl _) (fun k e => by cases e)
  have hg1 : w.heap.size < w1.heap.size := (hown1.lt w.heap.size rfl).2
  have hmm : a.length * b.length ≤ 1000000 := Nat.le_trans (Nat.mul_le_mul la lb) (by omega)
  simp only [Value.cells, toList_madeCells_one, Nat.mul_one] at hown1
  have hown1' : w1.ownsRow w.heap.size 22 1 (.slice (some ⟨w.heap.size, 0, none⟩) (a.length + b.length) (a.length + b.length)) (a.length + b.length) ((List.replicate (a.length + b.length) (0 : Int)).map (Value.int .u64)) := by simpa using hown1
  obtain ⟨V0, hV0⟩ : ∃ V0, V0 = Value.slice (some ⟨w.heap.size, 0, none⟩) (a.length + b.length) (a.length + b.length) := ⟨_, rfl⟩
  have b0 := ((Boxed.new w1 24 V0).alloc (.cells #[.slice A a.length c] 24)).alloc (.cells #[.slice A' b.length c'] 24)
  have ba := (Boxed.new (w1.alloc (.cells #[V0] 24)) 24 (.slice A a.length c)).alloc (.cells #[.slice A' b.length c'] 24)
  have bb := Boxed.new ((w1.alloc (.cells #[V0] 24)).alloc (.cells #[.slice A a.length c] 24)) 24 (.slice A' b.length c')
  have r0 := ((hown1'.alloc (.cells #[V0] 24)).alloc (.cells #[.slice A a.length c] 24)).alloc (.cells #[.slice A' b.length c'] 24)
  have hB0 : Below w.heap.size w (((w1.alloc (.cells #[V0] 24)).alloc (.cells #[.slice A a.length c] 24)).alloc (.cells #[.slice A' b.length c'] 24)) :=
    ((hb1.alloc hb1.size _).alloc (by simp; omega) _).alloc (by simp; omega) _
  simp only [World.size_alloc] at ba bb
  subst hV0
  refine wpIn_rangeFunc_ownG rfl (by omega) (gf := 36) (lb := #[.pointer (some ⟨w1.heap.size + 1, 0, none⟩), .pointer (some ⟨w1.heap.size + 1 + 1, 0, none⟩)]) rfl trivial (enters_of Try.func36 (by kernel_rfl) rfl)
    (prods_stops (3 - 1) (by omega) (w1.heap.size + 1) (w1.heap.size + 1 + 1) w.heap.size A A' c c' a b ha hb la lb _ (by simp; omega) ba bb (hra.below hB0) (hrb.below hB0)) (fun h k => h.trans k) (KeepsAB.book (by simp; omega) (by simp <;> omega) (by simp <;> omega)) (Below.refl _ _) (fun _ => rfl)
    (fun pre W => ((∃ cs, Count pre cs ∧ W.ownsRow w.heap.size 22 1 (.slice (some ⟨w.heap.size, 0, none⟩) (a.length + b.length) (a.length + b.length)) (a.length + b.length) (cs.map (Value.int .u64))) ∧
      Boxed W w1.heap.size 24 (.slice (some ⟨w.heap.size, 0, none⟩) (a.length + b.length) (a.length + b.length)) ∧ Boxed W (w1.heap.size + 1) 24 (.slice A a.length c) ∧ Boxed W (w1.heap.size + 1 + 1) 24 (.slice A' b.length c')) ∧ Below w.heap.size w W)
    (fun _ _ _ => False)
    (OwnFrom.and (OwnFrom.and (Own.from (own_ex fun cs : List Int => own_and (p := fun pre => Count pre cs) (rowed_own w.heap.size w.heap.size (fun _ => a.length + b.length) (fun _ => a.length + b.length) (fun _ => cs.map (Value.int .u64)))) _) (OwnFrom.and (Own.from (boxed_own _ _ _) _) (OwnFrom.and (Own.from (boxed_own _ _ _) _) (Own.from (boxed_own _ _ _) _)))) (ownFrom_below (Nat.le_refl _) (by simp; omega)))
    (fun _ _ _ _ _ hs _ _ => hs)
    ⟨⟨⟨_, Count.zero, r0⟩, b0, ba, bb⟩, hB0⟩
    ?_ ?assign ?body ?done ?stop
  case assign =>
    intro l x W K hK
    gi_wp2
    exact hK
  case body =>
    rintro l pre ⟨⟨i, v⟩, hp⟩ W ⟨⟨⟨cs, hcnt, hrow⟩, h1, h2, h3⟩, hB⟩ hlt
    have hil : i < a.length + b.length := hp.1
    have hv01 : v = 0 ∨ v = 1 := hp.2
    have hxi : cs[i]? = some (cs[i]'(by rw [hcnt.1]; exact hil)) := List.getElem?_eq_getElem _
    generalize cs[i]'(by rw [hcnt.1]; exact hil) = x at hxi
    have hbd := hcnt.2.1 x (List.mem_of_getElem? hxi)
    have hcell : W.cell? ⟨w.heap.size, i, none⟩ = some (.int .u64 x) := by rw [hrow.cellAt i (by omega), List.getElem?_map, hxi]; rfl
    have hfz := hrow.frozenAt i
    have hC := Lib.hid (hcnt.step hp hxi (by omega))
    have hst := hrow.stored i (.int .u64 (x + v))
    rw [← List.map_set] at hst
    have hST := Lib.hid hst
    have hc := h1.cell
    clear hxi hst hcnt
    gi_wp2
    exact ⟨(KeepsOthers.setCell _ _ _).from _, ⟨(Below.refl w.heap.size W).setCell (p := ⟨w.heap.size, i, none⟩) (Nat.le_refl _) _, fun _ h => h.kept hST.out.2 (by simp; omega), fun _ h => h.kept hST.out.2 (by simp; omega)⟩,
      ⟨⟨_, hC.out, hST.out.1⟩, h1.kept hST.out.2 (by simp; omega), h2.kept hST.out.2 (by simp; omega), h3.kept hST.out.2 (by simp; omega)⟩, hB.setCell (p := ⟨w.heap.size, i, none⟩) (Nat.le_refl _) _⟩
  case done =>
    rintro D ys W hD hS ⟨⟨⟨cs, hcnt, hrow⟩, h1, _, _⟩, hB⟩ hK
    simp only [World.size_alloc] at hD
    have hcar := Lib.hid (Carried.start hcnt hS)
    clear hcnt hS hown1 hown1' b0 ba bb r0 hB0
    have hc := h1.cell
    gi_wp2
    gi_loopw [8, 32] (fun cr i wr => ∃ (k : Nat) (cs : List Int) (cv : Int), k ≤ a.length + b.length ∧ i = .int .i64 k ∧ cr = .int .u64 cv ∧ Hid (Carried (val a * val b) (a.length + b.length) k cv cs) ∧
      wr.ownsRow w.heap.size 22 1 (.slice (some ⟨w.heap.size, 0, none⟩) (a.length + b.length) (a.length + b.length)) (a.length + b.length) (cs.map (Value.int .u64)) ∧
      Boxed wr w1.heap.size 24 (.slice (some ⟨w.heap.size, 0, none⟩) (a.length + b.length) (a.length + b.length)) ∧ wr.heap[D]? = some (.deferred (some [])) ∧ Below w.heap.size w wr) (fun _ i _ => a.length + b.length - (intOf i).toNat)
    case atStart => exact ⟨0, cs, 0, Nat.zero_le _, rfl, rfl, hcar, hrow, h1, hK, hB⟩
    case round =>
      obtain ⟨k, cs, cv, hk, rfl, rfl, hcar, hrow, h1, hK, hB⟩ := hrel
      have hc := h1.cell
      by_cases hlt : k < a.length + b.length
      · have hxk : cs[k]? = some (cs[k]'(by rw [hcar.out.1]; exact hlt)) := List.getElem?_eq_getElem _
        generalize cs[k]'(by rw [hcar.out.1]; exact hlt) = x at hxk
        have hbx := hcar.out.2.2.1 x (List.mem_of_getElem? hxk)
        have hbc1 : 0 ≤ cv := hcar.out.2.2.2.1
        have hbc2 : cv ≤ 1000000 := hcar.out.2.2.2.2.1
        have hcell : wr.cell? ⟨w.heap.size, k, none⟩ = some (.int .u64 x) := by rw [hrow.cellAt k (by omega), List.getElem?_map, hxk]; rfl
        have hfz := hrow.frozenAt k
        have hC := Lib.hid (hcar.out.step hxk)
        have hst := hrow.stored k (.int .u64 ((x + cv) % 2))
        rw [← List.map_set] at hst
        have hST := Lib.hid hst
        have hand := and_one_u64 (x + cv) (by omega) (by omega)
        clear hxk hst
        gi_wp2
        go_roundw
        case rel => exact ⟨k + 1, _, _, by omega, by simp, rfl, hC, hST.out.1, h1.kept hST.out.2 (by simp; omega), (hST.out.2.block D (Array.getElem?_eq_some_iff.1 hK).1 (by simp; omega)).trans hK, hB.setCell (p := ⟨w.heap.size, k, none⟩) (Nat.le_refl _) _⟩
        case measure => simp [intOf]; omega
      · obtain rfl : k = a.length + b.length := by omega
        have hfin := Lib.hid (hcar.out.done (prod_lt ha hb))
        gi_wp2
        refine ⟨by simp, .inl ⟨_, _, rfl, run_takeDeferred hK, ?_⟩⟩
        refine ⟨_, results_tmp rfl _ _ _, some ⟨w.heap.size, 0, none⟩, a.length + b.length, by rw [digs_length]; rfl, ?_, hB.trans (belowK_b (w := w) (Nat.le_refl _) _ D _ _ (by omega) hK rfl rfl)⟩
        rw [← hfin.out]
        exact Rd.of_own (base := w.heap.size) (n := a.length + b.length) (c := a.length + b.length) (ownsRow_putObj hrow (.deferred none) hK rfl)
  case stop =>
    rintro D c pre W _ _ h _
    exact h.elim

end Go.Proofs.Ytcjibadnhhnpmaa
