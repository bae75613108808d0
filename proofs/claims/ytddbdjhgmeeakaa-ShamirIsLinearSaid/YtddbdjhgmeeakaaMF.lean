/- Texts joined: WMat, WOps, WOpsS, WScl, WLoc. Each says its own conditions. -/
import Derived.Test.YtddbdjhgmeeakaaME
import Derived.Test.YtddbdjhgmeeakaaWZero
import Derived.Test.YtddbdjhgmeeakaaMC
import Derived.StillTailTactics
import Derived.RangeFuncBox
/- Rows of words that a call fills one by one in a matrix of its own; Shares of package shamir. Conditions: as said. -/
namespace Go.Proofs.Ytddbdjhgmeeakaa
set_option maxRecDepth 100000
open Go.RowKit PolyMath FieldMath MatMath

/-- The first k of N rows, the others empty. -/
def rws (f : Nat → List Int) (N k : Nat) : List (List Int) := (List.range N).map fun i => if i < k then f i else []
theorem rws_len (f : Nat → List Int) (N k : Nat) : (rws f N k).length = N := by unfold rws; simp
theorem rws_get (f : Nat → List Int) {N k i : Nat} (h : i < N) : (rws f N k)[i]? = some (if i < k then f i else []) := by
  unfold rws
  rw [List.getElem?_map, List.getElem?_range h]; rfl
theorem rws_next (f : Nat → List Int) {N k : Nat} (h : k < N) : (rws f N k).set k (f k) = rws f N (k + 1) := by
  apply List.ext_getElem?
  intro i
  by_cases hi : i < N
  · by_cases e : i = k
    · subst e
      rw [List.getElem?_set_self (by rw [rws_len]; exact hi), rws_get f hi, if_pos (Nat.lt_succ_self i)]
    · rw [List.getElem?_set_ne (fun q => e q.symm), rws_get f hi, rws_get f hi]
      by_cases h2 : i < k
      · rw [if_pos h2, if_pos (by omega)]
      · rw [if_neg h2, if_neg (by omega)]
  · rw [List.getElem?_eq_none (by rw [List.length_set, rws_len]; omega), List.getElem?_eq_none (by rw [rws_len]; omega)]
theorem rws_all (f : Nat → List Int) (N : Nat) : rws f N N = (List.range N).map f := by
  unfold rws
  refine List.map_congr_left fun i hi => ?_
  rw [if_pos (List.mem_range.1 hi)]
theorem MP.begin {base N : Nat} {w : World} {v : Value} {vs : List Value} (f : Nat → List Int) (h : w.ownsRow base 23 1 v N vs) : MP base w v N 0 vs (rws f N 0) :=
  ⟨h, rws_len _ _ _, Nat.zero_le _, fun _ hi => absurd hi (Nat.not_lt_zero _), fun _ _ _ _ _ hi => absurd hi (Nat.not_lt_zero _)⟩
/-- A row in new memory is laid at the next place. -/
theorem MP.put {base N k g c : Nat} {w w' : World} {vs : List Value} {f : Nat → List Int} {u : Value} (h : MP base w (.slice (some ⟨g, 0, none⟩) N c) N k vs (rws f N k)) (hk : k < N) (hb : Below w.heap.size w w')
    (ho : w'.ownsRow base 22 1 u (f k).length ((f k).map (Value.int .u64))) (hn : ∀ b, u.ownBlock = some b → w.heap.size ≤ b) : MP base (w'.setCell ⟨g, k, none⟩ u) (.slice (some ⟨g, 0, none⟩) N c) N (k + 1) (vs.set k u) (rws f N (k + 1)) := by
  rw [← rws_next f hk]
  exact h.lay (Nat.le_refl _) hk (by omega) (grown_of hb none) (fun b e => by cases e) ho fun b e => .inl (hn b e)
/-- A call hands back a matrix. -/
def Rows2 (w : World) (e : Ending) (w' : World) (N : Nat) (rows : List (List Int)) : Prop := ∃ A c, e = .returned (.slice A N c) ∧ rows.length = N ∧ Sll w' A c rows ∧ Below w.heap.size w w'
/-- A call hands back words in new memory. -/
def RowO (w : World) (e : Ending) (w' : World) (n : Nat) (xs : List Int) : Prop := ∃ v, e = .returned v ∧ xs.length = n ∧ w'.ownsRow w.heap.size 22 1 v n (xs.map (Value.int .u64)) ∧ Below w.heap.size w w'

theorem shr_fill (p : Int) (q : List Int) (n : Nat) : fillL (fun i : Nat => pev p q ((i : Int) + 1)) n n = shr p q n := by rw [fillL_done]; rfl
set_option maxHeartbeats 2000000 in
theorem shares_row (p : Int) (hp : OkP p) (n : Int) (N : Nat) (hN : N = n.toNat) (hN9 : N ≤ 100) (hn : (N : Int) < p) (A : Option Addr) (c : Nat) (q : List Int) (hq : El p q) (hl : q.length ≤ 400) (w : World) (h : Sl w A c q) :
    Calls Try.prog 15 #[.int .u64 p, .int .i64 n, .slice A q.length c] w fun e w' => ∃ A' c', e = .returned (.slice A' N c') ∧ Sl w' A' c' (shr p q N) ∧ Below w.heap.size w w' := by
  obtain ⟨i0, hi, hz0, hz1, hz2⟩ := info_parts info_u64
  have hbd := hp.bd
  have hb8 : i0.bytes * N ≤ 281474976710656 := by rw [hz2]; omega
  have hB8 := Lib.hid hb8
  have hD := Lib.hid (shr_fill p q N)
  have hmx : (n < 0 ∧ N = 0) ∨ (0 ≤ n ∧ n = (N : Int)) := by omega
  clear hb8 hN
  rcases hmx with ⟨hneg, rfl⟩ | ⟨hpos, rfl⟩
  · go_enter Try.func15, Try.ntmps15
    go_wp2_with (at_make; refine wpList_make_full _ rfl _ _ 23 rfl w.heap.size 22 i0 (.int .u64 0) 1 Try.underlying23 hi hz0 hz1 .i64 .i64 _ _ 0 rfl rfl (by omega) (by omega) hB8.out (by simp only [maxLen]; omega) (Nat.le_refl _) ?_; intro w1 hown1 hgrow1)
    have hb1 : Below w.heap.size w w1 := (Below.refl _ w).grown hgrow1 (Nat.le_refl _) (fun k e => by cases e)
    go_loopw [14] (fun i wr => i = .int .i64 0 ∧ wr = w1) (fun i _ => 0)
    case atStart => exact ⟨rfl, rfl⟩
    case round =>
      obtain ⟨rfl, rfl⟩ := hrel
      go_wp2
      go_ret
      exact ⟨_, _, rfl, Sl.blank _ _ _, hb1⟩
  · go_enter Try.func15, Try.ntmps15
    go_wp2_with (at_make; refine wpList_make_full _ rfl _ _ 23 rfl w.heap.size 22 i0 (.int .u64 0) 1 Try.underlying23 hi hz0 hz1 .i64 .i64 _ _ N rfl rfl (by omega) (by omega) hB8.out (by simp only [maxLen]; omega) (Nat.le_refl _) ?_; intro w1 hown1 hgrow1)
    have hb1 : Below w.heap.size w w1 := (Below.refl _ w).grown hgrow1 (Nat.le_refl _) (fun k e => by cases e)
    simp only [Value.cells, toList_madeCells_one, Nat.mul_one] at hown1
    have hown2 : OwnAt w1 w.heap.size w.heap.size N N (fillL (fun i : Nat => pev p q ((i : Int) + 1)) N 0) := by
      unfold OwnAt; rw [fillL_start]; simpa using hown1
    clear hown1 hgrow1
    go_loopw [14] (fun i wr => ∃ k : Nat, k ≤ N ∧ i = .int .i64 k ∧ OwnAt wr w.heap.size w.heap.size N N (fillL (fun i : Nat => pev p q ((i : Int) + 1)) N k) ∧ Below w.heap.size w wr) (fun i _ => N - (intOf i).toNat)
    case atStart => exact ⟨0, Nat.zero_le _, rfl, hown2, hb1⟩
    case round =>
      obtain ⟨k, hk, rfl, hO, hB⟩ := hrel
      by_cases hlt : k < N
      · have hkN : (k : Int) < N := by omega
        have hS := Lib.hid (fillL_set (fun i : Nat => pev p q ((i : Int) + 1)) N k)
        have hG := fillL_get (fun i : Nat => pev p q ((i : Int) + 1)) N k k hlt
        have hev := eval_any p ((k : Int) + 1) hp (by omega) A c q hq hl wr (h.next hB)
        have wk : IntKind.u64.wrap (k : Int) = (k : Int) := IntWalk.u64_in _ (by omega)
        have wk1 : IntKind.u64.wrap ((k : Int) + 1) = (k : Int) + 1 := IntWalk.u64_in _ (by omega)
        have HO := Lib.hid hO
        have hsz := hB.size
        clear hO
        go_wp2_with (go_at_call 18; refine hev.mono ?_; rintro e w3 ⟨rfl, hb3⟩; have hO3 := HO.out.next hb3; have hcell := hO3.cell hG; have hfz := hO3.frozen k; have hput := Lib.hid (hO3.put k (pev p q ((k : Int) + 1))); have hB3 := Lib.hid ((hB.trans (hb3.mono hsz)).setCell (p := ⟨w.heap.size, k, none⟩) (Nat.le_refl _) (.int .u64 (pev p q ((k : Int) + 1)))))
        go_roundw
        case rel => exact ⟨k + 1, by omega, by simp, by rw [← hS.out]; exact hput.out, hB3.out⟩
        case measure => simp [intOf]; omega
      · obtain rfl : k = N := by omega
        rw [hD.out] at hO
        have hs3 := Lib.hid hO.sl
        go_wp2
        go_ret
        exact ⟨_, _, rfl, hs3.out, hB⟩
end Go.Proofs.Ytddbdjhgmeeakaa

/- Add, Sub, Scale, Constant of package shamir, by the generic function that combines two lists: new matrices. Conditions: a supported prime, words of its field, sharings of one shape, at most 100 rows and words in a row. -/
namespace Go.Proofs.Ytddbdjhgmeeakaa
set_option maxRecDepth 100000
open Go.RowKit PolyMath FieldMath MatMath

/-- Two lists word by word. -/
def zipF (op : Int → Int → Int) (a b : List Int) (n : Nat) : List Int := (List.range n).map fun i => op (co a i) (co b i)
theorem zipF_len (op : Int → Int → Int) (a b : List Int) (n : Nat) : (zipF op a b n).length = n := by unfold zipF; simp

/-- A matrix all of whose rows have n words of the field. -/
def Msh (p : Int) (n : Nat) (ra : List (List Int)) : Prop := ∀ i, i < ra.length → (ro ra i).length = n ∧ El p (ro ra i)

theorem clAdd_any (p a b : Int) (hp : OkP p) (ha0 : 0 ≤ a) (ha : a < p) (hb0 : 0 ≤ b) (hb : b < p) (B : Nat) (w : World) (bx : Boxed w B 22 (.int .u64 p)) :
    Calls Try.prog 59 #[.int .u64 a, .int .u64 b, .pointer (some ⟨B, 0, none⟩)] w fun e w' => e = .returned (.int .u64 (fadd p a b)) ∧ w = w' := by
  have hc := bx.cell
  have hf := add_any p a b hp ha0 ha hb0 hb w
  go_enter Try.func59, Try.ntmps59
  go_wp2_with (go_at_call 26; refine hf.mono ?_; rintro e w' ⟨rfl, rfl⟩)
  go_ret
  exact ⟨rfl, rfl⟩

set_option maxHeartbeats 4000000 in
theorem rowAdd_own (p : Int) (hp : OkP p) (n : Nat) (hn : n ≤ 100) (A B : Option Addr) (ca cb Bx : Nat) (a b : List Int) (ha : El p a) (hb : El p b) (la : a.length = n) (lb : b.length = n) (w : World) (sa : Sl w A ca a) (sb : Sl w B cb b) (bx : Boxed w Bx 22 (.int .u64 p)) :
    Calls Try.prog 85 #[.slice A n ca, .slice B n cb, .func (.func 59) #[] #[.pointer (some ⟨Bx, 0, none⟩)]] w fun e w' => RowO w e w' n (zipF (fadd p) a b n) := by
  obtain ⟨i0, hi, hz0, hz1, hz2⟩ := info_parts info_u64
  have hbd := hp.bd
  have hb8 : i0.bytes * n ≤ 281474976710656 := by rw [hz2]; omega
  have hB8 := Lib.hid hb8
  have hD : Hid (fillL (fun i => fadd p (co a i) (co b i)) n n = zipF (fadd p) a b n) := Lib.hid (fillL_done _ _)
  have hcl := fun (x y : Int) h1 h2 h3 h4 W bx => clAdd_any p x y hp h1 h2 h3 h4 Bx W bx
  have hbl := bx.lt
  have LA := Lib.hid la
  have LB := Lib.hid lb
  clear hb8 la lb
  go_enter Try.func85, Try.ntmps85
  go_wp2_with (at_make; refine wpList_make_full _ rfl _ _ 23 rfl w.heap.size 22 i0 (.int .u64 0) 1 Try.underlying23 hi hz0 hz1 .i64 .i64 _ _ n rfl rfl (by omega) (by omega) hB8.out (by simp only [maxLen]; omega) (Nat.le_refl _) ?_; intro w1 hown1 hgrow1)
  have hb1 : Below w.heap.size w w1 := (Below.refl _ w).grown hgrow1 (Nat.le_refl _) (fun k e => by cases e)
  simp only [Value.cells, toList_madeCells_one, Nat.mul_one] at hown1
  have hown2 : OwnAt w1 w.heap.size w.heap.size n n (fillL (fun i => fadd p (co a i) (co b i)) n 0) := by
    unfold OwnAt; rw [fillL_start]; simpa using hown1
  clear hown1 hgrow1
  go_loopw [17] (fun i wr => ∃ k : Nat, k ≤ n ∧ i = .int .i64 k ∧ OwnAt wr w.heap.size w.heap.size n n (fillL (fun i => fadd p (co a i) (co b i)) n k) ∧ Below w.heap.size w wr) (fun i _ => n - (intOf i).toNat)
  case atStart => exact ⟨0, Nat.zero_le _, rfl, hown2, hb1⟩
  case round =>
    obtain ⟨k, hk, rfl, hO, hB⟩ := hrel
    by_cases hlt : k < n
    · have hkN : (k : Int) < n := by omega
      obtain ⟨b1, o1, x, hA1, _, hx, hcx⟩ := (sa.next hB).at_ (k := k) (by rw [LA.out]; exact hlt)
      obtain ⟨b2, o2, y, hA2, _, hy, hcy⟩ := (sb.next hB).at_ (k := k) (by rw [LB.out]; exact hlt)
      subst hA1 hA2
      have hxb := ha x (List.mem_of_getElem? hx)
      have hyb := hb y (List.mem_of_getElem? hy)
      have hS := fillL_set (fun i => fadd p (co a i) (co b i)) n k
      rw [co_at hx, co_at hy] at hS
      have HS := Lib.hid hS
      have hcell := hO.cell (fillL_get (fun i => fadd p (co a i) (co b i)) n k k hlt)
      have hfz := hO.frozen k
      have hput := Lib.hid (hO.put k (fadd p x y)).drew
      have hBE := Lib.hid (hB.setCell (p := ⟨w.heap.size, k, none⟩) (Nat.le_refl _) (.int .u64 (fadd p x y))).drew
      have hbx : Boxed wr Bx 22 (.int .u64 p) := (hB.block _ hbl).trans bx
      have hc1 := hcl x y hxb.1 hxb.2 hyb.1 hyb.2 wr.drew hbx
      clear hS hx hy hO
      go_wp2
      refine wp_region_still_tail 13 (by kernel_rfl) (by kernel_rfl) ?_
      simp only [List.take_succ_cons, List.take_zero, List.drop_succ_cons, List.drop_zero]
      change wpStill _ _ (World.drew _) (fun a' => wpList _ _ _ _ a' (World.drew _)) _ _
      repeat still_step
      still_call (still_of hc1)
      repeat still_step
      refine wpStill_nil ?_
      go_wp2
      go_roundw
      case rel => exact ⟨k + 1, by omega, by simp, by rw [← HS.out]; exact hput.out, hBE.out⟩
      case measure => simp [intOf]; omega
    · obtain rfl : k = n := by omega
      rw [hD.out] at hO
      have HO := Lib.hid hO
      clear hO
      go_wp2
      go_ret
      exact ⟨_, rfl, zipF_len _ _ _ _, HO.out, hB⟩

theorem cmAdd_own (p : Int) (hp : OkP p) (n : Nat) (hn : n ≤ 100) (A B : Option Addr) (ca cb Bx Px : Nat) (a b : List Int) (ha : El p a) (hb : El p b) (la : a.length = n) (lb : b.length = n) (w : World) (sa : Sl w A ca a) (sb : Sl w B cb b) (bx : Boxed w Bx 22 (.int .u64 p))
    (px : Boxed w Px 83 (.func (.func 59) #[] #[.pointer (some ⟨Bx, 0, none⟩)])) :
    Calls Try.prog 84 #[.slice A n ca, .slice B n cb, .pointer (some ⟨Px, 0, none⟩)] w fun e w' => RowO w e w' n (zipF (fadd p) a b n) := by
  have hc := px.cell
  have hr := rowAdd_own p hp n hn A B ca cb Bx a b ha hb la lb w sa sb bx
  clear la lb
  go_enter Try.func84, Try.ntmps84
  go_wp2_with (go_at_call 85; refine hr.mono ?_; rintro e w1 ⟨v, rfl, hl, ho, hB⟩; have HL := Lib.hid hl; clear hl)
  go_ret
  exact ⟨v, rfl, HL.out, ho, hB⟩

set_option maxHeartbeats 8000000 in
theorem matAdd_row (p : Int) (hp : OkP p) (n N : Nat) (hn : n ≤ 100) (hN : N ≤ 100) (A B : Option Addr) (ca cb Bx Px : Nat) (ra rb : List (List Int)) (ha : Msh p n ra) (hb : Msh p n rb) (la : ra.length = N) (lb : rb.length = N) (w : World) (sa : Sll w A ca ra) (sb : Sll w B cb rb) (bx : Boxed w Bx 22 (.int .u64 p))
    (px : Boxed w Px 83 (.func (.func 59) #[] #[.pointer (some ⟨Bx, 0, none⟩)])) :
    Calls Try.prog 83 #[.slice A N ca, .slice B N cb, .func (.func 84) #[] #[.pointer (some ⟨Px, 0, none⟩)]] w fun e w' => Rows2 w e w' N ((List.range N).map fun i => zipF (fadd p) (ro ra i) (ro rb i) n) := by
  obtain ⟨i0, hi, hz0, hz1, hz2⟩ := info_parts info_sl
  have hb8 : i0.bytes * N ≤ 281474976710656 := by rw [hz2]; omega
  have hB8 := Lib.hid hb8
  have hcm := fun A B ca cb (a b : List Int) (ha : El p a) (hb : El p b) (la : a.length = n) (lb : b.length = n) W sa sb bx px => cmAdd_own p hp n hn A B ca cb Bx Px a b ha hb la lb W sa sb bx px
  have hbl := bx.lt
  have hpl := px.lt
  have LA := Lib.hid la
  have LB := Lib.hid lb
  obtain ⟨f, hf⟩ : ∃ f : Nat → List Int, f = fun i => zipF (fadd p) (ro ra i) (ro rb i) n := ⟨_, rfl⟩
  have hfl : ∀ k, (f k).length = n := fun k => by rw [hf]; exact zipF_len _ _ _ _
  have HFL := Lib.hid hfl
  have hfk : ∀ k, f k = zipF (fadd p) (ro ra k) (ro rb k) n := fun k => by rw [hf]
  have HFK := Lib.hid hfk
  rw [← hf]
  clear hb8 la lb hf hfl hfk
  go_enter Try.func83, Try.ntmps83
  go_wp2_with (at_make; refine wpList_make_full _ rfl _ _ 56 rfl w.heap.size 23 i0 (.slice none 0 0) 1 Try.underlying56 hi hz0 hz1 .i64 .i64 _ _ N rfl rfl (by omega) (by omega) hB8.out (by simp only [maxLen]; omega) (Nat.le_refl _) ?_; intro w1 hown1 hgrow1)
  have hb1 : Below w.heap.size w w1 := (Below.refl _ w).grown hgrow1 (Nat.le_refl _) (fun k e => by cases e)
  have hM1 := MP.begin f hown1
  clear hown1 hgrow1
  go_loopw [17] (fun i wr => ∃ (k : Nat) (vs : List Value), k ≤ N ∧ i = .int .i64 k ∧ MP w.heap.size wr (.slice (some ⟨w.heap.size, 0, none⟩) N N) N k vs (rws f N k) ∧ Below w.heap.size w wr) (fun i _ => N - (intOf i).toNat)
  case atStart => exact ⟨0, _, Nat.zero_le _, rfl, hM1, hb1⟩
  case round =>
    clear hM1 hb1
    obtain ⟨k, vs, hk, rfl, hM, hB⟩ := hrel
    by_cases hlt : k < N
    · have hkN : (k : Int) < N := by omega
      obtain ⟨b1, o1, A1, c1, hA1, hbl1, hc1, hs1⟩ := sa.rowAt (i := k) (L := n) (by rw [LA.out]; exact hlt) (ha k (by rw [LA.out]; exact hlt)).1
      obtain ⟨b2, o2, A2, c2, hA2, hbl2, hc2, hs2⟩ := sb.rowAt (i := k) (L := n) (by rw [LB.out]; exact hlt) (hb k (by rw [LB.out]; exact hlt)).1
      subst hA1 hA2
      have d1 := (hB.cell (p := ⟨b1, o1 + k, none⟩) hbl1).trans hc1
      have d2 := (hB.cell (p := ⟨b2, o2 + k, none⟩) hbl2).trans hc2
      have hw := hcm A1 A2 c1 c2 (ro ra k) (ro rb k) (ha k (by rw [LA.out]; exact hlt)).2 (hb k (by rw [LB.out]; exact hlt)).2 (ha k (by rw [LA.out]; exact hlt)).1 (hb k (by rw [LB.out]; exact hlt)).1 wr.drew (hs1.next hB.drew) (hs2.next hB.drew) ((hB.block _ hbl).trans bx) ((hB.block _ hpl).trans px)
      rw [← HFK.out k] at hw
      have hne1 : some b1 ≠ some w.heap.size := fun e => by injection e with e; omega
      have hne2 : some b2 ≠ some w.heap.size := fun e => by injection e with e; omega
      have hvl := hM.vlen
      obtain ⟨u0, hu0⟩ : ∃ u, vs[k]? = some u := ⟨_, List.getElem?_eq_getElem (by omega)⟩
      have HM := Lib.hid hM
      have hsz := hB.size
      clear hM hvl hcm
      go_wp2_with fail
      go_region_held3 (fun w' => w'.cell? ⟨b1, o1 + k, none⟩ = some (.slice A1 n c1) ∧ w'.cell? ⟨b2, o2 + k, none⟩ = some (.slice A2 n c2))
        (first | (refine ⟨?_, ?_⟩ <;> assumption) | exact ⟨r1, r2⟩)
        (first | (go_at_call 84; (with_reducible refine hw.mono ?_); clear hw; rintro e w8 ⟨v8, rfl, hl8, ho8, hb8'⟩; have hb8 : Below wr.heap.size wr w8 := (Below.refl _ wr).drew.trans (hb8'.mono (Nat.le_refl _)); obtain ⟨A8, c8, hv8, _⟩ := own_form ho8; rw [hl8] at hv8; subst hv8; have hM8 := HM.out.next hb8; have hu8 := hM8.cell hlt hu0; have hfz8 := World.ownsRow.frozenAt hM8.head k; have hst8 := (World.ownsRow.stored hM8.head k (.slice A8 n c8)).2; have q1 := (hb8.cell (p := ⟨b1, o1 + k, none⟩) (Nat.lt_of_lt_of_le hbl1 hsz)).trans d1; have q2 := (hb8.cell (p := ⟨b2, o2 + k, none⟩) (Nat.lt_of_lt_of_le hbl2 hsz)).trans d2; have r1 := hst8.cell q1 hne1; have r2 := hst8.cell q2 hne2; have HP8 := Lib.hid (HM.out.put hlt hb8 (by rw [hl8]; exact own_base ho8 hsz) (fun b e => (World.ownsRow.lt ho8 b e).1)); have HB8 := Lib.hid ((hB.trans (hb8.mono hsz)).setCell (p := ⟨w.heap.size, k, none⟩) (Nat.le_refl _) (.slice A8 n c8)); clear hl8 ho8 hM8 hst8))
      all_goals
        go_wp2
        go_roundw
        case rel => exact ⟨k + 1, _, by omega, by simp, HP8.out, HB8.out⟩
        case measure => simp [intOf]; omega
    · obtain rfl : k = N := by omega
      have hS := hM.form
      rw [rws_all] at hS
      obtain ⟨A9, c9, hv, hS9⟩ := hS
      have HV := Lib.hid hv
      have HS := Lib.hid hS9
      clear hv hS9 hM
      go_wp2
      go_ret
      exact ⟨A9, c9, congrArg Ending.returned HV.out, by simp, HS.out, hB⟩

theorem add_mat (p : Int) (hp : OkP p) (n N : Nat) (hn : n ≤ 100) (hN : N ≤ 100) (A B : Option Addr) (ca cb : Nat) (ra rb : List (List Int)) (ha : Msh p n ra) (hb : Msh p n rb) (la : ra.length = N) (lb : rb.length = N) (w : World) (sa : Sll w A ca ra) (sb : Sll w B cb rb) :
    Calls Try.prog 31 #[.int .u64 p, .slice A N ca, .slice B N cb] w fun e w' => Rows2 w e w' N ((List.range N).map fun i => zipF (fadd p) (ro ra i) (ro rb i) n) := by
  have hm := fun Bx Px W sa sb bx px => matAdd_row p hp n N hn hN A B ca cb Bx Px ra rb ha hb la lb W sa sb bx px
  have hcs : ∀ Bx W, Sll W A ca ra → Sll W B cb rb → Boxed W Bx 22 (.int .u64 p) → Calls Try.prog 58 #[.slice A N ca, .slice B N cb, .func (.func 59) #[] #[.pointer (some ⟨Bx, 0, none⟩)]] W fun e w' => Rows2 W e w' N ((List.range N).map fun i => zipF (fadd p) (ro ra i) (ro rb i) n) := fun Bx W sa sb bx => by
    have h1 := hm Bx W.heap.size _ (sa.push (.cells #[.func (.func 59) #[] #[.pointer (some ⟨Bx, 0, none⟩)]] 83)) (sb.push _) (bx.alloc _) (Boxed.new W _ _)
    have hB0 := (Below.refl W.heap.size W).alloc (Nat.le_refl _) (.cells #[.func (.func 59) #[] #[.pointer (some ⟨Bx, 0, none⟩)]] 83)
    have hsz := hB0.size
    clear la lb hm
    go_enter Try.func58, Try.ntmps58
    go_wp2_with fail
    refine h1.mono ?_
    rintro e w1 ⟨A9, c9, rfl, hl, hs, hB⟩
    have HL := Lib.hid hl
    have HS := Lib.hid hs
    clear hl hs
    go_wp2
    go_ret
    exact ⟨A9, c9, rfl, HL.out, HS.out, hB0.trans (hB.mono hsz)⟩
  have h1 := hcs w.heap.size _ (sa.push (.cells #[.int .u64 p] 22)) (sb.push _) (Boxed.new w _ _)
  have hB0 := (Below.refl w.heap.size w).alloc (Nat.le_refl _) (.cells #[.int .u64 p] 22)
  have hsz := hB0.size
  clear la lb hm hcs
  go_enter Try.func31, Try.ntmps31
  go_wp2_with fail
  refine h1.mono ?_
  rintro e w1 ⟨A9, c9, rfl, hl, hs, hB⟩
  have HL := Lib.hid hl
  have HS := Lib.hid hs
  clear hl hs
  go_wp2
  go_ret
  exact ⟨A9, c9, rfl, HL.out, HS.out, hB0.trans (hB.mono hsz)⟩
end Go.Proofs.Ytddbdjhgmeeakaa

/- Sub of package shamir: a new matrix. Conditions: a supported prime, words of its field, sharings of one shape, at most 100 rows and words in a row. -/
namespace Go.Proofs.Ytddbdjhgmeeakaa
set_option maxRecDepth 100000
open Go.RowKit PolyMath FieldMath MatMath

theorem clSub_any (p a b : Int) (hp : OkP p) (ha0 : 0 ≤ a) (ha : a < p) (hb0 : 0 ≤ b) (hb : b < p) (B : Nat) (w : World) (bx : Boxed w B 22 (.int .u64 p)) :
    Calls Try.prog 61 #[.int .u64 a, .int .u64 b, .pointer (some ⟨B, 0, none⟩)] w fun e w' => e = .returned (.int .u64 (fsub p a b)) ∧ w = w' := by
  have hc := bx.cell
  have hf := sub_any p a b hp ha0 ha hb0 hb w
  go_enter Try.func61, Try.ntmps61
  go_wp2_with (go_at_call 42; refine hf.mono ?_; rintro e w' ⟨rfl, rfl⟩)
  go_ret
  exact ⟨rfl, rfl⟩

set_option maxHeartbeats 4000000 in
theorem rowSub_own (p : Int) (hp : OkP p) (n : Nat) (hn : n ≤ 100) (A B : Option Addr) (ca cb Bx : Nat) (a b : List Int) (ha : El p a) (hb : El p b) (la : a.length = n) (lb : b.length = n) (w : World) (sa : Sl w A ca a) (sb : Sl w B cb b) (bx : Boxed w Bx 22 (.int .u64 p)) :
    Calls Try.prog 85 #[.slice A n ca, .slice B n cb, .func (.func 61) #[] #[.pointer (some ⟨Bx, 0, none⟩)]] w fun e w' => RowO w e w' n (zipF (fsub p) a b n) := by
  obtain ⟨i0, hi, hz0, hz1, hz2⟩ := info_parts info_u64
  have hbd := hp.bd
  have hb8 : i0.bytes * n ≤ 281474976710656 := by rw [hz2]; omega
  have hB8 := Lib.hid hb8
  have hD : Hid (fillL (fun i => fsub p (co a i) (co b i)) n n = zipF (fsub p) a b n) := Lib.hid (fillL_done _ _)
  have hcl := fun (x y : Int) h1 h2 h3 h4 W bx => clSub_any p x y hp h1 h2 h3 h4 Bx W bx
  have hbl := bx.lt
  have LA := Lib.hid la
  have LB := Lib.hid lb
  clear hb8 la lb
  go_enter Try.func85, Try.ntmps85
  go_wp2_with (at_make; refine wpList_make_full _ rfl _ _ 23 rfl w.heap.size 22 i0 (.int .u64 0) 1 Try.underlying23 hi hz0 hz1 .i64 .i64 _ _ n rfl rfl (by omega) (by omega) hB8.out (by simp only [maxLen]; omega) (Nat.le_refl _) ?_; intro w1 hown1 hgrow1)
  have hb1 : Below w.heap.size w w1 := (Below.refl _ w).grown hgrow1 (Nat.le_refl _) (fun k e => by cases e)
  simp only [Value.cells, toList_madeCells_one, Nat.mul_one] at hown1
  have hown2 : OwnAt w1 w.heap.size w.heap.size n n (fillL (fun i => fsub p (co a i) (co b i)) n 0) := by
    unfold OwnAt; rw [fillL_start]; simpa using hown1
  clear hown1 hgrow1
  go_loopw [17] (fun i wr => ∃ k : Nat, k ≤ n ∧ i = .int .i64 k ∧ OwnAt wr w.heap.size w.heap.size n n (fillL (fun i => fsub p (co a i) (co b i)) n k) ∧ Below w.heap.size w wr) (fun i _ => n - (intOf i).toNat)
  case atStart => exact ⟨0, Nat.zero_le _, rfl, hown2, hb1⟩
  case round =>
    obtain ⟨k, hk, rfl, hO, hB⟩ := hrel
    by_cases hlt : k < n
    · have hkN : (k : Int) < n := by omega
      obtain ⟨b1, o1, x, hA1, _, hx, hcx⟩ := (sa.next hB).at_ (k := k) (by rw [LA.out]; exact hlt)
      obtain ⟨b2, o2, y, hA2, _, hy, hcy⟩ := (sb.next hB).at_ (k := k) (by rw [LB.out]; exact hlt)
      subst hA1 hA2
      have hxb := ha x (List.mem_of_getElem? hx)
      have hyb := hb y (List.mem_of_getElem? hy)
      have hS := fillL_set (fun i => fsub p (co a i) (co b i)) n k
      rw [co_at hx, co_at hy] at hS
      have HS := Lib.hid hS
      have hcell := hO.cell (fillL_get (fun i => fsub p (co a i) (co b i)) n k k hlt)
      have hfz := hO.frozen k
      have hput := Lib.hid (hO.put k (fsub p x y)).drew
      have hBE := Lib.hid (hB.setCell (p := ⟨w.heap.size, k, none⟩) (Nat.le_refl _) (.int .u64 (fsub p x y))).drew
      have hbx : Boxed wr Bx 22 (.int .u64 p) := (hB.block _ hbl).trans bx
      have hc1 := hcl x y hxb.1 hxb.2 hyb.1 hyb.2 wr.drew hbx
      clear hS hx hy hO
      go_wp2
      refine wp_region_still_tail 13 (by kernel_rfl) (by kernel_rfl) ?_
      simp only [List.take_succ_cons, List.take_zero, List.drop_succ_cons, List.drop_zero]
      change wpStill _ _ (World.drew _) (fun a' => wpList _ _ _ _ a' (World.drew _)) _ _
      repeat still_step
      still_call (still_of hc1)
      repeat still_step
      refine wpStill_nil ?_
      go_wp2
      go_roundw
      case rel => exact ⟨k + 1, by omega, by simp, by rw [← HS.out]; exact hput.out, hBE.out⟩
      case measure => simp [intOf]; omega
    · obtain rfl : k = n := by omega
      rw [hD.out] at hO
      have HO := Lib.hid hO
      clear hO
      go_wp2
      go_ret
      exact ⟨_, rfl, zipF_len _ _ _ _, HO.out, hB⟩

theorem cmSub_own (p : Int) (hp : OkP p) (n : Nat) (hn : n ≤ 100) (A B : Option Addr) (ca cb Bx Px : Nat) (a b : List Int) (ha : El p a) (hb : El p b) (la : a.length = n) (lb : b.length = n) (w : World) (sa : Sl w A ca a) (sb : Sl w B cb b) (bx : Boxed w Bx 22 (.int .u64 p))
    (px : Boxed w Px 83 (.func (.func 61) #[] #[.pointer (some ⟨Bx, 0, none⟩)])) :
    Calls Try.prog 84 #[.slice A n ca, .slice B n cb, .pointer (some ⟨Px, 0, none⟩)] w fun e w' => RowO w e w' n (zipF (fsub p) a b n) := by
  have hc := px.cell
  have hr := rowSub_own p hp n hn A B ca cb Bx a b ha hb la lb w sa sb bx
  clear la lb
  go_enter Try.func84, Try.ntmps84
  go_wp2_with (go_at_call 85; refine hr.mono ?_; rintro e w1 ⟨v, rfl, hl, ho, hB⟩; have HL := Lib.hid hl; clear hl)
  go_ret
  exact ⟨v, rfl, HL.out, ho, hB⟩

set_option maxHeartbeats 8000000 in
theorem matSub_row (p : Int) (hp : OkP p) (n N : Nat) (hn : n ≤ 100) (hN : N ≤ 100) (A B : Option Addr) (ca cb Bx Px : Nat) (ra rb : List (List Int)) (ha : Msh p n ra) (hb : Msh p n rb) (la : ra.length = N) (lb : rb.length = N) (w : World) (sa : Sll w A ca ra) (sb : Sll w B cb rb) (bx : Boxed w Bx 22 (.int .u64 p))
    (px : Boxed w Px 83 (.func (.func 61) #[] #[.pointer (some ⟨Bx, 0, none⟩)])) :
    Calls Try.prog 83 #[.slice A N ca, .slice B N cb, .func (.func 84) #[] #[.pointer (some ⟨Px, 0, none⟩)]] w fun e w' => Rows2 w e w' N ((List.range N).map fun i => zipF (fsub p) (ro ra i) (ro rb i) n) := by
  obtain ⟨i0, hi, hz0, hz1, hz2⟩ := info_parts info_sl
  have hb8 : i0.bytes * N ≤ 281474976710656 := by rw [hz2]; omega
  have hB8 := Lib.hid hb8
  have hcm := fun A B ca cb (a b : List Int) (ha : El p a) (hb : El p b) (la : a.length = n) (lb : b.length = n) W sa sb bx px => cmSub_own p hp n hn A B ca cb Bx Px a b ha hb la lb W sa sb bx px
  have hbl := bx.lt
  have hpl := px.lt
  have LA := Lib.hid la
  have LB := Lib.hid lb
  obtain ⟨f, hf⟩ : ∃ f : Nat → List Int, f = fun i => zipF (fsub p) (ro ra i) (ro rb i) n := ⟨_, rfl⟩
  have hfl : ∀ k, (f k).length = n := fun k => by rw [hf]; exact zipF_len _ _ _ _
  have HFL := Lib.hid hfl
  have hfk : ∀ k, f k = zipF (fsub p) (ro ra k) (ro rb k) n := fun k => by rw [hf]
  have HFK := Lib.hid hfk
  rw [← hf]
  clear hb8 la lb hf hfl hfk
  go_enter Try.func83, Try.ntmps83
  go_wp2_with (at_make; refine wpList_make_full _ rfl _ _ 56 rfl w.heap.size 23 i0 (.slice none 0 0) 1 Try.underlying56 hi hz0 hz1 .i64 .i64 _ _ N rfl rfl (by omega) (by omega) hB8.out (by simp only [maxLen]; omega) (Nat.le_refl _) ?_; intro w1 hown1 hgrow1)
  have hb1 : Below w.heap.size w w1 := (Below.refl _ w).grown hgrow1 (Nat.le_refl _) (fun k e => by cases e)
  have hM1 := MP.begin f hown1
  clear hown1 hgrow1
  go_loopw [17] (fun i wr => ∃ (k : Nat) (vs : List Value), k ≤ N ∧ i = .int .i64 k ∧ MP w.heap.size wr (.slice (some ⟨w.heap.size, 0, none⟩) N N) N k vs (rws f N k) ∧ Below w.heap.size w wr) (fun i _ => N - (intOf i).toNat)
  case atStart => exact ⟨0, _, Nat.zero_le _, rfl, hM1, hb1⟩
  case round =>
    clear hM1 hb1
    obtain ⟨k, vs, hk, rfl, hM, hB⟩ := hrel
    by_cases hlt : k < N
    · have hkN : (k : Int) < N := by omega
      obtain ⟨b1, o1, A1, c1, hA1, hbl1, hc1, hs1⟩ := sa.rowAt (i := k) (L := n) (by rw [LA.out]; exact hlt) (ha k (by rw [LA.out]; exact hlt)).1
      obtain ⟨b2, o2, A2, c2, hA2, hbl2, hc2, hs2⟩ := sb.rowAt (i := k) (L := n) (by rw [LB.out]; exact hlt) (hb k (by rw [LB.out]; exact hlt)).1
      subst hA1 hA2
      have d1 := (hB.cell (p := ⟨b1, o1 + k, none⟩) hbl1).trans hc1
      have d2 := (hB.cell (p := ⟨b2, o2 + k, none⟩) hbl2).trans hc2
      have hw := hcm A1 A2 c1 c2 (ro ra k) (ro rb k) (ha k (by rw [LA.out]; exact hlt)).2 (hb k (by rw [LB.out]; exact hlt)).2 (ha k (by rw [LA.out]; exact hlt)).1 (hb k (by rw [LB.out]; exact hlt)).1 wr.drew (hs1.next hB.drew) (hs2.next hB.drew) ((hB.block _ hbl).trans bx) ((hB.block _ hpl).trans px)
      rw [← HFK.out k] at hw
      have hne1 : some b1 ≠ some w.heap.size := fun e => by injection e with e; omega
      have hne2 : some b2 ≠ some w.heap.size := fun e => by injection e with e; omega
      have hvl := hM.vlen
      obtain ⟨u0, hu0⟩ : ∃ u, vs[k]? = some u := ⟨_, List.getElem?_eq_getElem (by omega)⟩
      have HM := Lib.hid hM
      have hsz := hB.size
      clear hM hvl hcm
      go_wp2_with fail
      go_region_held3 (fun w' => w'.cell? ⟨b1, o1 + k, none⟩ = some (.slice A1 n c1) ∧ w'.cell? ⟨b2, o2 + k, none⟩ = some (.slice A2 n c2))
        (first | (refine ⟨?_, ?_⟩ <;> assumption) | exact ⟨r1, r2⟩)
        (first | (go_at_call 84; (with_reducible refine hw.mono ?_); clear hw; rintro e w8 ⟨v8, rfl, hl8, ho8, hb8'⟩; have hb8 : Below wr.heap.size wr w8 := (Below.refl _ wr).drew.trans (hb8'.mono (Nat.le_refl _)); obtain ⟨A8, c8, hv8, _⟩ := own_form ho8; rw [hl8] at hv8; subst hv8; have hM8 := HM.out.next hb8; have hu8 := hM8.cell hlt hu0; have hfz8 := World.ownsRow.frozenAt hM8.head k; have hst8 := (World.ownsRow.stored hM8.head k (.slice A8 n c8)).2; have q1 := (hb8.cell (p := ⟨b1, o1 + k, none⟩) (Nat.lt_of_lt_of_le hbl1 hsz)).trans d1; have q2 := (hb8.cell (p := ⟨b2, o2 + k, none⟩) (Nat.lt_of_lt_of_le hbl2 hsz)).trans d2; have r1 := hst8.cell q1 hne1; have r2 := hst8.cell q2 hne2; have HP8 := Lib.hid (HM.out.put hlt hb8 (by rw [hl8]; exact own_base ho8 hsz) (fun b e => (World.ownsRow.lt ho8 b e).1)); have HB8 := Lib.hid ((hB.trans (hb8.mono hsz)).setCell (p := ⟨w.heap.size, k, none⟩) (Nat.le_refl _) (.slice A8 n c8)); clear hl8 ho8 hM8 hst8))
      all_goals
        go_wp2
        go_roundw
        case rel => exact ⟨k + 1, _, by omega, by simp, HP8.out, HB8.out⟩
        case measure => simp [intOf]; omega
    · obtain rfl : k = N := by omega
      have hS := hM.form
      rw [rws_all] at hS
      obtain ⟨A9, c9, hv, hS9⟩ := hS
      have HV := Lib.hid hv
      have HS := Lib.hid hS9
      clear hv hS9 hM
      go_wp2
      go_ret
      exact ⟨A9, c9, congrArg Ending.returned HV.out, by simp, HS.out, hB⟩

theorem sub_mat (p : Int) (hp : OkP p) (n N : Nat) (hn : n ≤ 100) (hN : N ≤ 100) (A B : Option Addr) (ca cb : Nat) (ra rb : List (List Int)) (ha : Msh p n ra) (hb : Msh p n rb) (la : ra.length = N) (lb : rb.length = N) (w : World) (sa : Sll w A ca ra) (sb : Sll w B cb rb) :
    Calls Try.prog 33 #[.int .u64 p, .slice A N ca, .slice B N cb] w fun e w' => Rows2 w e w' N ((List.range N).map fun i => zipF (fsub p) (ro ra i) (ro rb i) n) := by
  have hm := fun Bx Px W sa sb bx px => matSub_row p hp n N hn hN A B ca cb Bx Px ra rb ha hb la lb W sa sb bx px
  have hcs : ∀ Bx W, Sll W A ca ra → Sll W B cb rb → Boxed W Bx 22 (.int .u64 p) → Calls Try.prog 58 #[.slice A N ca, .slice B N cb, .func (.func 61) #[] #[.pointer (some ⟨Bx, 0, none⟩)]] W fun e w' => Rows2 W e w' N ((List.range N).map fun i => zipF (fsub p) (ro ra i) (ro rb i) n) := fun Bx W sa sb bx => by
    have h1 := hm Bx W.heap.size _ (sa.push (.cells #[.func (.func 61) #[] #[.pointer (some ⟨Bx, 0, none⟩)]] 83)) (sb.push _) (bx.alloc _) (Boxed.new W _ _)
    have hB0 := (Below.refl W.heap.size W).alloc (Nat.le_refl _) (.cells #[.func (.func 61) #[] #[.pointer (some ⟨Bx, 0, none⟩)]] 83)
    have hsz := hB0.size
    clear la lb hm
    go_enter Try.func58, Try.ntmps58
    go_wp2_with fail
    refine h1.mono ?_
    rintro e w1 ⟨A9, c9, rfl, hl, hs, hB⟩
    have HL := Lib.hid hl
    have HS := Lib.hid hs
    clear hl hs
    go_wp2
    go_ret
    exact ⟨A9, c9, rfl, HL.out, HS.out, hB0.trans (hB.mono hsz)⟩
  have h1 := hcs w.heap.size _ (sa.push (.cells #[.int .u64 p] 22)) (sb.push _) (Boxed.new w _ _)
  have hB0 := (Below.refl w.heap.size w).alloc (Nat.le_refl _) (.cells #[.int .u64 p] 22)
  have hsz := hB0.size
  clear la lb hm hcs
  go_enter Try.func33, Try.ntmps33
  go_wp2_with fail
  refine h1.mono ?_
  rintro e w1 ⟨A9, c9, rfl, hl, hs, hB⟩
  have HL := Lib.hid hl
  have HS := Lib.hid hs
  clear hl hs
  go_wp2
  go_ret
  exact ⟨A9, c9, rfl, HL.out, HS.out, hB0.trans (hB.mono hsz)⟩
end Go.Proofs.Ytddbdjhgmeeakaa

/- Scale and Constant of package shamir: new matrices. Conditions: a supported prime, words of its field, at most 100 rows and words in a row. -/
namespace Go.Proofs.Ytddbdjhgmeeakaa
set_option maxRecDepth 100000
open Go.RowKit PolyMath FieldMath MatMath

/-- A row in new memory is laid at the next place, not yet what it will be. -/
theorem MP.putR {base N k g c : Nat} {w w' : World} {vs : List Value} {f : Nat → List Int} {u : Value} {r : List Int} (h : MP base w (.slice (some ⟨g, 0, none⟩) N c) N k vs (rws f N k)) (hk : k < N) (hb : Below w.heap.size w w')
    (ho : w'.ownsRow base 22 1 u r.length (r.map (Value.int .u64))) (hn : ∀ b, u.ownBlock = some b → w.heap.size ≤ b) : MP base (w'.setCell ⟨g, k, none⟩ u) (.slice (some ⟨g, 0, none⟩) N c) N (k + 1) (vs.set k u) ((rws f N k).set k r) :=
  h.lay (Nat.le_refl _) hk (by omega) (grown_of hb none) (fun b e => by cases e) ho fun b e => .inl (hn b e)
/-- A list word by word. -/
def mapF (op : Int → Int) (a : List Int) (n : Nat) : List Int := (List.range n).map fun i => op (co a i)
theorem mapF_len (op : Int → Int) (a : List Int) (n : Nat) : (mapF op a n).length = n := by unfold mapF; simp
theorem fillL_zero (g : Nat → Int) (n : Nat) : fillL g n 0 = List.replicate n 0 := by
  apply List.ext_getElem?
  intro i
  by_cases h : i < n
  · rw [fillL_get g n 0 i h, List.getElem?_replicate, if_pos h, if_neg (Nat.not_lt_zero i)]
  · rw [List.getElem?_eq_none (by rw [fillL_len]; omega), List.getElem?_replicate, if_neg h]

set_option maxHeartbeats 8000000 in
theorem scale_mat (p K : Int) (hp : OkP p) (hK : 0 ≤ K ∧ K < p) (n N : Nat) (hn : n ≤ 100) (hN : N ≤ 100) (A : Option Addr) (ca : Nat) (ra : List (List Int)) (ha : Msh p n ra) (la : ra.length = N) (w : World) (sa : Sll w A ca ra) :
    Calls Try.prog 35 #[.int .u64 p, .int .u64 K, .slice A N ca] w fun e w' => Rows2 w e w' N ((List.range N).map fun i => mapF (fmul p K) (ro ra i) n) := by
  obtain ⟨i0, hi, hz0, hz1, hz2⟩ := info_parts info_sl
  obtain ⟨i1, hi1, hy0, hy1, hy2⟩ := info_parts info_u64
  have hbd := hp.bd
  have hB8 : Hid (i0.bytes * N ≤ 281474976710656) := Lib.hid (by rw [hz2]; omega)
  have hB9 : Hid (i1.bytes * n ≤ 281474976710656) := Lib.hid (by rw [hy2]; omega)
  have LA := Lib.hid la
  obtain ⟨f, hf⟩ : ∃ f : Nat → List Int, f = fun i => mapF (fmul p K) (ro ra i) n := ⟨_, rfl⟩
  have HFK : ∀ k, Hid (f k = fillL (fun j => fmul p K (co (ro ra k) j)) n n) := fun k => Lib.hid (by rw [hf, fillL_done]; rfl)
  rw [← hf]
  clear la hf
  go_enter Try.func35, Try.ntmps35
  go_wp2_with (at_make; refine wpList_make_full _ rfl _ _ 57 rfl w.heap.size 23 i0 (.slice none 0 0) 1 Try.underlying57 hi hz0 hz1 .i64 .i64 _ _ N rfl rfl (by omega) (by omega) hB8.out (by simp only [maxLen]; omega) (Nat.le_refl _) ?_; intro w1 hown1 hgrow1)
  have hb1 : Below w.heap.size w w1 := (Below.refl _ w).grown hgrow1 (Nat.le_refl _) (fun k e => by cases e)
  have hM1 := MP.begin f hown1
  clear hown1 hgrow1
  go_loopw [17] (fun i wr => ∃ (k : Nat) (vs : List Value), k ≤ N ∧ i = .int .i64 k ∧ MP w.heap.size wr (.slice (some ⟨w.heap.size, 0, none⟩) N N) N k vs (rws f N k) ∧ Below w.heap.size w wr) (fun i _ => N - (intOf i).toNat)
  case atStart => exact ⟨0, _, Nat.zero_le _, rfl, hM1, hb1⟩
  case round =>
    clear hM1 hb1
    obtain ⟨k, vs, hk, rfl, hM, hB⟩ := hrel
    rename World => W0
    by_cases hlt : k < N
    · have hkN : (k : Int) < N := by omega
      obtain ⟨b1, o1, A1, c1, hA1, hbl1, hc1, hs1⟩ := sa.rowAt (i := k) (L := n) (by rw [LA.out]; exact hlt) (ha k (by rw [LA.out]; exact hlt)).1
      subst hA1
      have hln := (ha k (by rw [LA.out]; exact hlt)).1
      have hel := (ha k (by rw [LA.out]; exact hlt)).2
      have d1 := (hB.cell (p := ⟨b1, o1 + k, none⟩) hbl1).trans hc1
      have hvl := hM.vlen
      obtain ⟨u0, hu0⟩ : ∃ u, vs[k]? = some u := ⟨_, List.getElem?_eq_getElem (by omega)⟩
      have HM := Lib.hid hM
      have hsz := hB.size
      have LN := Lib.hid hln
      have HNX := Lib.hid (rws_next f hlt)
      clear hM hvl hln
      go_wp2_with (at_make; refine wpList_make_full _ rfl _ _ 23 rfl W0.heap.size 22 i1 (.int .u64 0) 1 Try.underlying23 hi1 hy0 hy1 .i64 .i64 _ _ n rfl rfl (by omega) (by omega) hB9.out (by simp only [maxLen]; omega) (Nat.le_refl _) ?_; intro w3 hown3 hgrow3; have hb3 : Below W0.heap.size W0 w3 := (Below.refl _ W0).grown hgrow3 (Nat.le_refl _) (fun k e => by cases e); simp only [Value.cells, toList_madeCells_one, Nat.mul_one] at hown3; have hM3 := HM.out.next hb3; have hu3 := hM3.cell hlt hu0; have hfz3 := World.ownsRow.frozenAt hM3.head k; have HP3 : Hid (MP w.heap.size (w3.setCell ⟨w.heap.size, k, none⟩ (.slice (some ⟨W0.heap.size, 0, none⟩) n n)) (.slice (some ⟨w.heap.size, 0, none⟩) N N) N (k + 1) (vs.set k (.slice (some ⟨W0.heap.size, 0, none⟩) n n)) ((rws f N k).set k (fillL (fun j => fmul p K (co (ro ra k) j)) n 0))) := Lib.hid (HM.out.putR hlt hb3 (by rw [fillL_zero, List.length_replicate]; refine own_base ?_ hsz; simpa using hown3) (fun b e => (World.ownsRow.lt hown3 b e).1)); have HB3 := Lib.hid ((hB.trans (hb3.mono hsz)).setCell (p := ⟨w.heap.size, k, none⟩) (Nat.le_refl _) (.slice (some ⟨W0.heap.size, 0, none⟩) n n)); clear hown3 hgrow3 hM3)
      obtain ⟨ws, hws⟩ : ∃ ws, ws = vs.set k (.slice (some ⟨W0.heap.size, 0, none⟩) n n) := ⟨_, rfl⟩
      have hwk : ws[k]? = some (.slice (some ⟨W0.heap.size, 0, none⟩) n n) := by rw [hws]; exact List.getElem?_set_self (by have := HM.out.vlen; omega)
      rw [← hws] at HP3
      clear hws HM
      go_loopw [30] (fun i wr => ∃ (j : Nat), j ≤ n ∧ i = .int .i64 j ∧ MP w.heap.size wr (.slice (some ⟨w.heap.size, 0, none⟩) N N) N (k + 1) ws ((rws f N k).set k (fillL (fun j => fmul p K (co (ro ra k) j)) n j)) ∧ Below w.heap.size w wr) (fun i _ => n - (intOf i).toNat)
      case atStart => exact ⟨0, Nat.zero_le _, rfl, HP3.out, HB3.out⟩
      case round =>
        clear HP3 HB3
        obtain ⟨j, hj, rfl, hM, hB⟩ := hrel
        by_cases hlj : j < n
        · have hjn : (j : Int) < n := by omega
          obtain ⟨b2, o2, x, hA2, _, hx, hcx⟩ := (hs1.next hB).at_ (k := j) (by rw [LN.out]; exact hlj)
          subst hA2
          have hxb := hel x (List.mem_of_getElem? hx)
          have hrk : ro ((rws f N k).set k (fillL (fun j => fmul p K (co (ro ra k) j)) n j)) k = fillL (fun j => fmul p K (co (ro ra k) j)) n j := by rw [ro_set (by rw [rws_len]; exact hlt), if_pos rfl]
          have hO := hM.own (Nat.lt_succ_self k) hwk
          rw [hrk, fillL_len] at hO
          have hO' : OwnAt wr w.heap.size W0.heap.size n n (fillL (fun j => fmul p K (co (ro ra k) j)) n j) := hO
          have hS := fillL_set (fun j => fmul p K (co (ro ra k) j)) n j
          rw [co_at hx] at hS
          have e1 := hM.cell hlt hwk
          have e2 := hO'.cell (fillL_get (fun j => fmul p K (co (ro ra k) j)) n j j hlj)
          have hfz := hO'.frozen j
          have HC := Lib.hid (hM.change (Nat.lt_succ_self k) hwk (hO'.put j (fmul p K x)) (hO'.grow j (fmul p K x)))
          rw [List.set_set, hS] at HC
          have hbg := hO'.lt
          have HBE := Lib.hid (hB.setCell (p := ⟨W0.heap.size, j, none⟩) hbg.1 (.int .u64 (fmul p K x))).drew
          have hmu := mul_any p K x hp hK.1 hK.2 hxb.1 hxb.2 wr.drew
          have HC2 := Lib.hid (HC.out.next (Below.refl _ _).drew)
          clear hS hx hO hO' hM hrk HC
          go_wp2
          refine wp_region_still_tail 10 (by kernel_rfl) (by kernel_rfl) ?_
          simp only [List.take_succ_cons, List.take_zero, List.drop_succ_cons, List.drop_zero]
          change wpStill _ _ (World.drew _) (fun a' => wpList _ _ _ _ a' (World.drew _)) _ _
          repeat still_step
          still_call (still_of hmu)
          repeat still_step
          refine wpStill_nil ?_
          go_wp2
          go_roundw
          case rel => exact ⟨j + 1, by omega, by simp, HC2.out, HBE.out⟩
          case measure => simp [intOf]; omega
        · obtain rfl : j = n := by omega
          rw [← (HFK k).out, HNX.out] at hM
          go_wp2
          go_roundw
          case rel => exact ⟨k + 1, ws, by omega, by simp, hM, hB⟩
          case measure => simp [intOf]; omega
    · obtain rfl : k = N := by omega
      have hS := hM.form
      rw [rws_all] at hS
      obtain ⟨A9, c9, hv, hS9⟩ := hS
      have HV := Lib.hid hv
      have HS := Lib.hid hS9
      clear hv hS9 hM
      go_wp2
      go_ret
      exact ⟨A9, c9, congrArg Ending.returned HV.out, by simp, HS.out, hB⟩

theorem row_form11 {w : World} {base t n : Nat} {v : Value} {xs : List Value} (h : w.ownsRow base t 1 v n xs) : ∃ A c, v = .slice A n c := by
  rcases h.2 with ⟨rfl, h0⟩ | ⟨g, cap, cur, rfl, _⟩
  · subst h0; exact ⟨_, _, rfl⟩
  · exact ⟨_, _, rfl⟩
/-- A row of a constant sharing. -/
def conR (K : Int) (T : Nat) : List Int := K :: List.replicate T 0
theorem conR_len (K : Int) (T : Nat) : (conR K T).length = T + 1 := by unfold conR; simp
set_option maxHeartbeats 8000000 in
theorem const_mat (P K : Int) (N T : Nat) (hN : N ≤ 100) (hT : T ≤ 100) (w : World) :
    Calls Try.prog 37 #[.agg #[.int .u64 P, .int .i64 N, .int .i64 T], .int .u64 K] w fun e w' => Rows2 w e w' N ((List.range N).map fun _ => conR K T) := by
  obtain ⟨i0, hi, hz0, hz1, hz2⟩ := info_parts info_sl
  obtain ⟨i1, hi1, hy0, hy1, hy2⟩ := info_parts info_u64
  have hB8 : Hid (i0.bytes * N ≤ 281474976710656) := Lib.hid (by rw [hz2]; omega)
  obtain ⟨f, hf⟩ : ∃ f : Nat → List Int, f = fun _ => conR K T := ⟨_, rfl⟩
  have HFK : ∀ k, Hid (f k = conR K T) := fun k => Lib.hid (by rw [hf])
  rw [← hf]
  clear hf
  obtain ⟨w0, hw0⟩ : ∃ w0, w0 = w.alloc (.cells #[.int .u64 P, .int .i64 N, .int .i64 T] 55) := ⟨_, rfl⟩
  have hB0 : Below w.heap.size w w0 := by rw [hw0]; exact (Below.refl _ w).alloc (Nat.le_refl _) _
  have k1 : w0.cell? ⟨w.heap.size, 1, none⟩ = some (.int .i64 N) := by rw [hw0]; go_simp
  have k2 : w0.cell? ⟨w.heap.size, 2, none⟩ = some (.int .i64 T) := by rw [hw0]; go_simp
  have hl0 : w.heap.size < w0.heap.size := by rw [hw0]; simp
  have hs0 : w.heap.size ≤ w0.heap.size := by omega
  have HW0 := Lib.hid hw0
  clear hw0
  go_enter Try.func37, Try.ntmps37
  go_upto_region 1 with fail
  rw [← HW0.out]
  go_wp2_with (at_make; refine wpList_make_full _ rfl _ _ 57 rfl w0.heap.size 23 i0 (.slice none 0 0) 1 Try.underlying57 hi hz0 hz1 .i64 .i64 _ _ N rfl rfl (by omega) (by omega) hB8.out (by simp only [maxLen]; omega) (Nat.le_refl _) ?_; intro w1 hown1 hgrow1)
  have hb1 : Below w0.heap.size w0 w1 := (Below.refl _ w0).grown hgrow1 (Nat.le_refl _) (fun k e => by cases e)
  have hM1 := MP.begin f hown1
  clear hown1 hgrow1
  go_loopw [13] (fun i wr => ∃ (k : Nat) (vs : List Value), k ≤ N ∧ i = .int .i64 k ∧ MP w0.heap.size wr (.slice (some ⟨w0.heap.size, 0, none⟩) N N) N k vs (rws f N k) ∧ Below w0.heap.size w0 wr) (fun i _ => N - (intOf i).toNat)
  case atStart => exact ⟨0, _, Nat.zero_le _, rfl, hM1, hb1⟩
  case round =>
    clear hM1 hb1
    obtain ⟨k, vs, hk, rfl, hM, hB⟩ := hrel
    by_cases hlt : k < N
    · have hkN : (k : Int) < N := by omega
      have hsz := hB.size
      have d2 := (hB.cell (p := ⟨w.heap.size, 2, none⟩) hl0).trans k2
      have d3 : (wr.alloc (.cells #[.int .u64 K] 22)).cell? ⟨w.heap.size, 2, none⟩ = some (.int .i64 T) := (World.cell?_alloc_some _ _ _ (by rw [d2]; rfl)).trans d2
      have hlit := own_lit1 wr K
      have hvl := hM.vlen
      obtain ⟨u0, hu0⟩ : ∃ u, vs[k]? = some u := ⟨_, List.getElem?_eq_getElem (by omega)⟩
      have HM := Lib.hid hM
      have hba : Below wr.heap.size wr (wr.alloc (.cells #[.int .u64 K] 22)) := (Below.refl _ wr).alloc (Nat.le_refl _) _
      have hTn : ¬ (T : Int) < 0 := by omega
      clear hM hvl
      go_wp2_with (at_builtin; refine wpList_append_zeros _ rfl _ _ 23 3 22 rfl i1 Try.underlying23 Try.underlying3 hi1 hy0 hy1 hy2 wr.heap.size wr.heap.size 1 T _ rfl hlit rfl (by omega) (by simp) ?_; intro v8 w8 ho8 hg8; have hb8 : Below wr.heap.size wr w8 := hba.grown hg8 (by simp) (fun k e => by cases e; exact Nat.le_refl _); obtain ⟨A8, c8, hv8⟩ := row_form11 ho8; subst hv8; have hM8 := HM.out.next hb8; have hu8 := hM8.cell hlt hu0; have hfz8 := World.ownsRow.frozenAt hM8.head k; have HP8 := Lib.hid (HM.out.put hlt hb8 (u := .slice A8 (1 + T) c8) (by rw [(HFK k).out, conR_len, Nat.add_comm T 1]; refine own_base ?_ hsz; unfold conR; simpa using ho8) (fun b e => (World.ownsRow.lt ho8 b e).1)); have HB8 := Lib.hid ((hB.trans (hb8.mono hsz)).setCell (p := ⟨w0.heap.size, k, none⟩) (Nat.le_refl _) (.slice A8 (1 + T) c8)); clear ho8 hM8 hg8)
      go_roundw
      case rel => exact ⟨k + 1, _, by omega, by simp, HP8.out, HB8.out⟩
      case measure => simp [intOf]; omega
    · obtain rfl : k = N := by omega
      have hS := hM.form
      rw [rws_all] at hS
      obtain ⟨A9, c9, hv, hS9⟩ := hS
      have HV := Lib.hid hv
      have HS := Lib.hid hS9
      clear hv hS9 hM
      go_wp2
      go_ret
      exact ⟨A9, c9, congrArg Ending.returned HV.out, by simp, HS.out, hB0.trans (hB.mono hs0)⟩
end Go.Proofs.Ytddbdjhgmeeakaa

/- LocalShares of package shamir and of the reference: for each party the first words of its rows. Conditions: at least one sharing, each with the same number of rows, at most 100 rows and sharings. -/
namespace Go.Proofs.Ytddbdjhgmeeakaa
set_option maxRecDepth 100000
open Go.RowKit PolyMath FieldMath MatMath

/-- The slice at A with capacity c holds matrices of N rows. -/
structure S3 (w : World) (A : Option Addr) (c N : Nat) (ms : List (List (List Int))) : Prop where
  cap : ms.length ≤ c
  rd : ms ≠ [] → ∃ b off, A = some ⟨b, off, none⟩ ∧ b < w.heap.size ∧ ∀ j m, ms[j]? = some m → m.length = N ∧ ∃ A' c', w.cell? ⟨b, off + j, none⟩ = some (.slice A' N c') ∧ Sll w A' c' m
theorem S3.at_ {w : World} {A : Option Addr} {c N k : Nat} {ms : List (List (List Int))} (h : S3 w A c N ms) (hk : k < ms.length) : ∃ b off m A' c', A = some ⟨b, off, none⟩ ∧ b < w.heap.size ∧ ms[k]? = some m ∧ m.length = N ∧ w.cell? ⟨b, off + k, none⟩ = some (.slice A' N c') ∧ Sll w A' c' m := by
  obtain ⟨b, off, e, hb, hc⟩ := h.rd (fun e => by rw [e] at hk; simp at hk)
  have hx := List.getElem?_eq_getElem hk
  obtain ⟨hl, A', c', h1, h2⟩ := hc k _ hx
  exact ⟨b, off, _, A', c', e, hb, hx, hl, h1, h2⟩
theorem S3.next {w w' : World} {A : Option Addr} {c N : Nat} {ms : List (List (List Int))} (h : S3 w A c N ms) (hb : Below w.heap.size w w') : S3 w' A c N ms :=
  ⟨h.cap, fun hn => by
    obtain ⟨b, off, e, hlt, hc⟩ := h.rd hn
    refine ⟨b, off, e, Nat.lt_of_lt_of_le hlt hb.size, fun j m hm => ?_⟩
    obtain ⟨hl, A', c', h1, h2⟩ := hc j m hm
    exact ⟨hl, A', c', (hb.cell (p := ⟨b, off + j, none⟩) hlt).trans h1, h2.next hb⟩⟩
/-- Party i's list. -/
def locR (ms : List (List (List Int))) (i : Nat) : List Int := (List.range ms.length).map fun j => co (ro (ms[j]?.getD []) i) 0
theorem locR_len (ms : List (List (List Int))) (i : Nat) : (locR ms i).length = ms.length := by unfold locR; simp

theorem share_any (A : Option Addr) (c N i : Nat) (m : List (List Int)) (hl : m.length = N) (hi : i < N) (w : World) (h : Sll w A c m) :
    Calls Try.prog 63 #[.slice A N c, .int .i64 i] w fun e w' => e = .returned (.int .u64 (co (ro m i) 0)) ∧ w = w' := by
  obtain ⟨b, off, A', c', hA, hb, hc, hs⟩ := h.rowAt (i := i) (by omega) rfl
  subst hA
  have hco := coef_any A' c' (ro m i) 0 w hs
  have e0 : coI (ro m i) 0 = co (ro m i) 0 := rfl
  rw [e0] at hco
  have hiN : (i : Int) < N := by omega
  have hiN2 : ¬ (N : Int) ≤ i := by omega
  clear hl
  go_enter Try.func63, Try.ntmps63
  go_wp2_with (go_at_call 49; refine hco.mono ?_; rintro e w' ⟨rfl, rfl⟩)
  go_ret
  exact ⟨rfl, rfl⟩

theorem local_nil (A : Option Addr) (c : Nat) (w : World) : Calls Try.prog 40 #[.slice A 0 c] w fun e w' => e = .returned (.slice none 0 0) ∧ w = w' := by
  go_enter Try.func40, Try.ntmps40
  go_wp2
  go_ret
  exact ⟨rfl, rfl⟩

set_option maxHeartbeats 8000000 in
theorem local_mat (n N : Nat) (hn0 : 0 < n) (hn : n ≤ 100) (hN : N ≤ 100) (A : Option Addr) (ca : Nat) (ms : List (List (List Int))) (la : ms.length = n) (w : World) (sa : S3 w A ca N ms) :
    Calls Try.prog 40 #[.slice A n ca] w fun e w' => Rows2 w e w' N ((List.range N).map (locR ms)) := by
  obtain ⟨i0, hi, hz0, hz1, hz2⟩ := info_parts info_sl
  obtain ⟨i1, hi1, hy0, hy1, hy2⟩ := info_parts info_u64
  have hB8 : Hid (i0.bytes * N ≤ 281474976710656) := Lib.hid (by rw [hz2]; omega)
  have hB9 : Hid (i1.bytes * n ≤ 281474976710656) := Lib.hid (by rw [hy2]; omega)
  have LA := Lib.hid la
  obtain ⟨f, hf⟩ : ∃ f : Nat → List Int, f = locR ms := ⟨_, rfl⟩
  have HFK : ∀ k, Hid (f k = fillL (fun j => co (ro (ms[j]?.getD []) k) 0) n n) := fun k => Lib.hid (by rw [hf, fillL_done, ← la]; rfl)
  obtain ⟨b0, o0, m0, A0, c0, hA0, hbl0, hm0, hl0, hc0, hs0⟩ := sa.at_ (k := 0) (by omega)
  subst hA0
  rw [Nat.add_zero] at hc0
  rw [← hf]
  have hn0I : ¬ (n : Int) = 0 := by omega
  have hn0b : ((n : Int) == 0) = false := beq_eq_false_iff_ne.2 hn0I
  have hn0N : ¬ n = 0 := by omega
  have hn0p : (0 : Int) < n := by omega
  clear la hf hm0 hl0
  go_enter Try.func40, Try.ntmps40
  go_wp2_with (at_make; refine wpList_make_full _ rfl _ _ 56 rfl w.heap.size 23 i0 (.slice none 0 0) 1 Try.underlying56 hi hz0 hz1 .i64 .i64 _ _ N rfl rfl (by omega) (by omega) hB8.out (by simp only [maxLen]; omega) (Nat.le_refl _) ?_; intro w1 hown1 hgrow1)
  have hb1 : Below w.heap.size w w1 := (Below.refl _ w).grown hgrow1 (Nat.le_refl _) (fun k e => by cases e)
  have hM1 := MP.begin f hown1
  clear hown1 hgrow1
  go_loopw [17] (fun i wr => ∃ (k : Nat) (vs : List Value), k ≤ N ∧ i = .int .i64 k ∧ MP w.heap.size wr (.slice (some ⟨w.heap.size, 0, none⟩) N N) N k vs (rws f N k) ∧ Below w.heap.size w wr) (fun i _ => N - (intOf i).toNat)
  case atStart => exact ⟨0, _, Nat.zero_le _, rfl, hM1, hb1⟩
  case round =>
    clear hM1 hb1
    obtain ⟨k, vs, hk, rfl, hM, hB⟩ := hrel
    rename World => W0
    by_cases hlt : k < N
    · have hkN : (k : Int) < N := by omega
      have hvl := hM.vlen
      obtain ⟨u0, hu0⟩ : ∃ u, vs[k]? = some u := ⟨_, List.getElem?_eq_getElem (by omega)⟩
      have HM := Lib.hid hM
      have hsz := hB.size
      have HNX := Lib.hid (rws_next f hlt)
      clear hM hvl
      go_wp2_with (at_make; refine wpList_make_full _ rfl _ _ 23 rfl W0.heap.size 22 i1 (.int .u64 0) 1 Try.underlying23 hi1 hy0 hy1 .i64 .i64 _ _ n rfl rfl (by omega) (by omega) hB9.out (by simp only [maxLen]; omega) (Nat.le_refl _) ?_; intro w3 hown3 hgrow3; have hb3 : Below W0.heap.size W0 w3 := (Below.refl _ W0).grown hgrow3 (Nat.le_refl _) (fun k e => by cases e); simp only [Value.cells, toList_madeCells_one, Nat.mul_one] at hown3; have hM3 := HM.out.next hb3; have hu3 := hM3.cell hlt hu0; have hfz3 := World.ownsRow.frozenAt hM3.head k; have HP3 : Hid (MP w.heap.size (w3.setCell ⟨w.heap.size, k, none⟩ (.slice (some ⟨W0.heap.size, 0, none⟩) n n)) (.slice (some ⟨w.heap.size, 0, none⟩) N N) N (k + 1) (vs.set k (.slice (some ⟨W0.heap.size, 0, none⟩) n n)) ((rws f N k).set k (fillL (fun j => co (ro (ms[j]?.getD []) k) 0) n 0))) := Lib.hid (HM.out.putR hlt hb3 (by rw [fillL_zero, List.length_replicate]; refine own_base ?_ hsz; simpa using hown3) (fun b e => (World.ownsRow.lt hown3 b e).1)); have HB3 := Lib.hid ((hB.trans (hb3.mono hsz)).setCell (p := ⟨w.heap.size, k, none⟩) (Nat.le_refl _) (.slice (some ⟨W0.heap.size, 0, none⟩) n n)); clear hown3 hgrow3 hM3)
      obtain ⟨ws, hws⟩ : ∃ ws, ws = vs.set k (.slice (some ⟨W0.heap.size, 0, none⟩) n n) := ⟨_, rfl⟩
      have hwk : ws[k]? = some (.slice (some ⟨W0.heap.size, 0, none⟩) n n) := by rw [hws]; exact List.getElem?_set_self (by have := HM.out.vlen; omega)
      rw [← hws] at HP3
      clear hws HM
      go_loopw [28] (fun i wr => ∃ (j : Nat), j ≤ n ∧ i = .int .i64 j ∧ MP w.heap.size wr (.slice (some ⟨w.heap.size, 0, none⟩) N N) N (k + 1) ws ((rws f N k).set k (fillL (fun j => co (ro (ms[j]?.getD []) k) 0) n j)) ∧ Below w.heap.size w wr) (fun i _ => n - (intOf i).toNat)
      case atStart => exact ⟨0, Nat.zero_le _, rfl, HP3.out, HB3.out⟩
      case round =>
        clear HP3 HB3
        obtain ⟨j, hj, rfl, hM, hB⟩ := hrel
        by_cases hlj : j < n
        · have hjn : (j : Int) < n := by omega
          obtain ⟨b2, o2, m, A2, c2, hA2, _, hm, hml, hcx, hsm⟩ := (sa.next hB).at_ (k := j) (by rw [LA.out]; exact hlj)
          injection hA2 with hA2
          injection hA2 with e1 e2
          subst e1 e2
          have hrk : ro ((rws f N k).set k (fillL (fun j => co (ro (ms[j]?.getD []) k) 0) n j)) k = fillL (fun j => co (ro (ms[j]?.getD []) k) 0) n j := by rw [ro_set (by rw [rws_len]; exact hlt), if_pos rfl]
          have hO := hM.own (Nat.lt_succ_self k) hwk
          rw [hrk, fillL_len] at hO
          have hO' : OwnAt wr w.heap.size W0.heap.size n n (fillL (fun j => co (ro (ms[j]?.getD []) k) 0) n j) := hO
          have hS := fillL_set (fun j => co (ro (ms[j]?.getD []) k) 0) n j
          rw [hm, Option.getD_some] at hS
          have e1 := hM.cell hlt hwk
          have e2 := hO'.cell (fillL_get (fun j => co (ro (ms[j]?.getD []) k) 0) n j j hlj)
          have hfz := hO'.frozen j
          have HC := Lib.hid (hM.change (Nat.lt_succ_self k) hwk (hO'.put j (co (ro m k) 0)) (hO'.grow j (co (ro m k) 0)))
          rw [List.set_set, hS] at HC
          have hbg := hO'.lt
          have HBE := Lib.hid (hB.setCell (p := ⟨W0.heap.size, j, none⟩) hbg.1 (.int .u64 (co (ro m k) 0))).drew
          have hmu := share_any A2 c2 N k m hml hlt wr.drew (hsm.drew)
          have HC2 := Lib.hid (HC.out.next (Below.refl _ _).drew)
          clear hS hm hml hO hO' hM hrk HC
          go_wp2
          refine wp_region_still_tail 9 (by kernel_rfl) (by kernel_rfl) ?_
          simp only [List.take_succ_cons, List.take_zero, List.drop_succ_cons, List.drop_zero]
          change wpStill _ _ (World.drew _) (fun a' => wpList _ _ _ _ a' (World.drew _)) _ _
          repeat still_step
          still_call (still_of hmu)
          repeat still_step
          refine wpStill_nil ?_
          go_wp2
          go_roundw
          case rel => exact ⟨j + 1, by omega, by simp, HC2.out, HBE.out⟩
          case measure => simp [intOf]; omega
        · obtain rfl : j = n := by omega
          rw [← (HFK k).out, HNX.out] at hM
          go_wp2
          go_roundw
          case rel => exact ⟨k + 1, ws, by omega, by simp, hM, hB⟩
          case measure => simp [intOf]; omega
    · obtain rfl : k = N := by omega
      have hS := hM.form
      rw [rws_all] at hS
      obtain ⟨A9, c9, hv, hS9⟩ := hS
      have HV := Lib.hid hv
      have HS := Lib.hid hS9
      clear hv hS9 hM
      go_wp2
      go_ret
      exact ⟨A9, c9, congrArg Ending.returned HV.out, by simp, HS.out, hB⟩
end Go.Proofs.Ytddbdjhgmeeakaa
