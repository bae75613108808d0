/- Eval of package poly: the value by Horner's rule; nothing that lay is changed. Conditions: a supported prime, a polynomial over its field of at most 400 coefficients, an element. -/
import Derived.Test.YtkkfkkicbgejaaaPBack
namespace Go.Proofs.Ytkkfkkicbgejaaa
set_option maxRecDepth 100000
open Go.RowKit Go.Shelf PolyMath FieldMath
attribute [local go_sem] Oper.semAt_some

theorem Sl.spot {w : World} {A : Option Addr} {c : Nat} {xs : List Int} (h : Sl w A c xs) : ∃ g off, (0 < xs.length → A = some ⟨g, off, none⟩ ∧ g < w.heap.size) ∧ Reads (fun j v => v = co xs j) g off xs.length w := by
  by_cases h0 : 0 < xs.length
  · obtain ⟨g, off, _, hA, hg, _, _⟩ := h.at_ h0
    obtain ⟨g', off', e, _, hc⟩ := h.rd _ hA (fun e => by rw [e] at h0; simp at h0)
    cases e
    exact ⟨g, off, fun _ => ⟨hA, hg⟩, fun j hj => ⟨_, hc j _ (List.getElem?_eq_getElem hj), (co_get hj).symm⟩⟩
  · exact ⟨0, 0, fun h => absurd h h0, fun j hj => absurd hj (by omega)⟩

theorem keepsFrom_drew {B : Nat} {X Y : World} (h : KeepsFrom B X Y) : KeepsFrom B X Y.drew := ⟨h.size, h.same⟩

/-- What a round keeps: what lay below n₀, and the box of the slice. -/
def KeepsE (n₀ Ba : Nat) (W W' : World) : Prop := Below n₀ W W' ∧ ∀ v, Boxed W Ba 33 v → Boxed W' Ba 33 v
theorem KeepsE.book {n₀ Ba : Nat} {w : World} (hn : n₀ ≤ w.heap.size) (hBa : Ba < w.heap.size) (W : World) (l : Nat) (o o' : Obj) (hl : w.heap.size ≤ l) (h : W.heap[l]? = some o) (h1 : o.isCells = false) (h2 : o.isWalk = false) : KeepsE n₀ Ba W (W.putObj l o') :=
  ⟨belowK_b hn W l o o' hl h h1 h2, fun _ hv => hv.kept (grownBy_putObj' W l o') (by simp; omega)⟩
theorem KeepsE.trans {n₀ Ba : Nat} {X Y Z : World} (h : KeepsE n₀ Ba X Y) (k : KeepsE n₀ Ba Y Z) : KeepsE n₀ Ba X Z := ⟨h.1.trans k.1, fun v hv => k.2 v (h.2 v hv)⟩
theorem keepingE (V : Nat → Int → Prop) (g off N n₀ Ba : Nat) (hg : 0 < N → g < n₀) : Keeping (KeepsE n₀ Ba) V g off N Ba where
  refl := fun _ => ⟨Below.refl _ _, fun _ h => h⟩
  trans := fun h k => h.trans k
  box := fun h hv => h.2 _ hv
  reads := fun h hr j hj => by
    obtain ⟨v, hc, hv⟩ := hr j hj
    exact ⟨v, (h.1.cell (p := ⟨g, off + j, none⟩) (hg (by omega))).trans hc, hv⟩

/-- The value behind the rounds so far. -/
def hor (p x : Int) {V : Nat → Int → Prop} {N : Nat} (pre : List (It V N)) : Int := pre.foldl (fun acc y => fadd p (fmul p acc x) y.1.2) 0
theorem hor_next (p x : Int) {V : Nat → Int → Prop} {N : Nat} (pre : List (It V N)) (y : It V N) : hor p x (pre ++ [y]) = fadd p (fmul p (hor p x pre) x) y.1.2 := by unfold hor; rw [List.foldl_append]; rfl
theorem hor_bd {p x : Int} (hp : 0 < p) {V : Nat → Int → Prop} {N : Nat} (pre : List (It V N)) : 0 ≤ hor p x pre ∧ hor p x pre < p := by
  rcases List.eq_nil_or_concat pre with rfl | ⟨ys, y, rfl⟩
  · exact ⟨Int.le_refl _, hp⟩
  · rw [List.concat_eq_append, hor_next]; exact fadd_bd p _ _ hp
theorem hor_all (p x : Int) (xs : List Int) : ∀ (k : Nat), k ≤ xs.length → ∀ ys : List (It (fun j v => v = co xs j) xs.length), ys.map (fun y => y.1.1) = dn xs.length k → hor p x ys = evf x k (fun i => co xs (i + (xs.length - k))) % p := by
  intro k
  induction k with
  | zero =>
    intro _ ys h
    have : ys = [] := by simpa [dn] using h
    subst this
    exact (Int.zero_emod p).symm
  | succ k ih =>
    intro hk ys h
    rw [dn_next] at h
    obtain ⟨ys1, ys2, rfl, h1, h2⟩ := List.map_eq_append_iff.1 h
    obtain ⟨y, rfl, hy⟩ : ∃ y, ys2 = [y] ∧ y.1.1 = xs.length - 1 - k := by
      rcases ys2 with _ | ⟨y, _ | ⟨z, r⟩⟩
      · simp at h2
      · exact ⟨y, rfl, by simpa using h2⟩
      · simp at h2
    rw [hor_next, ih (by omega) ys1 h1, y.2.2, hy, show xs.length - k = (xs.length - 1 - k) + 1 from by omega, show xs.length - (k + 1) = xs.length - 1 - k from by omega]
    exact horner p x (co xs) k (xs.length - 1 - k)
theorem hor_done (p x : Int) (xs : List Int) (ys : List (It (fun j v => v = co xs j) xs.length)) (h : ys.map (fun y => y.1.1) = dn xs.length xs.length) : hor p x ys = pev p xs x := by
  rw [hor_all p x xs xs.length (Nat.le_refl _) ys h]; unfold pev; rw [Nat.sub_self]; rfl

set_option maxRecDepth 100000 in
set_option maxHeartbeats 2000000 in
theorem eval_any (p x : Int) (hp : OkP p) (hx : 0 ≤ x ∧ x < p) (A : Option Addr) (c : Nat) (xs : List Int) (hxs : El p xs) (hl : xs.length ≤ 400) (w : World) (hr : Sl w A c xs) :
    Calls Try.prog 25 #[.int .u64 p, .slice A xs.length c, .int .u64 x] w fun e w' => e = .returned (.int .u64 (pev p xs x)) ∧ Below w.heap.size w w' := by
  have hbd := hp.bd
  obtain ⟨g, off, hAg, hre⟩ := hr.spot
  clear hr
  refine (callsIn_wide (n := 3)).1 ?_
  refine callsIn_of_wp_marks Try.func25 rfl trivial ?_ rfl
  simp only [Try.ntmps25, List.size_toArray, List.length_cons, List.length_nil, Nat.reduceAdd, Nat.reduceSub, Array.replicate_succ, Array.replicate_zero, List.push_toArray, List.append_toArray, List.nil_append, List.cons_append]
  gi_wp2_with (refine ⟨trivial, ?_⟩; gi_at_call 40; refine (back_in _ _ _ _ _).mono ?_; rintro e w' ⟨rfl, rfl⟩)
  have bp := (((Boxed.new w 22 (.int .u64 p)).alloc (.cells #[.int .u64 x] 22)).alloc (.cells #[.int .u64 0] 22)).alloc (.cells #[.slice A xs.length c] 33)
  have bx := ((Boxed.new (w.alloc (.cells #[.int .u64 p] 22)) 22 (.int .u64 x)).alloc (.cells #[.int .u64 0] 22)).alloc (.cells #[.slice A xs.length c] 33)
  have bv := (Boxed.new ((w.alloc (.cells #[.int .u64 p] 22)).alloc (.cells #[.int .u64 x] 22)) 22 (.int .u64 0)).alloc (.cells #[.slice A xs.length c] 33)
  have bb := Boxed.new (((w.alloc (.cells #[.int .u64 p] 22)).alloc (.cells #[.int .u64 x] 22)).alloc (.cells #[.int .u64 0] 22)) 33 (.slice A xs.length c)
  simp only [World.size_alloc] at bx bv bb
  have hB0 : Below w.heap.size w ((((w.alloc (.cells #[.int .u64 p] 22)).alloc (.cells #[.int .u64 x] 22)).alloc (.cells #[.int .u64 0] 22)).alloc (.cells #[.slice A xs.length c] 33)) :=
    ((((Below.refl _ w).alloc (Nat.le_refl _) _).alloc (by simp) _).alloc (by simp; omega) _).alloc (by simp; omega) _
  have hre0 := (keepingE (fun j v => v = co xs j) g off xs.length w.heap.size (w.heap.size + 1 + 1 + 1) (fun h => (hAg h).2)).reads (X := w) (Y := (((w.alloc (.cells #[.int .u64 p] 22)).alloc (.cells #[.int .u64 x] 22)).alloc (.cells #[.int .u64 0] 22)).alloc (.cells #[.slice A xs.length c] 33)) ⟨hB0, fun v hv => absurd hv.lt (by omega)⟩ hre
  refine wpIn_rangeFunc_ownG rfl (by omega) (gf := 63) (lb := #[.pointer (some ⟨w.heap.size + 1 + 1 + 1, 0, none⟩)]) rfl trivial (enters_of Try.func63 (by kernel_rfl) rfl)
    (back_stops (3 - 1) (by omega) (w.heap.size + 1 + 1 + 1) g off xs.length c A (fun h => (hAg h).1) (by omega) (fun j v => v = co xs j) (KeepsE w.heap.size (w.heap.size + 1 + 1 + 1)) (keepingE _ g off xs.length w.heap.size (w.heap.size + 1 + 1 + 1) (fun h => (hAg h).2)) _ (fun h => by have := (hAg h).2; simp; omega) bb hre0) (fun h k => h.trans k) (KeepsE.book (by simp <;> omega) (by simp <;> omega)) (Below.refl _ _) (fun _ => rfl)
    (fun pre W => (Boxed W w.heap.size 22 (.int .u64 p) ∧ Boxed W (w.heap.size + 1) 22 (.int .u64 x) ∧ Boxed W (w.heap.size + 1 + 1) 22 (.int .u64 (hor p x pre)) ∧ Boxed W (w.heap.size + 1 + 1 + 1) 33 (.slice A xs.length c)) ∧ Below w.heap.size w W)
    (fun _ _ _ => False)
    (OwnFrom.and (OwnFrom.and (Own.from (boxed_own _ _ _) _) (OwnFrom.and (Own.from (boxed_own _ _ _) _) (OwnFrom.and (Own.from (boxed_own _ _ _) _) (Own.from (boxed_own _ _ _) _)))) (ownFrom_below (Nat.le_refl _) (by simp; omega)))
    (fun _ _ _ _ _ hs _ _ => hs)
    ⟨⟨bp, bx, bv, bb⟩, hB0⟩
    (fun y => { tmps := #[.int .u64 p, .slice A xs.length c, .int .u64 x, .pointer (some ⟨w.heap.size, 0, none⟩), undef, .pointer (some ⟨w.heap.size + 1, 0, none⟩), .int .u64 0, .pointer (some ⟨w.heap.size + 1 + 1, 0, none⟩), undef, .int .u64 y.1.2, .slice A xs.length c, .func (.func 63) #[] #[.pointer (some ⟨w.heap.size + 1 + 1 + 1, 0, none⟩)], .int .i64 (y.1.1 : Int), .int .u64 y.1.2, undef, undef, undef, undef, undef, undef, undef, undef], defers := [] }) ?assign ?body ?done ?stop
  case assign =>
    intro l x W K hK
    gi_wp2
    exact hK
  case body =>
    rintro l pre y W ⟨⟨h1, h2, h3, h4⟩, hB⟩ _
    have hvb : 0 ≤ y.1.2 ∧ y.1.2 < p := by rw [y.2.2]; exact hxs.co (by omega) _
    have hstep := Lib.hid (hor_next p x pre y)
    have hhb := hor_bd (p := p) (x := x) (by omega) pre
    have hmb := fmul_bd p (hor p x pre) x (by omega)
    have c1 := h1.cell
    have c2 := h2.cell
    have c3 := h3.cell
    have f3 := h3.frozen
    gi_wp2
    refine wpIn_tail 7 (by kernel_rfl) (by kernel_rfl) (by kernel_rfl) ?_
    simp only [List.take_succ_cons, List.take_zero, List.drop_succ_cons, List.drop_zero]
    repeat still_step
    still_call (still_of (mul_any _ _ _ hp hhb.1 hhb.2 hx.1 hx.2 _))
    repeat still_step
    still_call (still_of (add_any _ _ _ hp hmb.1 hmb.2 hvb.1 hvb.2 _))
    repeat still_step
    refine wpStill_nil ?_
    go_wp2
    have e := hstep.out
    exact ⟨keepsFrom_drew ((KeepsOthers.setCell _ _ _).from _), ⟨((Below.refl w.heap.size W).setCell (p := ⟨w.heap.size + 1 + 1, 0, none⟩) (by show w.heap.size ≤ w.heap.size + 1 + 1; omega) _).drew, fun _ h => h.other (by omega) _⟩,
      ⟨h1.other (by omega) _, h2.other (by omega) _, by rw [e]; exact h3.set _, h4.other (by omega) _⟩, (hB.setCell (p := ⟨w.heap.size + 1 + 1, 0, none⟩) (by show w.heap.size ≤ w.heap.size + 1 + 1; omega) _).drew⟩
  case done =>
    rintro D ys W hD hS ⟨⟨_, _, h0, _⟩, hB⟩ hK
    rw [hor_done p x xs ys hS] at h0
    have hc := h0.cell
    gi_wp2
    refine ⟨by simp, .inl ⟨_, _, rfl, run_takeDeferred hK, ?_⟩⟩
    exact ⟨_, results_tmp rfl _ _ _, rfl, hB.trans (belowK_b (w := w) (Nat.le_refl _) W D _ _ (by simp at hD; omega) hK rfl rfl)⟩
  case stop =>
    rintro D c pre W _ _ h _
    exact h.elim

end Go.Proofs.Ytkkfkkicbgejaaa
