/- A region that draws its order: first operations that only read, then calls that keep what those read, then a last stretch that may write even what was read: walked once, in the order of the text. Nothing of the program is named here. No conditions. -/
import Derived.Test.YtbhphamfkhccpaaProg
import Derived.StillTail
import Derived.OrdersHeld
import Derived.Deep.Quiet
import Derived.WalkKit
import Derived.Deep.RegionHeld3
namespace Go.Proofs.Ytbhphamfkhccpaa

/-- Operations that hand back a value or die, and neither call nor write. -/
def readsB (o : Oper) : Bool := match o.op with
  | .move _ => true | .assign _ => true | .load _ _ => true | .fieldAddr _ _ _ => true | .indexAddr _ _ _ => true | .binOp _ _ _ _ _ => true | .unOp _ _ _ => true | .convert _ _ _ => true
  | _ => false
theorem value_only {P : Program} {w w' : World} {s : Sem Value} {n : Next} (h : (do pure (.value (← s)) : Sem Next).run P w = .ok n w') : ∃ u, n = .value u := by
  rw [Sem.run_bind] at h
  cases hs : s.run P w with
  | ok v w2 => rw [hs] at h; simp only [Result.andThen, Sem.run_pure] at h; injection h with h1 _; exact ⟨v, h1.symm⟩
  | halt x w2 => rw [hs] at h; simp only [Result.andThen] at h; cases h
theorem reads_value {P : Program} {ρ : Operand → Value} {o : Oper} {w w' : World} {n : Next} (ho : readsB o = true) (h : (execOp ρ o).run P w = .ok n w') : ∃ u, n = .value u := by
  unfold readsB at ho
  unfold execOp at h
  split at ho
  all_goals first
    | (rename_i e; simp only [e] at h; exact value_only h)
    | (rename_i e; simp only [e, Sem.run_pure] at h; injection h with h1 _; exact ⟨_, h1.symm⟩)
    | cases ho

section
variable {P : Program} {ops : Array Oper} {Q : Exit → Act → World → Prop} {md : Region.Mode} {S : World → Prop}

theorem yieldsIf_of_quiet {o : Oper} {v : Value} {a : Act} (ho : readsB o = true) (h : YieldsIn P ops S o v a) : YieldsIf P ops S o v a := by
  refine h.imp (fun ⟨hw, hv⟩ => ⟨hw, fun w hS => ?_⟩) id
  have h1 := hv w hS
  unfold Oper.quietAt at h1
  cases hr : (execOp a.eval o).run P w with
  | ok n w' =>
    obtain ⟨u, rfl⟩ := reads_value ho hr
    rw [hr] at h1
    obtain ⟨rfl, rfl⟩ := h1
    rfl
  | halt x w' => rw [hr] at h1; exact h1.elim

/-- Whatever order is picked among the first n operations; S holds behind each of them. -/
def wpAnyHL (P : Program) (md : Region.Mode) (ops : Array Oper) (Q : Exit → Act → World → Prop) (S : World → Prop) (n : Nat) (L : Array Bool → Act → World → Prop) : Nat → Array Bool → Act → World → Prop
  | 0, listed, a, w => L listed a w
  | f + 1, listed, a, w =>
    Region.ready md ops listed ≠ [] ∧ ∀ i ∈ Region.ready md ops listed, i < n ∧ wpOp P ops Q i (fun a' w' => S w' ∧ wpAnyHL P md ops Q S n L f (listed.setIfInBounds i true) a' w') a w
theorem wpAny_of_HL {n g : Nat} {L : Array Bool → Act → World → Prop} (hL : ∀ listed a w, L listed a w → wpAny P md ops Q g listed a w) :
    ∀ (f : Nat) (listed : Array Bool) (a : Act) (w : World), wpAnyHL P md ops Q S n L f listed a w → wpAny P md ops Q (f + g) listed a w
  | 0, listed, a, w, h => by rw [Nat.zero_add]; exact hL _ _ _ h
  | f + 1, listed, a, w, h => by
    rw [show f + 1 + g = (f + g) + 1 by omega]
    exact ⟨fun h0 => absurd h0 h.1, fun i hi => wpOp_mono (fun a' w' h' => wpAny_of_HL hL f _ a' w' h'.2) (h.2 i hi).2⟩

theorem wpAnyHL_first {n i : Nat} {oi : Oper} {v : Value} {L : Array Bool → Act → World → Prop} (hi : ops[i]? = some oi) (hsel : ∀ (j : Nat) (o : Oper) cs b, ops[j]? = some o → o.op ≠ .select cs b)
    (hQ : ∀ c a w, Q (.panic c) (a.put oi.dst v) w → Q (.panic c) a w)
    (hs : Region.sinkB md ops n = true) (hc : Region.chainB md ops n = true) (hn : n < ops.size) (hin : i < n)
    (hdone : ∀ listed a w, L listed a w → ∀ j ∈ Region.ready md ops listed, n ≤ j) :
    ∀ (f : Nat) (listed : Array Bool) (a : Act) (w : World), HeadInv md ops n listed →
      (∀ j oj, ops[j]? = some oj → j ≠ i → listed.getD j true = false → (∀ e ∈ oj.after, Region.binds md e = true → e.on ≠ i) → oi.apart ops oj = true) →
      i ∈ Region.ready md ops listed → YieldsIf P ops S oi v a → S w →
      wpAnyHL P md ops Q S n L f (listed.setIfInBounds i true) (a.put oi.dst v) w → wpAnyHL P md ops Q S n L (f + 1) listed a w := by
  intro f
  induction f with
  | zero =>
    intro listed a w inv _ hr hy hS H
    have hun := (mem_ready.1 hr).1
    refine ⟨fun h => (by rw [h] at hr; cases hr), fun j hj => ?_⟩
    have hjn : j < n := by
      rcases Nat.lt_or_ge j n with h | h
      · exact h
      · exact absurd hj (tail_waits hs hc hn inv _ i rfl hin hun j h)
    refine ⟨hjn, ?_⟩
    by_cases hji : j = i
    · subst hji; exact hy.wpOp hi hS ⟨hS, H⟩
    · have := hdone _ _ _ H j (ready_mono hj hji)
      omega
  | succ f ih =>
    intro listed a w inv hfree hr hy hS H
    have hun := (mem_ready.1 hr).1
    refine ⟨fun h => (by rw [h] at hr; cases hr), fun j hj => ?_⟩
    have hjn : j < n := by
      rcases Nat.lt_or_ge j n with h | h
      · exact h
      · exact absurd hj (tail_waits hs hc hn inv _ i rfl hin hun j h)
    refine ⟨hjn, ?_⟩
    by_cases hji : j = i
    · subst hji; exact hy.wpOp hi hS ⟨hS, H⟩
    · have h1 := (H.2 j (ready_mono hj hji)).2
      obtain ⟨hjun, oj, hoj, hall⟩ := mem_ready.1 hj
      have hnot : ∀ e ∈ oj.after, Region.binds md e = true → e.on ≠ i := fun e he hb heq => by
        have h1 := hall e he hb
        rw [heq, getD_both hun] at h1
        cases h1
      have h2 := wpOp_putIf hoj (hfree j oj hoj hji hjun hnot) (fun cs b => hsel i oi cs b hi) (fun cs b => hsel j oj cs b hoj) hQ hy h1
      have hfree' : ∀ k ok, ops[k]? = some ok → k ≠ i → (listed.setIfInBounds j true).getD k true = false →
          (∀ e ∈ ok.after, Region.binds md e = true → e.on ≠ i) → oi.apart ops ok = true := fun k ok hk hki hun hno => by
        refine hfree k ok hk hki ?_ hno
        by_cases hjk : j = k
        · subst hjk; exact hjun
        · rw [getD_set_ne true hjk] at hun; exact hun
      refine wpOp_mono (fun a' w' h3 => ⟨h3.2.1, ih (listed.setIfInBounds j true) a' w' (inv.set hj hjn) hfree' (ready_mono hr (Ne.symm hji)) h3.1 h3.2.1 ?_⟩) h2
      rw [Array.setIfInBounds_comm _ _ hji]
      exact h3.2.2

/-- A list of calls, S behind each of them, and what follows. -/
def wpListS (P : Program) (ops : Array Oper) (Q : Exit → Act → World → Prop) (S : World → Prop) : Nat → List Oper → Act → World → Prop
  | 0, rest, a, w => wpList P ops Q rest a w
  | _ + 1, [], _, _ => False
  | m + 1, o :: rest, a, w => if Region.wanted o (yielded ops a.tmps) then o.wp P a w (fun a' w' => S w' ∧ wpListS P ops Q S m rest a' w') Q else S w ∧ wpListS P ops Q S m rest (a.put o.dst undef) w
theorem wpListS_step {m : Nat} {o : Oper} {rest : List Oper} {a : Act} {w : World} (hw : Region.wanted o (yielded ops a.tmps) = true)
    (h : ∀ K : Act → World → Prop, (∀ a' w', S w' → (S w' → wpListS P ops Q S m rest a' w') → K a' w') → o.wp P a w K Q) : wpListS P ops Q S (m + 1) (o :: rest) a w := by
  unfold wpListS
  rw [if_pos hw]
  exact h _ fun a' w' h1 h2 => ⟨h1, h2 h1⟩
theorem wpListS_end {l : List Oper} {a : Act} {w : World} (h : wpList P ops Q l a w) : wpListS P ops Q S 0 l a w := h

/-- The order of the text from number k on: each of the m next is alone, then the last stretch. -/
def seqS (md : Region.Mode) (ops : Array Oper) (g : Nat) : Nat → Nat → Array Bool → Bool
  | 0, k, listed => Region.seqB md ops g k listed
  | m + 1, k, listed => decide (Region.ready md ops listed = [k]) && seqS md ops g m (k + 1) (listed.setIfInBounds k true)
def lexS (md : Region.Mode) (ops : Array Oper) (g m : Nat) : Nat → Nat → Array Bool → Bool
  | 0, k, listed => seqS md ops g m k listed
  | f + 1, k, listed => (Region.ready md ops listed).contains k && Region.free md ops listed k && lexS md ops g m f (k + 1) (listed.setIfInBounds k true)
/-- n operations that read, m calls, the last stretch of at least one. -/
def heldB (md : Region.Mode) (ops : Array Oper) (n m : Nat) : Bool :=
  Region.noSelect ops && decide (n + m < ops.size) && Region.sinkB md ops (n + m) && Region.chainB md ops (n + m) && (ops.toList.take n).all readsB && lexS md ops (ops.size - (n + m)) m n 0 (Array.replicate ops.size false)

theorem wpAnyHL_seq {n g : Nat} : ∀ (m : Nat) (l : List Oper) (k : Nat) (listed : Array Bool) (a : Act) (w : World), (∀ j, l[j]? = ops[k + j]?) → k + m = n → m ≤ l.length → seqS md ops g m k listed = true → S w → wpListS P ops Q S m l a w →
    wpAnyHL P md ops Q S n (fun listed' a' w' => Region.seqB md ops g n listed' = true ∧ wpList P ops Q (l.drop m) a' w') m listed a w
  | 0, l, k, listed, a, w, _, hk, _, hB, _, h => by
    have : k = n := by omega
    subst this
    exact ⟨by simpa [seqS] using hB, by simpa [wpListS] using h⟩
  | m + 1, [], _, _, _, _, _, _, hl, _, _, _ => by simp at hl
  | m + 1, o :: l, k, listed, a, w, hl, hk, hml, hB, hS, h => by
    have h0 : ops[k]? = some o := by simpa using (hl 0).symm
    simp only [seqS, Bool.and_eq_true, decide_eq_true_eq] at hB
    refine ⟨fun h1 => (by rw [hB.1] at h1; cases h1), fun i hi => ?_⟩
    rw [hB.1] at hi
    have hik : i = k := by simpa using hi
    subst hik
    refine ⟨by omega, ?_⟩
    have hnext : ∀ a' w', S w' ∧ wpListS P ops Q S m l a' w' → S w' ∧ wpAnyHL P md ops Q S n (fun listed' a' w' => Region.seqB md ops g n listed' = true ∧ wpList P ops Q (l.drop m) a' w') m (listed.setIfInBounds i true) a' w' := fun a' w' h' =>
      ⟨h'.1, wpAnyHL_seq m l (i + 1) _ a' w' (fun j => by have := hl (j + 1); simpa [Nat.add_assoc, Nat.add_comm 1 j] using this) (by omega) (by simpa using hml) hB.2 h'.1 h'.2⟩
    have hw : wpOp P ops Q i (fun a' w' => S w' ∧ wpListS P ops Q S m l a' w') a w := by
      unfold wpListS at h
      unfold wpOp
      simp only [h0]
      split
      · rename_i hq; rw [if_pos hq] at h; exact .inl h
      · rename_i hq; rw [if_neg hq] at h; exact h
    exact wpOp_mono hnext hw

theorem wpAnyHL_lex {n g m : Nat} (hsel : Region.noSelect ops = true) (hQ : ∀ c d v a w, Q (.panic c) (Act.put a d v) w → Q (.panic c) a w) (hs : Region.sinkB md ops n = true) (hc : Region.chainB md ops n = true) (hn : n < ops.size) (lt : List Oper) :
    ∀ (l : List Oper) (k : Nat) (listed : Array Bool) (a : Act) (w : World), (∀ j, j < l.length → l[j]? = ops[k + j]?) → (∀ j, lt[j]? = ops[k + l.length + j]?) → k + l.length + m = n → m ≤ lt.length → HeadInv md ops n listed → l.all readsB = true →
    lexS md ops g m l.length k listed = true → S w → wpQuiet P ops S (fun a' => wpListS P ops Q S m lt a' w) l a →
    wpAnyHL P md ops Q S n (fun listed' a' w' => Region.seqB md ops g n listed' = true ∧ wpList P ops Q (lt.drop m) a' w') (l.length + m) listed a w
  | [], k, listed, a, w, _, hlt, hk, hml, _, _, hB, hS, h => by
    have h1 := wpAnyHL_seq (P := P) (Q := Q) (S := S) (md := md) (ops := ops) (n := n) (g := g) m lt k listed a w (fun j => by simpa using hlt j) (by simpa using hk) hml (by simpa [lexS] using hB) hS h
    simpa using h1
  | o :: l, k, listed, a, w, hl, hlt, hk, hml, inv, hrd, hB, hS, h => by
    have h0 : ops[k]? = some o := by simpa using (hl 0 (by simp)).symm
    simp only [List.length_cons, lexS, Bool.and_eq_true] at hB
    obtain ⟨⟨hr, hf⟩, hB'⟩ := hB
    simp only [List.all_cons, Bool.and_eq_true] at hrd
    have hkn : k < n := by simp only [List.length_cons] at hk; omega
    have hr' : k ∈ Region.ready md ops listed := by simpa using hr
    have hst : qOp P ops S k (wpQuiet P ops S (fun a' => wpListS P ops Q S m lt a' w) l) a := by unfold qOp; simp only [h0]; exact h
    obtain ⟨v, hy, hK⟩ := yieldsIn_of_qOp h0 hst
    rw [show (o :: l).length + m = (l.length + m) + 1 by simp only [List.length_cons]; omega]
    exact wpAnyHL_first h0 (Region.noSelect_spec hsel) (fun c a w => hQ c _ _ a w) hs hc hn hkn (fun listed' a' w' hL => seqB_ready hL.1) (l.length + m) listed a w inv (Region.free_spec h0 hf) hr' (yieldsIf_of_quiet hrd.1 hy) hS
      (wpAnyHL_lex hsel hQ hs hc hn lt l (k + 1) _ _ w (fun j hj => by have := hl (j + 1) (by simp; omega); simpa [Nat.add_assoc, Nat.add_comm 1 j] using this) (fun j => by have := hlt j; simp only [List.length_cons] at this; rwa [show k + 1 + l.length + j = k + (l.length + 1) + j by omega]) (by simp only [List.length_cons] at hk; omega) hml (inv.set hr' hkn) hrd.2 hB' hS hK)

/-- n operations that read what S gives; m calls that keep S; what remains, in the order of the text. -/
theorem wp_region_held_tail {id : Nat} {a : Act} {w : World} {l : List Oper} (n m : Nat) (S : World → Prop) (hm : P.follows .mixedOrders = true) (hB : heldB .any l.toArray n m = true) (hQ : ∀ c d v a w, Q (.panic c) (Act.put a d v) w → Q (.panic c) a w) (hS : S w.drew)
    (h : wpQuiet P l.toArray S (fun a' => wpListS P l.toArray Q S m (l.drop n) a' w.drew) (l.take n) a) : (Code.region id l.toArray true).wp P Q a w := by
  simp only [heldB, Bool.and_eq_true, decide_eq_true_eq] at hB
  obtain ⟨⟨⟨⟨⟨hsel, hn⟩, hs⟩, hc⟩, hrd⟩, hlex⟩ := hB
  have hn' : n + m < l.length := by simpa using hn
  have htl : (l.take n).length = n := by simp; omega
  have hdl : ((l.drop n).drop m).length = l.toArray.size - (n + m) := by rw [List.length_drop, List.length_drop, List.size_toArray]; omega
  have inv0 : HeadInv .any l.toArray (n + m) (Array.replicate l.toArray.size false) :=
    ⟨by simp, fun j oj _ hl => (by rw [getD_replicate_false] at hl; cases hl), fun t _ ht => getD_in (by simpa using ht) (getD_replicate_false _ _)⟩
  have H := wpAnyHL_lex (P := P) (Q := Q) (S := S) (md := .any) (ops := l.toArray) (n := n + m) (g := l.toArray.size - (n + m)) (m := m) hsel hQ hs hc hn (l.drop n) (l.take n) 0 (Array.replicate l.toArray.size false) a w.drew (fun j hj => by
    have hj' : j < n := by rw [htl] at hj; exact hj
    simp [hj']) (fun j => by rw [htl, List.getElem?_drop]; simp) (by rw [htl]; omega) (by rw [List.length_drop]; omega) inv0 (by simpa using hrd) (by rw [htl]; exact hlex) hS h
  refine wp_region_any hm ?_
  have := wpAny_of_HL (Q := Q) (g := l.toArray.size - (n + m)) (fun listed a' w' hL => by
    have := wpAny_of_seq (md := .any) (Q' := Q) ((l.drop n).drop m) (n + m) listed a' w' (fun j => by simp [List.getElem?_drop, Nat.add_assoc]) (by rw [hdl]; exact hL.1) hL.2
    rwa [hdl] at this) _ _ _ _ H
  rw [htl, show n + m + (l.toArray.size - (n + m)) = l.toArray.size by omega] at this
  exact this
/-- The worlds of which F holds. -/
structure Hold (F : World → Prop) where
  W : World
  ok : F W
theorem wp_region_hold {id : Nat} {a : Act} {w : World} {l : List Oper} (n m : Nat) (F : World → Prop) (hm : P.follows .mixedOrders = true) (hB : heldB .any l.toArray n m = true) (hF : F w.drew)
    (h : Inhabited (Hold F) → wpQuiet P l.toArray (fun w' => ∃ b : Hold F, w' = b.W) (fun a' => wpListS P l.toArray (NoPanic Q) F m (l.drop n) a' w.drew) (l.take n) a) : (Code.region id l.toArray true).wp P Q a w := by
  refine wp_region_noPanic (wp_region_held_tail n m (fun w' => ∃ b : Hold F, w' = b.W) hm hB (fun _ _ _ _ _ h => h) ⟨⟨w.drew, hF⟩, rfl⟩ ?_)
  have e : ∀ (k : Nat) (r : List Oper) (a' : Act) (w' : World), wpListS P l.toArray (NoPanic Q) F k r a' w' → wpListS P l.toArray (NoPanic Q) (fun w' => ∃ b : Hold F, w' = b.W) k r a' w' := by
    intro k
    induction k with
    | zero => intro r a' w' h; exact h
    | succ k ih =>
      intro r a' w' h
      cases r with
      | nil => exact h
      | cons o r =>
        unfold wpListS at h ⊢
        split
        · rename_i hq
          rw [if_pos hq] at h
          exact Oper.wp_mono (fun a2 w2 h2 => ⟨⟨⟨w2, h2.1⟩, rfl⟩, ih r a2 w2 h2.2⟩) h
        · rename_i hq
          rw [if_neg hq] at h
          exact ⟨⟨⟨w', h.1⟩, rfl⟩, ih r _ w' h.2⟩
  have q : ∀ (r : List Oper) (a' : Act), wpQuiet P l.toArray (fun w' => ∃ b : Hold F, w' = b.W) (fun a' => wpListS P l.toArray (NoPanic Q) F m (l.drop n) a' w.drew) r a' → wpQuiet P l.toArray (fun w' => ∃ b : Hold F, w' = b.W) (fun a' => wpListS P l.toArray (NoPanic Q) (fun w' => ∃ b : Hold F, w' = b.W) m (l.drop n) a' w.drew) r a' := by
    intro r
    induction r with
    | nil => intro a' h; exact e _ _ _ _ h
    | cons o r ih =>
      intro a' h
      unfold wpQuiet at h ⊢
      split
      · rename_i hq; rw [if_pos hq] at h; exact Oper.quiet_mono (fun a2 h2 => ih a2 h2) h
      · rename_i hq; rw [if_neg hq] at h; exact ih _ h
  exact q _ _ (h ⟨⟨w.drew, hF⟩⟩)
end
end Go.Proofs.Ytbhphamfkhccpaa
