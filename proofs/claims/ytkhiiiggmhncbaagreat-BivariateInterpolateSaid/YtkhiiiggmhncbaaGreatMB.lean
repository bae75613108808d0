/- Texts joined: Frame, PTail, PMem, Field, Ref01, PBase, PMul, PAdd, PBack, PEval, PDivM, PDiv, PDivI, PDivR, PRef, PRefMul, PAwake, POpen. Each says its own conditions. -/
import Derived.Test.YtkhiiiggmhncbaaGreatRows
import Derived.WalkKit
import Derived.ProofKit
import Derived.OpenShut
import Derived.Below
import Derived.ChangeSame
import Derived.Lib.SmallJoins
import Derived.StillTailTactics
import Derived.RangeFuncNested
import Derived.RangeFuncBound
import Derived.RangeFuncCalls
import Derived.RangeFuncLeaves
import Derived.RangeFuncBox
import Derived.OrdersIn
import Derived.Test.YtkhiiiggmhncbaaGreatProg
import Derived.Deep.QuietTactic
import Derived.BigQuiet
import Derived.Lib.Hide
import Derived.WalkSmall
import Derived.Laws.OwnMore
import Derived.Laws.AppendOwnNone
import Derived.Test.YtkhiiiggmhncbaaGreatMA
import Derived.WalkLawsBesides
import Derived.Lib.Mul64
import Derived.Laws.Bits64b
import Derived.KernelRfl
import Derived.Outline
import Derived.Lib.SliceRun
import Derived.Shelf.Abstract
import Derived.Stop.RegionWithIn
import Derived.OwnWalkIn
import Derived.TacticsInMore
import Derived.LoopNIn
import Derived.LoopIn
import Derived.Deep.RegionHeld3
import Derived.IntWalk
import Derived.Maps.AppendAt
import Derived.ChangeSlices
import Derived.Carry
/- The last step of a row where the call has only made new memory. -/
namespace Go.Proofs.YtkhiiiggmhncbaaGreat
set_option maxRecDepth 100000
open Go.RowKit Go.WideShapes Go.ChangeShapes Go.ChangeAt

theorem own : ownKnob Tryz.prog.godebug = none := by kernel_rfl

section
variable {H : Type} {enc : TypeId × Value → H} {P : Program}
theorem post_of_below {f : Func} {s : ChangeSpec} {apart fresh handsOn again : Bool} {W W' : World} {args : Array Value} {v : Value} {ds gs : List (DataW H)} {before pa pv : List MemPlace}
    (hW : DataW.Whole enc P f.params.toList s.vars apart W args.toList ds gs before)
    (hres : ∀ (b : Nat) (sp : Nat → Bool) (hd : Bool), DataW.TrodAll enc P W' b sp hd f.resultTypes.toList (v.resultList f.resultTypes.size) (s.fn H (ds ++ gs)).results [])
    (hargs : ∀ sp : Nat → Bool, (∀ p ∈ before, sp p.block = true) → DataW.TrodAll enc P W' 0 sp true f.params.toList args.toList (s.fn H (ds ++ gs)).args pa)
    (hvars : ∀ sp : Nat → Bool, (∀ p ∈ before, sp p.block = true) → DataW.TrodVars enc P W' sp s.vars (s.fn H (ds ++ gs)).vars pv)
    (hps : before = pa ++ pv) (hb : Below W.heap.size W W')
    (hok : ∀ (j : Nat) (t : TypeId) (r : Value), f.resultTypes[j]? = some t → (v.resultList f.resultTypes.size)[j]? = some r → Value.okWide P W' .any 0 t r) :
    s.post enc P f apart fresh handsOn again W args v W' := by
  have hlt : ∀ p ∈ before, p.block < W.heap.size := fun p hp => hW.lt p hp
  have hold : ∀ p ∈ before, (fun b => decide (b < W.heap.size)) p.block = true := fun p hp => by simpa using hlt p hp
  refine ⟨ds, gs, before, [], pa, pv, hW, hres _ _ _, hargs _ hold, hvars _ hold, World.keptBut_mono (fun p hp => ⟨hp, ?_⟩) (hb.frame (· ∈ before)), fun _ => ?_⟩
  · rw [hps, List.mem_append] at hp
    exact Or.inr hp
  · obtain ⟨_, _, _, _, _, hz, hn⟩ := hW
    refine ⟨hok, _, _, ([] ++ pa) ++ pv, ⟨[] ++ pa, pv, trodAll_append (hargs _ (fun _ _ => rfl)) (hres _ _ _), hvars _ (fun _ _ => rfl), rfl, ?_, ?_⟩, ?_⟩
    · intro b off hp
      have hin : MemPlace.cell b off ∈ before := by rw [hps]; simpa using hp
      rw [hb.frozen (hlt _ hin)]
      exact hz b off hin
    · intro ha
      have := hn ha
      rw [hps] at this
      simpa using this
    · intro p hp _
      rw [hps]
      simpa using hp
end

end Go.Proofs.YtkhiiiggmhncbaaGreat

/- A region that draws its order, whose operations all read or call quietly but for a last store, inside a round of a range over a function: walked once, in the order of the text. No conditions. -/
namespace Go.Proofs.YtkhiiiggmhncbaaGreat
set_option maxRecDepth 100000
open Go.RowKit

section
variable {P : Program} {n l₀ : Nat}

theorem uponIn_of_upon {o : Oper} {a : Act} {next : Act → World → Prop} {Q : Exit → Act → World → Prop} {r : Result Next} (h : o.upon P a next Q r) : o.uponIn (Fence.wide.inRound l₀) n P a next Q r := by
  cases r with
  | ok x w' =>
    cases x with
    | value v => exact h
    | skip => exact h
    | defer d => exact h
    | enter f args => exact ⟨fun hd => Bool.noConfusion hd, (callsIn_wide (n := n - 1)).2 h⟩
    | row row args => exact ⟨fun hd => Bool.noConfusion hd, fun c cs _ => let ⟨v, w'', r, s⟩ := h c cs; ⟨v, w'', r, stepsIn_wide.2 s⟩⟩
    | _ => exact h.elim
  | halt x w' =>
    cases x with
    | panic v => exact h
    | _ => exact h.elim

theorem opIn_of_op {ops : Array Oper} {Q : Exit → Act → World → Prop} (hQ : ¬ LetsOut Q) (hd : ∀ (i : Nat) (o : Oper) c, ops[i]? = some o → o.op ≠ .defer c) {i : Nat} {K K' : Act → World → Prop} (hK : ∀ a w, K a w → K' a w) {a : Act} {w : World}
    (h : wpOp P ops Q i K a w) : wpOpIn (Fence.wide.inRound l₀) n P ops Q i K' a w := by
  unfold wpOp at h
  unfold wpOpIn
  cases ho : ops[i]? with
  | none => rw [ho] at h; exact hK _ _ h
  | some o =>
    rw [ho] at h
    dsimp only at h ⊢
    split at h
    · rename_i hw
      rw [if_pos hw]
      rcases h with h | ⟨_, h⟩
      · refine ⟨fun _ _ => trivial, ?_⟩
        rw [show (Fence.wide.inRound l₀).round = some l₀ from rfl, Oper.semAt_eq _ _ _ (fun c => hd i o c ho)]
        exact uponIn_of_upon (Oper.wp_mono hK h)
      · exact absurd h hQ
    · rename_i hw
      rw [if_neg hw]
      exact ⟨fun _ _ => trivial, hK _ _ h⟩

theorem anyIn_of_any {ops : Array Oper} {md : Region.Mode} {Q : Exit → Act → World → Prop} (hQ : ¬ LetsOut Q) (hd : ∀ (i : Nat) (o : Oper) c, ops[i]? = some o → o.op ≠ .defer c) :
    ∀ (fuel : Nat) (listed : Array Bool) (a : Act) (w : World), wpAny P md ops Q fuel listed a w → wpAnyIn (Fence.wide.inRound l₀) n P md ops Q fuel listed a w := by
  intro fuel
  induction fuel with
  | zero => intro listed a w h; exact h
  | succ fuel ih => intro listed a w h; exact ⟨h.1, fun i hi => opIn_of_op hQ hd (fun a w => ih _ a w) (h.2 i hi)⟩

/-- No operation defers. -/
def noDefer (l : List Oper) : Bool := l.all fun o => match o.op with | .defer _ => false | _ => true
theorem noDefer_spec {l : List Oper} (h : noDefer l = true) : ∀ (i : Nat) (o : Oper) c, l.toArray[i]? = some o → o.op ≠ .defer c := by
  intro i o c hi e
  have hm : o ∈ l := by rw [List.getElem?_toArray] at hi; exact List.mem_of_getElem? hi
  have := List.all_eq_true.1 h o hm
  rw [e] at this
  exact Bool.noConfusion this

/-- One end for every order. -/
theorem anyTail {Q : Exit → Act → World → Prop} {a : Act} {w : World} {l : List Oper} (m : Nat) (hB : Region.lexTailB .any l.toArray m = true)
    (h : wpStill P l.toArray w (fun a' => wpList P l.toArray Q (l.drop m) a' w) (l.take m) a) : wpAny P .any l.toArray Q l.toArray.size (Array.replicate l.toArray.size false) a w := by
  simp only [Region.lexTailB, Bool.and_eq_true, decide_eq_true_eq] at hB
  obtain ⟨⟨⟨⟨hsel, hn⟩, hs⟩, hc⟩, hlex⟩ := hB
  have hn' : m < l.length := by simpa using hn
  have htl : (l.take m).length = m := by simp; omega
  have hdl : (l.drop m).length = l.toArray.size - m := by simp
  have inv0 : HeadInv .any l.toArray m (Array.replicate l.toArray.size false) :=
    ⟨by simp, fun j oj _ hl => (by rw [getD_replicate_false] at hl; cases hl), fun t _ ht => getD_in (by simpa using ht) (getD_replicate_false _ _)⟩
  have H := wpAnyL_lex (md := .any) (g := l.toArray.size - m) hsel hs hc hn (l.take m) 0 _ a (fun j hj => by
    have hj' : j < m := by rw [htl] at hj; exact hj
    simp [hj']) (by simpa using htl) inv0 (by rw [htl]; exact hlex) h
  have := wpAny_of_head (Q' := Q) (g := l.toArray.size - m) (fun listed a' hL => by
    have := wpAny_of_seq (md := .any) (Q' := Q) (l.drop m) m listed a' w (fun j => by simp [List.getElem?_drop]) (by rw [hdl]; exact hL.1) hL.2
    rwa [hdl] at this) _ _ _ H
  rw [htl, show m + (l.toArray.size - m) = l.toArray.size by omega] at this
  exact this

theorem wpIn_tail {id : Nat} {Q : Exit → Act → World → Prop} {a : Act} {w : World} {l : List Oper} (m : Nat) (hm : P.follows .mixedOrders = true) (hB : Region.lexTailB .any l.toArray m = true) (hd : noDefer l = true)
    (h : wpStill P l.toArray w.drew (fun a' => wpList P l.toArray (fun e a'' w'' => e = .normal ∧ Q .normal a'' w'') (l.drop m) a' w.drew) (l.take m) a) : (Code.region id l.toArray true).wpIn (Fence.wide.inRound l₀) n P Q a w := by
  have h1 := anyIn_of_any (n := n) (l₀ := l₀) (Q := fun e a'' w'' => e = .normal ∧ Q .normal a'' w'') (fun ⟨_, _, e, _⟩ => absurd e (by simp)) (noDefer_spec hd) _ _ _ _ (anyTail m hB h)
  have h2 := wpIn_region_any (id := id) hm h1
  exact Code.wpIn_mono (fun e a' w' ⟨he, hq⟩ => by subst he; exact hq) h2
end
end Go.Proofs.YtkhiiiggmhncbaaGreat

/- A slice of words that reads as a list, nil let in, with its capacity; slices that a call makes. No conditions. -/
namespace Go.Proofs.YtkhiiiggmhncbaaGreat
set_option maxRecDepth 100000
open Go.RowKit

/-- The slice at A with capacity c holds the words xs. -/
structure Sl (w : World) (A : Option Addr) (c : Nat) (xs : List Int) : Prop where
  cap : xs.length ≤ c
  nil : A = none → c = 0
  rd : ∀ ad, A = some ad → xs ≠ [] → ∃ b off, ad = ⟨b, off, none⟩ ∧ b < w.heap.size ∧ ∀ j x, xs[j]? = some x → w.cell? ⟨b, off + j, none⟩ = some (.int .u64 x)

section
variable {w w' : World} {A : Option Addr} {c : Nat} {xs : List Int}
theorem Sl.nothing (w : World) : Sl w none 0 [] := ⟨Nat.le_refl _, (fun _ => rfl), (fun _ h => absurd h (by simp))⟩
theorem Sl.blank (w : World) (ad : Addr) (c : Nat) : Sl w (some ad) c [] := ⟨Nat.zero_le _, (fun h => absurd h (by simp)), (fun _ _ h => absurd rfl h)⟩
theorem Sl.at_ {k : Nat} (h : Sl w A c xs) (hk : k < xs.length) : ∃ b off x, A = some ⟨b, off, none⟩ ∧ b < w.heap.size ∧ xs[k]? = some x ∧ w.cell? ⟨b, off + k, none⟩ = some (.int .u64 x) := by
  cases hA : A with
  | none => have := h.nil hA; have := h.cap; omega
  | some ad =>
    obtain ⟨b, off, rfl, hb, hc⟩ := h.rd ad hA (fun e => by rw [e] at hk; simp at hk)
    exact ⟨b, off, xs[k], rfl, hb, List.getElem?_eq_getElem hk, hc k _ (List.getElem?_eq_getElem hk)⟩
theorem Sl.keep (h : Sl w A c xs) (hs : w.heap.size ≤ w'.heap.size) (hk : ∀ p : Addr, p.block < w.heap.size → w'.cell? p = w.cell? p) : Sl w' A c xs :=
  ⟨h.cap, h.nil, fun ad hA hn => by
    obtain ⟨b, off, e, hb, hc⟩ := h.rd ad hA hn
    exact ⟨b, off, e, by omega, fun j x hx => (hk ⟨b, off + j, none⟩ hb).trans (hc j x hx)⟩⟩
theorem Sl.next (h : Sl w A c xs) (hb : Below w.heap.size w w') : Sl w' A c xs := h.keep hb.size fun _ hp => hb.cell hp
theorem Sl.take (h : Sl w A c xs) (k : Nat) : Sl w A c (xs.take k) :=
  ⟨by have := h.cap; rw [List.length_take]; omega, h.nil, fun ad hA hn => by
    obtain ⟨b, off, e, hb, hc⟩ := h.rd ad hA (fun e => hn (by rw [e]; simp))
    exact ⟨b, off, e, hb, fun j x hx => hc j x (by rw [List.getElem?_take] at hx; split at hx <;> first | exact hx | cases hx)⟩⟩
theorem Sl.push (h : Sl w A c xs) (o : Obj) : Sl (w.alloc o) A c xs := h.next ((Below.refl _ w).alloc (Nat.le_refl _) o)
theorem Sl.empty (h : Sl w A c xs) (hA : A = none) : xs = [] ∧ c = 0 := by
  have h1 := h.nil hA; have h2 := h.cap
  exact ⟨List.eq_nil_of_length_eq_zero (by omega), h1⟩
end

/-- A call hands back the words ys in a slice; what lay before lies as before. -/
def Row (w : World) (e : Ending) (w' : World) (ys : List Int) : Prop :=
  ∃ A c, e = .returned (.slice A ys.length c) ∧ Sl w' A c ys ∧ Below w.heap.size w w'

theorem info_u64 : (Tryz.prog.info? 22).map (fun i => (i.zero, i.size, i.bytes)) = some (some (.int .u64 0), 1, 8) := by kernel_rfl

theorem Sl.of_own {w : World} {base : Nat} {A : Option Addr} {n c : Nat} {xs : List Int} (h : w.ownsRow base 22 1 (.slice A n c) n (xs.map (Value.int .u64))) : Sl w A c xs := by
  have hl : xs.length = n := by simpa using h.1
  rcases h.2 with ⟨hv, h0⟩ | ⟨g, cap, cur, hv, _, hh, h1, h2, h3, h4⟩
  · injection hv with hA hn hc
    subst hA hc
    exact ⟨by omega, (fun _ => rfl), (fun _ h => absurd h (by simp))⟩
  · injection hv with hA hn hc
    subst hA hc
    refine ⟨by omega, (fun h => absurd h (by simp)), (fun ad hA _ => ?_)⟩
    injection hA with hA
    subst hA
    refine ⟨g, 0, rfl, (Array.getElem?_eq_some_iff.1 hh).1, fun j x hx => ?_⟩
    have hj := (List.getElem?_eq_some_iff.1 hx).1
    have h5 : (cur.toList.take (n * 1))[j]? = some (.int .u64 x) := by rw [h4, List.getElem?_map, hx]; rfl
    rw [List.getElem?_take, if_pos (by omega), Array.getElem?_toList] at h5
    rw [cell_of_row w g (0 + j) cur 22 (0, 0) hh, Nat.zero_add]
    exact h5
theorem own_form {w : World} {base n : Nat} {v : Value} {xs : List Int} (h : w.ownsRow base 22 1 v n (xs.map (Value.int .u64))) : ∃ A c, v = .slice A xs.length c ∧ Sl w A c xs := by
  have hl : xs.length = n := by simpa using h.1
  rcases h.2 with ⟨rfl, h0⟩ | ⟨g, cap, cur, rfl, _, _, hc, _⟩
  · subst h0; exact ⟨none, 0, by rw [hl], Sl.of_own h⟩
  · exact ⟨some ⟨g, 0, none⟩, cap, by rw [hl], Sl.of_own h⟩
theorem own_below {w w' : World} {base t n : Nat} {v : Value} {xs : List Value} (h : w.ownsRow base t 1 v n xs) (hb : Below w.heap.size w w') : w'.ownsRow base t 1 v n xs := by
  refine ⟨h.1, h.2.imp id ?_⟩
  rintro ⟨g, cap, cur, hv, h1, hh, r⟩
  exact ⟨g, cap, cur, hv, h1, (hb.block g (Array.getElem?_eq_some_iff.1 hh).1).trans hh, r⟩
theorem bnew {B : Nat} {a w : World} (h : Below B a w) (o : Obj) (hB : B ≤ a.heap.size) : Below B a (w.alloc o) := h.alloc (Nat.le_trans hB h.size) o
theorem Sl.lit (w : World) (xs : List Int) : Sl (w.alloc (.cells (xs.map (Value.int .u64)).toArray 22)) (some ⟨w.heap.size, 0, none⟩) xs.length xs :=
  ⟨Nat.le_refl _, (fun h => absurd h (by simp)), fun ad hA _ => by
    injection hA with hA
    subst hA
    refine ⟨w.heap.size, 0, rfl, by simp, fun j x hx => ?_⟩
    rw [cell_of_row _ w.heap.size (0 + j) (xs.map (Value.int .u64)).toArray 22 (0, 0) (heap_alloc_new w _)]
    simp [hx]⟩
theorem Sl.l2 (w : World) (x y : Int) : Sl (w.alloc (.cells #[.int .u64 x, .int .u64 y] 22)) (some ⟨w.heap.size, 0, none⟩) 2 [x, y] := Sl.lit w [x, y]
theorem Sl.l3 (w : World) (x y z : Int) : Sl (w.alloc (.cells #[.int .u64 x, .int .u64 y, .int .u64 z] 22)) (some ⟨w.heap.size, 0, none⟩) 3 [x, y, z] := Sl.lit w [x, y, z]
theorem Sl.l1 (w : World) (x : Int) : Sl (w.alloc (.cells #[.int .u64 x] 22)) (some ⟨w.heap.size, 0, none⟩) 1 [x] := Sl.lit w [x]
theorem take_all {α : Type} {l : List α} {n : Nat} (h : l.length ≤ n) : l.take n = l := List.take_of_length_le h
theorem take_next {α : Type} {xs ys : List α} {k : Nat} {x : α} (hx : xs[k]? = some x) (hy : ys[k]? = some x) (h : xs.take k = ys.take k) : xs.take (k + 1) = ys.take (k + 1) := by
  rw [List.take_add_one, List.take_add_one, hx, hy, h]
end Go.Proofs.YtkhiiiggmhncbaaGreat

/- Contracts of package field and of what it calls of math/bits, at every supported prime and at all elements of its field. -/
namespace Go.Proofs.YtkhiiiggmhncbaaGreat
set_option maxRecDepth 100000
open Go.RowKit Go.Lib FieldMath

namespace Words
theorem maskN (a : Nat) (ha : a < 18446744073709551616) : bits .and .u64 (a : Int) 4294967295 = ((a % 4294967296 : Nat) : Int) := by
  have h := bits_and_u64_nat a 4294967295 ha (by omega)
  have e : a &&& 4294967295 = a % 4294967296 := Nat.and_two_pow_sub_one_eq_mod a 32
  rw [e] at h
  exact h
theorem divN (a : Nat) : (a : Int) / 4294967296 = ((a / 4294967296 : Nat) : Int) := by omega
theorem mulN (a b : Nat) : (a : Int) * (b : Int) = ((a * b : Nat) : Int) := (Int.natCast_mul a b).symm
theorem addN (a b : Nat) : (a : Int) + (b : Int) = ((a + b : Nat) : Int) := (Int.natCast_add a b).symm
theorem wrapN (a : Nat) (ha : a < 18446744073709551616) : IntKind.u64.wrap (a : Int) = (a : Int) := by rw [IntKind.wrap_u64]; omega
theorem wrapM (a : Nat) : IntKind.u64.wrap (a : Int) = ((a % 18446744073709551616 : Nat) : Int) := by rw [IntKind.wrap_u64]; omega
end Words

set_option maxHeartbeats 1000000 in
theorem mul64_nat (x y : Nat) (hx : x < 18446744073709551616) (hy : y < 18446744073709551616) (w : World) :
    Calls Tryz.prog 57 #[.int .u64 x, .int .u64 y] w fun e w' => e = .returned (.tuple #[.int .u64 ((x * y / 18446744073709551616 : Nat) : Int), .int .u64 ((x * y % 18446744073709551616 : Nat) : Int)]) ∧ w = w' := by
  obtain ⟨bd, bt, bw, hhi⟩ := Lib.mul64_hi x y hx hy
  have ba := Lib.half_mul_le (a := x / 4294967296) (b := y / 4294967296) (by omega) (by omega)
  have bb := Lib.half_mul_le (a := x / 4294967296) (b := y % 4294967296) (by omega) (by omega)
  have bc := Lib.half_mul_le (a := x % 4294967296) (b := y / 4294967296) (by omega) (by omega)
  have ba' : x / 4294967296 * (y / 4294967296) < 18446744073709551616 := by omega
  have bb' : x / 4294967296 * (y % 4294967296) < 18446744073709551616 := by omega
  have bc' : x % 4294967296 * (y / 4294967296) < 18446744073709551616 := by omega
  have bh1 : x / 4294967296 * (y / 4294967296) + (x / 4294967296 * (y % 4294967296) + x % 4294967296 * (y % 4294967296) / 4294967296) / 4294967296 < 18446744073709551616 := by omega
  have bh : x / 4294967296 * (y / 4294967296) + (x / 4294967296 * (y % 4294967296) + x % 4294967296 * (y % 4294967296) / 4294967296) / 4294967296 + ((x / 4294967296 * (y % 4294967296) + x % 4294967296 * (y % 4294967296) / 4294967296) % 4294967296 + x % 4294967296 * (y / 4294967296)) / 4294967296 < 18446744073709551616 := by omega
  go_enter Tryz.func57, Tryz.ntmps57
  go_wp2
  simp only [Words.maskN x hx, Words.maskN y hy, Words.divN, Words.mulN, Words.addN, Words.wrapN _ bd, Words.wrapN _ bb', Words.wrapN _ bt, Words.maskN _ bt, Words.wrapN _ bc', Words.wrapN _ bw, Words.wrapN _ ba', Words.wrapN _ bh1, Words.wrapN _ bh, Words.wrapM (x * y)]
  rw [hhi]
  go_ret2
  exact ⟨rfl, rfl⟩

/-- The two halves of a product. -/
def hi64 (a b : Int) : Int := a * b / 18446744073709551616
def lo64 (a b : Int) : Int := a * b % 18446744073709551616

theorem mul64_any (a b : Int) (ha0 : 0 ≤ a) (ha : a ≤ 18446744073709551615) (hb0 : 0 ≤ b) (hb : b ≤ 18446744073709551615) (w : World) :
    Calls Tryz.prog 57 #[.int .u64 a, .int .u64 b] w fun e w' => e = .returned (.tuple #[.int .u64 (hi64 a b), .int .u64 (lo64 a b)]) ∧ w = w' := by
  obtain ⟨x, rfl⟩ := Int.eq_ofNat_of_zero_le ha0
  obtain ⟨y, rfl⟩ := Int.eq_ofNat_of_zero_le hb0
  refine (mul64_nat x y (by omega) (by omega) w).mono fun e w' ⟨he, hw⟩ => ⟨?_, hw⟩
  rw [he]
  unfold hi64 lo64
  rw [Words.mulN, Int.natCast_ediv, Int.natCast_emod]
  rfl

/-- The exponent of a supported prime. -/
def qOf (p : Int) : Int := if p = 31 then 5 else if p = 127 then 7 else if p = 8191 then 13 else if p = 131071 then 17 else if p = 524287 then 19 else if p = 2147483647 then 31 else if p = 2305843009213693951 then 61 else 0

set_option maxRecDepth 100000 in
set_option maxHeartbeats 4000000 in
theorem len64_any (p : Int) (hp : OkP p) (w : World) : Calls Tryz.prog 58 #[.int .u64 p] w fun e w' => e = .returned (.int .i64 (qOf p)) ∧ w = w' := by
  rcases hp with rfl | rfl | rfl | rfl | rfl | rfl | rfl
  all_goals
    go_enter Tryz.func58, Tryz.ntmps58
    go_wp2
    go_ret
    exact ⟨by kernel_rfl, rfl⟩

theorem subOnce_any (p n : Int) (hn0 : 0 ≤ n) (hp0 : 0 < p) (hn : n < 2 * p) (hp : p ≤ 2305843009213693951) (w : World) :
    Calls Tryz.prog 56 #[.int .u64 p, .int .u64 n] w fun e w' => e = .returned (.int .u64 (n % p)) ∧ w = w' := by
  by_cases h : p ≤ n
  · have e : n % p = n - p := by
      rw [show n = (n - p) + p * 1 from by omega, Int.add_mul_emod_self_left, Int.emod_eq_of_lt (by omega) (by omega)]; omega
    rw [e]; clear e
    go_enter Tryz.func56, Tryz.ntmps56
    go_wp2
    go_ret
    exact ⟨rfl, rfl⟩
  · have e : n % p = n := Int.emod_eq_of_lt (by omega) (by omega)
    rw [e]; clear e
    go_enter Tryz.func56, Tryz.ntmps56
    go_wp2
    go_ret
    exact ⟨rfl, rfl⟩

theorem add_any (p a b : Int) (hp : OkP p) (ha0 : 0 ≤ a) (ha : a < p) (hb0 : 0 ≤ b) (hb : b < p) (w : World) :
    Calls Tryz.prog 31 #[.int .u64 p, .int .u64 a, .int .u64 b] w fun e w' => e = .returned (.int .u64 (fadd p a b)) ∧ w = w' := by
  have hbd := hp.bd
  unfold fadd
  go_enter Tryz.func31, Tryz.ntmps31
  go_wp2_with (go_at_call 56; refine (subOnce_any _ _ (by omega) (by omega) (by omega) (by omega) _).mono ?_; rintro e w' ⟨rfl, rfl⟩)
  go_ret
  exact ⟨rfl, rfl⟩

theorem sub_any (p a b : Int) (hp : OkP p) (ha0 : 0 ≤ a) (ha : a < p) (hb0 : 0 ≤ b) (hb : b < p) (w : World) :
    Calls Tryz.prog 84 #[.int .u64 p, .int .u64 a, .int .u64 b] w fun e w' => e = .returned (.int .u64 (fsub p a b)) ∧ w = w' := by
  have hbd := hp.bd
  by_cases h : b ≤ a
  · have e : fsub p a b = a - b := Int.emod_eq_of_lt (by omega) (by omega)
    rw [e]; clear e
    go_enter Tryz.func84, Tryz.ntmps84
    go_wp2
    go_ret
    exact ⟨rfl, rfl⟩
  · have e : fsub p a b = a + (p - b) := by
      unfold fsub
      rw [show a - b = a + (p - b) + p * (-1) from by omega, Int.add_mul_emod_self_left, Int.emod_eq_of_lt (by omega) (by omega)]
    rw [e]; clear e
    go_enter Tryz.func84, Tryz.ntmps84
    go_wp2
    go_ret
    exact ⟨rfl, rfl⟩

theorem neg_any (p a : Int) (hp : OkP p) (ha0 : 0 ≤ a) (ha : a < p) (w : World) :
    Calls Tryz.prog 86 #[.int .u64 p, .int .u64 a] w fun e w' => e = .returned (.int .u64 (fneg p a)) ∧ w = w' := by
  have hbd := hp.bd
  have e : fneg p a = fsub p 0 a := by unfold fneg fsub; rw [Int.zero_sub]
  rw [e]; clear e
  go_enter Tryz.func86, Tryz.ntmps86
  go_wp2_with (go_at_call 84; refine (sub_any _ _ _ hp (by omega) (by omega) (by omega) (by omega) _).mono ?_; rintro e w' ⟨rfl, rfl⟩)
  go_ret
  exact ⟨rfl, rfl⟩

/-- The folded product: the lowest q bits plus the bits above them. -/
def mid (p a b : Int) : Int := a * b % (p + 1) + a * b / (p + 1)

theorem fold_nat (q k P x : Nat) (hk : k + q = 64) (hP : P + 1 = 2 ^ q) (hq : q ≤ 61) (hx : x < P * P) :
    IntKind.u64.wrap (bits .and .u64 ((x % 18446744073709551616 : Nat) : Int) (P : Int) + bits .or .u64 (IntKind.u64.wrap (((x / 18446744073709551616 : Nat) : Int) * 2 ^ k)) (((x % 18446744073709551616 : Nat) : Int) / 2 ^ q)) = ((x % 2 ^ q + x / 2 ^ q : Nat) : Int) ∧ x % 2 ^ q + x / 2 ^ q < 2 * P := by
  have h64 : (18446744073709551616 : Nat) = 2 ^ k * 2 ^ q := by rw [← Nat.pow_add, hk]
  have hq61 : (2 : Nat) ^ q ≤ 2 ^ 61 := Nat.pow_le_pow_right (by omega) hq
  have hq0 : 0 < (2 : Nat) ^ q := Nat.pow_pos (by omega)
  have hk0 : 0 < (2 : Nat) ^ k := Nat.pow_pos (by omega)
  have hPP : P * P < 2 ^ q * P := Nat.mul_lt_mul_of_pos_right (by omega) (by rcases Nat.eq_zero_or_pos P with h | h; (subst h; omega); exact h)
  have hlo : x % 18446744073709551616 < 18446744073709551616 := Nat.mod_lt _ (by omega)
  -- the mask
  have e1 : bits .and .u64 ((x % 18446744073709551616 : Nat) : Int) (P : Int) = ((x % 2 ^ q : Nat) : Int) := by
    rw [bits_and_u64_nat _ P hlo (by omega), show P = 2 ^ q - 1 from by omega, Nat.and_two_pow_sub_one_eq_mod, h64, Nat.mod_mul_left_mod]
  -- the upper part
  have hdiv : x / 2 ^ q < P := Nat.div_lt_of_lt_mul (by omega)
  have e0 : x / 18446744073709551616 * 2 ^ k + x % 18446744073709551616 / 2 ^ q = x / 2 ^ q := by
    have hxe : x = x % 18446744073709551616 + 2 ^ q * (x / 18446744073709551616 * 2 ^ k) := by
      have := Nat.mod_add_div x 18446744073709551616
      rw [show 2 ^ q * (x / 18446744073709551616 * 2 ^ k) = 2 ^ k * 2 ^ q * (x / 18446744073709551616) from by rw [Nat.mul_comm (x / 18446744073709551616), ← Nat.mul_assoc, Nat.mul_comm (2 ^ q)], ← h64]
      exact this.symm
    conv => rhs; rw [hxe]
    rw [Nat.add_mul_div_left _ _ hq0, Nat.add_comm]
  have hhi : x / 18446744073709551616 * 2 ^ k < 18446744073709551616 := by
    have h1 : x / 18446744073709551616 * 2 ^ k ≤ x / 2 ^ q := by rw [← e0]; exact Nat.le_add_right _ _
    omega
  have e2 : IntKind.u64.wrap (((x / 18446744073709551616 : Nat) : Int) * 2 ^ k) = ((x / 18446744073709551616 * 2 ^ k : Nat) : Int) := by
    rw [show ((x / 18446744073709551616 : Nat) : Int) * 2 ^ k = ((x / 18446744073709551616 * 2 ^ k : Nat) : Int) from by rw [Int.natCast_mul, Int.natCast_pow]; rfl]
    exact Words.wrapN _ hhi
  have hl : x % 18446744073709551616 / 2 ^ q < 2 ^ k := Nat.div_lt_of_lt_mul (by rw [Nat.mul_comm, ← h64]; exact hlo)
  have e3 : bits .or .u64 (IntKind.u64.wrap (((x / 18446744073709551616 : Nat) : Int) * 2 ^ k)) (((x % 18446744073709551616 : Nat) : Int) / 2 ^ q) = ((x / 2 ^ q : Nat) : Int) := by
    rw [e2, show ((x % 18446744073709551616 : Nat) : Int) / 2 ^ q = ((x % 18446744073709551616 / 2 ^ q : Nat) : Int) from by rw [Int.natCast_ediv, Int.natCast_pow]; rfl]
    rw [bits_or_u64_nat _ _ hhi (Nat.lt_of_le_of_lt (Nat.div_le_self _ _) hlo), ← Nat.shiftLeft_eq, ← Nat.shiftLeft_add_eq_or_of_lt hl, Nat.shiftLeft_eq, e0]
  have hm : x % 2 ^ q < 2 ^ q := Nat.mod_lt _ hq0
  refine ⟨?_, by omega⟩
  rw [e1, e3, ← Int.natCast_add]
  exact Words.wrapN _ (by omega)

theorem mid_mod (p a b : Int) : mid p a b % p = fmul p a b := by
  unfold mid fmul
  have e := Int.emod_add_mul_ediv (a * b) (p + 1)
  conv => rhs; rw [← e]
  rw [Int.add_mul, Int.one_mul, show a * b % (p + 1) + (p * (a * b / (p + 1)) + a * b / (p + 1)) = a * b % (p + 1) + a * b / (p + 1) + p * (a * b / (p + 1)) from by omega, Int.add_mul_emod_self_left]

theorem fold_int (p a b : Int) (hp : OkP p) (ha0 : 0 ≤ a) (ha : a < p) (hb0 : 0 ≤ b) (hb : b < p) :
    IntKind.u64.wrap (bits .and .u64 (lo64 a b) p + bits .or .u64 (IntKind.u64.wrap (hi64 a b * 2 ^ min (IntKind.u64.wrap (64 - IntKind.u64.wrap (qOf p))).toNat 64)) (lo64 a b / 2 ^ min (IntKind.u64.wrap (qOf p)).toNat 64)) = mid p a b ∧ 0 ≤ mid p a b ∧ mid p a b < 2 * p := by
  obtain ⟨A, rfl⟩ := Int.eq_ofNat_of_zero_le ha0
  obtain ⟨B, rfl⟩ := Int.eq_ofNat_of_zero_le hb0
  have key : ∀ (q k P : Nat), k + q = 64 → P + 1 = 2 ^ q → q ≤ 61 → A < P → B < P →
      IntKind.u64.wrap (bits .and .u64 (lo64 A B) P + bits .or .u64 (IntKind.u64.wrap (hi64 A B * 2 ^ k)) (lo64 A B / 2 ^ q)) = mid P A B ∧ 0 ≤ mid P A B ∧ mid P A B < 2 * P := by
    intro q k P hk hP hq hA hB
    have h := fold_nat q k P (A * B) hk hP hq (by
      have h1 : A * B ≤ A * P := Nat.mul_le_mul_left _ (by omega)
      have h2 : A * P < P * P := Nat.mul_lt_mul_of_pos_right hA (by omega)
      omega)
    have em : mid P A B = ((A * B % 2 ^ q + A * B / 2 ^ q : Nat) : Int) := by
      unfold mid
      rw [← hP, Int.natCast_add, Int.natCast_emod, Int.natCast_ediv, Int.natCast_mul, Int.natCast_add]; rfl
    have el : lo64 A B = ((A * B % 18446744073709551616 : Nat) : Int) := by unfold lo64; rw [Int.natCast_emod, Int.natCast_mul]; rfl
    have eh : hi64 A B = ((A * B / 18446744073709551616 : Nat) : Int) := by unfold hi64; rw [Int.natCast_ediv, Int.natCast_mul]; rfl
    rw [em, el, eh]
    have h2 := h.2
    refine ⟨h.1, Int.natCast_nonneg _, ?_⟩
    generalize A * B % 2 ^ q + A * B / 2 ^ q = m at h2 ⊢
    omega
  rcases hp with rfl | rfl | rfl | rfl | rfl | rfl | rfl
  · exact key 5 59 31 rfl rfl (by omega) (by omega) (by omega)
  · exact key 7 57 127 rfl rfl (by omega) (by omega) (by omega)
  · exact key 13 51 8191 rfl rfl (by omega) (by omega) (by omega)
  · exact key 17 47 131071 rfl rfl (by omega) (by omega) (by omega)
  · exact key 19 45 524287 rfl rfl (by omega) (by omega) (by omega)
  · exact key 31 33 2147483647 rfl rfl (by omega) (by omega) (by omega)
  · exact key 61 3 2305843009213693951 rfl rfl (by omega) (by omega) (by omega)

theorem mul_any (p a b : Int) (hp : OkP p) (ha0 : 0 ≤ a) (ha : a < p) (hb0 : 0 ≤ b) (hb : b < p) (w : World) :
    Calls Tryz.prog 32 #[.int .u64 p, .int .u64 a, .int .u64 b] w fun e w' => e = .returned (.int .u64 (fmul p a b)) ∧ w = w' := by
  have hbd := hp.bd
  obtain ⟨hf, hm0, hm⟩ := fold_int p a b hp ha0 ha hb0 hb
  have HF := Lib.hid hf; clear hf
  have HM := Lib.hid (mid_mod p a b)
  go_enter Tryz.func32, Tryz.ntmps32
  go_wp2_with fail
  refine (mul64_any _ _ (by omega) (by omega) (by omega) (by omega) _).mono ?_
  rintro e w' ⟨rfl, rfl⟩
  go_wp2_with fail
  refine (len64_any _ hp _).mono ?_
  rintro e w' ⟨rfl, rfl⟩
  go_wp2_with fail
  rw [HF.out]
  refine (subOnce_any _ _ (by omega) (by omega) (by omega) (by omega) _).mono ?_
  rintro e w' ⟨rfl, rfl⟩
  rw [HM.out]
  go_wp2_with fail
  go_ret
  exact ⟨rfl, rfl⟩

theorem pow_odd (p a n : Int) (hn : 0 < n) (ho : n % 2 = 1) (c : Int) : fmul p (fmul p c a) (fpow p (fmul p a a) (n / 2)) = fmul p c (fpow p a n) := by
  have e : fpow p a n = fmul p a (fpow p (fmul p a a) (n / 2)) := by
    rw [fpow_fmul]
    conv => lhs; rw [show n = 1 + (n / 2 + n / 2) from by omega, fpow_add p a 1 _ (by omega) (by omega), fpow_add p a _ _ (by omega) (by omega)]
    unfold fmul fpow
    rw [show (1 : Int).toNat = 1 from rfl, Int.pow_succ, Int.pow_zero, Int.one_mul, Int.mul_emod, Int.emod_emod, ← Int.mul_emod]
  rw [fmul_assoc, e]
theorem pow_even (p a n : Int) (hn : 0 < n) (ho : n % 2 = 0) : fpow p (fmul p a a) (n / 2) = fpow p a n := by
  rw [fpow_fmul]
  conv => rhs; rw [show n = n / 2 + n / 2 from by omega, fpow_add p a _ _ (by omega) (by omega)]

set_option maxHeartbeats 1000000 in
theorem pow_any (p a n : Int) (hp : OkP p) (ha0 : 0 ≤ a) (ha : a < p) (hn0 : 0 ≤ n) (hn : n ≤ 18446744073709551615) (w : World) :
    Calls Tryz.prog 99 #[.int .u64 p, .int .u64 a, .int .u64 n] w fun e w' => e = .returned (.int .u64 (fpow p a n)) ∧ w = w' := by
  have hbd := hp.bd
  go_enter Tryz.func99, Tryz.ntmps99
  go_wp2
  go_loop [1, 2, 7] (fun x y z => ∃ A N C : Int, x = .int .u64 A ∧ y = .int .u64 N ∧ z = .int .u64 C ∧ 0 ≤ A ∧ A < p ∧ 0 ≤ N ∧ N ≤ 18446744073709551615 ∧ 0 ≤ C ∧ C < p ∧ Hid (fmul p C (fpow p A N) = fpow p a n)) (fun _ y _ => (intOf y).toNat)
  case atStart => exact ⟨a, n, 1, rfl, rfl, rfl, ha0, ha, hn0, hn, by omega, by omega, by
    rw [fmul_comm]; exact fmul_one p _ (fpow_bd p a n (by omega)).1 (fpow_bd p a n (by omega)).2⟩
  case round =>
    obtain ⟨A, N, C, rfl, rfl, rfl, hA0, hA, hN0, hN, hC0, hC, hI⟩ := hrel
    by_cases hz : 0 < N
    · have hm1 := fmul_bd p C A (by omega)
      have hm2 := fmul_bd p A A (by omega)
      by_cases ho : N % 2 = 1
      · have HI := Lib.hid (pow_odd p A N hz ho C)
        have hb : bits BinOp.and IntKind.u64 N 1 = 1 := by rw [and_one_u64 N hN0 hN, ho]
        clear ho
        go_wp2_with (go_at_call 32; refine (mul_any _ _ _ hp (by omega) (by omega) (by omega) (by omega) _).mono ?_; rintro e w' ⟨rfl, rfl⟩)
        go_round
        case rel => exact ⟨_, _, _, rfl, rfl, rfl, hm2.1, hm2.2, by omega, by omega, hm1.1, hm1.2, HI.out.trans hI.out⟩
        case measure => simp [intOf]; omega
      · have ho' : N % 2 = 0 := by omega
        have HI := Lib.hid (pow_even p A N hz ho')
        have hb : bits BinOp.and IntKind.u64 N 1 = 0 := by rw [and_one_u64 N hN0 hN, ho']
        clear ho ho'
        go_wp2_with (go_at_call 32; refine (mul_any _ _ _ hp (by omega) (by omega) (by omega) (by omega) _).mono ?_; rintro e w' ⟨rfl, rfl⟩)
        go_round
        case rel => exact ⟨_, _, _, rfl, rfl, rfl, hm2.1, hm2.2, by omega, by omega, hC0, hC, by rw [HI.out]; exact hI.out⟩
        case measure => simp [intOf]; omega
    · have hz' : N = 0 := by omega
      subst hz'
      have HF : Hid (C = fpow p a n) := by have := hI.out; rw [fpow_zero p A (by omega), fmul_one p C hC0 hC] at this; exact this
      go_wp2
      go_ret
      exact ⟨by rw [← HF.out]; rfl, rfl⟩

theorem inverse_zero (p : Int) (w : World) :
    Calls Tryz.prog 79 #[.int .u64 p, .int .u64 0] w fun e w' => e = .returned (.tuple #[.int .u64 0, .int .i64 8]) ∧ w = w' := by
  go_enter Tryz.func79, Tryz.ntmps79
  go_wp2
  go_ret2
  exact ⟨rfl, rfl⟩

theorem inverse_any (p a : Int) (hp : OkP p) (ha0 : 0 < a) (ha : a < p) (w : World) :
    Calls Tryz.prog 79 #[.int .u64 p, .int .u64 a] w fun e w' => e = .returned (.tuple #[.int .u64 (fpow p a (p - 2)), .int .i64 0]) ∧ w = w' := by
  have hbd := hp.bd
  go_enter Tryz.func79, Tryz.ntmps79
  go_wp2_with (go_at_call 99; refine (pow_any _ _ _ hp (by omega) (by omega) (by omega) (by omega) _).mono ?_; rintro e w' ⟨rfl, rfl⟩)
  go_ret2
  exact ⟨rfl, rfl⟩

/-- What Sqrt hands back. -/
def fsqVal (p a : Int) : Int := if fsqOk p a = true then fsqrt p a else 0
def fsqErr (p a : Int) : Int := if fsqOk p a = true then 0 else 8

theorem qOf_other (p : Int) (h : ¬ OkP p) : qOf p = 0 := by
  unfold OkP at h; unfold qOf
  rw [if_neg (fun e => h (.inl e)), if_neg (fun e => h (.inr (.inl e))), if_neg (fun e => h (.inr (.inr (.inl e)))), if_neg (fun e => h (.inr (.inr (.inr (.inl e))))), if_neg (fun e => h (.inr (.inr (.inr (.inr (.inl e)))))), if_neg (fun e => h (.inr (.inr (.inr (.inr (.inr (.inl e))))))), if_neg (fun e => h (.inr (.inr (.inr (.inr (.inr (.inr e)))))))]
theorem qOf_bd (p : Int) : 0 ≤ qOf p ∧ qOf p ≤ 61 := by
  by_cases h : OkP p
  · rcases h with rfl | rfl | rfl | rfl | rfl | rfl | rfl <;> decide
  · rw [qOf_other p h]; decide

end Go.Proofs.YtkhiiiggmhncbaaGreat

/- Contracts of the reference implementation of layer 1 (package privityref01) at every supported prime and at all elements of its field; and of the examples of the document, which hold. -/
namespace Go.Proofs.YtkhiiiggmhncbaaGreat
set_option maxRecDepth 100000
open Go.RowKit Go.Lib FieldMath

/-- The prime that Fit selects. -/
def fitP (n : Int) : Int := if n % 7 = 0 then 31 else if n % 7 = 1 then 127 else if n % 7 = 2 then 8191 else if n % 7 = 3 then 131071 else if n % 7 = 4 then 524287 else if n % 7 = 5 then 2147483647 else 2305843009213693951

theorem fitP_ok (n : Int) : OkP (fitP n) := by
  unfold fitP OkP
  by_cases h0 : n % 7 = 0; · rw [if_pos h0]; exact .inl rfl
  rw [if_neg h0]
  by_cases h1 : n % 7 = 1; · rw [if_pos h1]; exact .inr (.inl rfl)
  rw [if_neg h1]
  by_cases h2 : n % 7 = 2; · rw [if_pos h2]; exact .inr (.inr (.inl rfl))
  rw [if_neg h2]
  by_cases h3 : n % 7 = 3; · rw [if_pos h3]; exact .inr (.inr (.inr (.inl rfl)))
  rw [if_neg h3]
  by_cases h4 : n % 7 = 4; · rw [if_pos h4]; exact .inr (.inr (.inr (.inr (.inl rfl))))
  rw [if_neg h4]
  by_cases h5 : n % 7 = 5; · rw [if_pos h5]; exact .inr (.inr (.inr (.inr (.inr (.inl rfl)))))
  rw [if_neg h5]; exact .inr (.inr (.inr (.inr (.inr (.inr rfl)))))

theorem rAdd_any (p a b : Int) (hp : OkP p) (ha0 : 0 ≤ a) (ha : a < p) (hb0 : 0 ≤ b) (hb : b < p) (w : World) :
    Calls Tryz.prog 73 #[.int .u64 p, .int .u64 a, .int .u64 b] w fun e w' => e = .returned (.int .u64 (fadd p a b)) ∧ w = w' := by
  have hbd := hp.bd
  unfold fadd
  go_enter Tryz.func73, Tryz.ntmps73
  go_wp2
  go_ret
  exact ⟨rfl, rfl⟩

theorem rSub_any (p a b : Int) (hp : OkP p) (ha0 : 0 ≤ a) (ha : a < p) (hb0 : 0 ≤ b) (hb : b < p) (w : World) :
    Calls Tryz.prog 71 #[.int .u64 p, .int .u64 a, .int .u64 b] w fun e w' => e = .returned (.int .u64 (fsub p a b)) ∧ w = w' := by
  have hbd := hp.bd
  have e : fsub p a b = (a + p - b) % p := by
    unfold fsub; rw [show a + p - b = a - b + p * 1 from by omega, Int.add_mul_emod_self_left]
  rw [e]; clear e
  go_enter Tryz.func71, Tryz.ntmps71
  go_wp2
  go_ret
  exact ⟨rfl, rfl⟩

theorem mul_dbl (p a b : Int) (ho : b % 2 = 0) : fmul p (fadd p a a) (b / 2) = fmul p a b := by
  unfold fmul fadd
  rw [Int.mul_emod, Int.emod_emod, ← Int.mul_emod, show (a + a) * (b / 2) = a * b from by
    conv => rhs; rw [show b = b / 2 + b / 2 from by omega]
    rw [Int.add_mul, Int.mul_add]]
theorem mul_dbl_odd (p a b c : Int) (ho : b % 2 = 1) : fadd p (fadd p c a) (fmul p (fadd p a a) (b / 2)) = fadd p c (fmul p a b) := by
  rw [fadd_assoc]
  congr 1
  unfold fmul fadd
  have h : (a + a) % p * (b / 2) % p = (a + a) * (b / 2) % p := by rw [Int.mul_emod, Int.emod_emod, ← Int.mul_emod]
  rw [h, Int.add_emod_emod]
  congr 1
  conv => rhs; rw [show b = 1 + (b / 2 + b / 2) from by omega]
  rw [Int.add_mul, Int.mul_add, Int.mul_add, Int.mul_one]

set_option maxHeartbeats 1000000 in
theorem rMul_any (p a b : Int) (hp : OkP p) (ha0 : 0 ≤ a) (ha : a < p) (hb0 : 0 ≤ b) (hb : b < p) (w : World) :
    Calls Tryz.prog 43 #[.int .u64 p, .int .u64 a, .int .u64 b] w fun e w' => e = .returned (.int .u64 (fmul p a b)) ∧ w = w' := by
  have hbd := hp.bd
  go_enter Tryz.func43, Tryz.ntmps43
  go_wp2
  go_loop [1, 2, 7] (fun x y z => ∃ A B C : Int, x = .int .u64 A ∧ y = .int .u64 B ∧ z = .int .u64 C ∧ 0 ≤ A ∧ A < p ∧ 0 ≤ B ∧ B ≤ 18446744073709551615 ∧ 0 ≤ C ∧ C < p ∧ Hid (fadd p C (fmul p A B) = fmul p a b)) (fun _ y _ => (intOf y).toNat)
  case atStart => exact ⟨a, b, 0, rfl, rfl, rfl, ha0, ha, hb0, by omega, by omega, by omega, by
    rw [fadd_comm]; exact fadd_zero p _ (fmul_bd p a b (by omega)).1 (fmul_bd p a b (by omega)).2⟩
  case round =>
    obtain ⟨A, B, C, rfl, rfl, rfl, hA0, hA, hB0, hB, hC0, hC, hI⟩ := hrel
    by_cases hz : 0 < B
    · have hm1 := fadd_bd p C A (by omega)
      have hm2 := fadd_bd p A A (by omega)
      by_cases ho : B % 2 = 1
      · have HI := Lib.hid (mul_dbl_odd p A B C ho)
        go_wp2
        go_round
        case rel => exact ⟨fadd p A A, _, fadd p C A, rfl, rfl, rfl, hm2.1, hm2.2, by omega, by omega, hm1.1, hm1.2, HI.out.trans hI.out⟩
        case measure => simp [intOf]; omega
      · have ho' : B % 2 = 0 := by omega
        have HI := Lib.hid (mul_dbl p A B ho')
        clear ho
        go_wp2
        go_round
        case rel => exact ⟨fadd p A A, _, _, rfl, rfl, rfl, hm2.1, hm2.2, by omega, by omega, hC0, hC, by rw [HI.out]; exact hI.out⟩
        case measure => simp [intOf]; omega
    · have hz' : B = 0 := by omega
      subst hz'
      have HF : Hid (C = fmul p a b) := by have := hI.out; rw [fmul_zero, fadd_zero p C hC0 hC] at this; exact this
      go_wp2
      go_ret
      exact ⟨by rw [← HF.out]; rfl, rfl⟩

set_option maxHeartbeats 1000000 in
theorem rPow_any (p a n : Int) (hp : OkP p) (ha0 : 0 ≤ a) (ha : a < p) (hn0 : 0 ≤ n) (hn : n ≤ 18446744073709551615) (w : World) :
    Calls Tryz.prog 88 #[.int .u64 p, .int .u64 a, .int .u64 n] w fun e w' => e = .returned (.int .u64 (fpow p a n)) ∧ w = w' := by
  have hbd := hp.bd
  go_enter Tryz.func88, Tryz.ntmps88
  go_wp2
  go_loop [1, 2, 7] (fun x y z => ∃ A N C : Int, x = .int .u64 A ∧ y = .int .u64 N ∧ z = .int .u64 C ∧ 0 ≤ A ∧ A < p ∧ 0 ≤ N ∧ N ≤ 18446744073709551615 ∧ 0 ≤ C ∧ C < p ∧ Hid (fmul p C (fpow p A N) = fpow p a n)) (fun _ y _ => (intOf y).toNat)
  case atStart => exact ⟨a, n, 1, rfl, rfl, rfl, ha0, ha, hn0, hn, by omega, by omega, by
    rw [fmul_comm]; exact fmul_one p _ (fpow_bd p a n (by omega)).1 (fpow_bd p a n (by omega)).2⟩
  case round =>
    obtain ⟨A, N, C, rfl, rfl, rfl, hA0, hA, hN0, hN, hC0, hC, hI⟩ := hrel
    by_cases hz : 0 < N
    · have hm1 := fmul_bd p C A (by omega)
      have hm2 := fmul_bd p A A (by omega)
      by_cases ho : N % 2 = 1
      · have HI := Lib.hid (pow_odd p A N hz ho C)
        go_wp2_with (go_at_call 43; refine (rMul_any _ _ _ hp (by omega) (by omega) (by omega) (by omega) _).mono ?_; rintro e w' ⟨rfl, rfl⟩)
        go_round
        case rel => exact ⟨_, _, _, rfl, rfl, rfl, hm2.1, hm2.2, by omega, by omega, hm1.1, hm1.2, HI.out.trans hI.out⟩
        case measure => simp [intOf]; omega
      · have ho' : N % 2 = 0 := by omega
        have HI := Lib.hid (pow_even p A N hz ho')
        clear ho
        go_wp2_with (go_at_call 43; refine (rMul_any _ _ _ hp (by omega) (by omega) (by omega) (by omega) _).mono ?_; rintro e w' ⟨rfl, rfl⟩)
        go_round
        case rel => exact ⟨_, _, _, rfl, rfl, rfl, hm2.1, hm2.2, by omega, by omega, hC0, hC, by rw [HI.out]; exact hI.out⟩
        case measure => simp [intOf]; omega
    · have hz' : N = 0 := by omega
      subst hz'
      have HF : Hid (C = fpow p a n) := by have := hI.out; rw [fpow_zero p A (by omega), fmul_one p C hC0 hC] at this; exact this
      go_wp2
      go_ret
      exact ⟨by rw [← HF.out]; rfl, rfl⟩

/-- The seven primes in their order. -/
def prOf (j : Int) : Int := if j = 0 then 31 else if j = 1 then 127 else if j = 2 then 8191 else if j = 3 then 131071 else if j = 4 then 524287 else if j = 5 then 2147483647 else 2305843009213693951

theorem qOf_none (p : Int) (h : ∀ j, 0 ≤ j → j < 7 → p ≠ prOf j) : qOf p = 0 := by
  apply qOf_other
  rintro (e | e | e | e | e | e | e)
  · exact h 0 (by omega) (by omega) e
  · exact h 1 (by omega) (by omega) e
  · exact h 2 (by omega) (by omega) e
  · exact h 3 (by omega) (by omega) e
  · exact h 4 (by omega) (by omega) e
  · exact h 5 (by omega) (by omega) e
  · exact h 6 (by omega) (by omega) e

theorem next_not (p k l : Int) (h : ∀ j, 0 ≤ j → j < k → p ≠ prOf j) (hk : p ≠ prOf k) (hl : l = k + 1) : ∀ j, 0 ≤ j → j < l → p ≠ prOf j := by
  intro j hj0 hj
  by_cases e : j = k
  · subst e; exact hk
  · exact h j hj0 (by omega)

theorem exps_any (w : World) :
    Calls Tryz.prog 74 #[] w fun e w' => e = .returned (.slice (some ⟨w.heap.size, 0, none⟩) 7 7) ∧ w' = w.alloc (.cells #[.int .i64 5, .int .i64 7, .int .i64 13, .int .i64 17, .int .i64 19, .int .i64 31, .int .i64 61] 3) := by
  go_enter Tryz.func74, Tryz.ntmps74
  go_wp2
  go_ret
  exact ⟨rfl, rfl⟩

set_option maxHeartbeats 4000000 in
theorem rExponent_any (p : Int) (w : World) :
    Calls Tryz.prog 53 #[.int .u64 p] w fun e w' => e = .returned (.int .i64 (qOf p)) ∧ Below w.heap.size w w' := by
  go_enter Tryz.func53, Tryz.ntmps53
  go_wp2_with fail
  refine (exps_any _).mono ?_
  rintro e w' ⟨rfl, rfl⟩
  go_wp2_with fail
  go_loop [4] (fun x => ∃ k : Int, 0 ≤ k ∧ k ≤ 7 ∧ x = .int .i64 k ∧ Hid (∀ j, 0 ≤ j → j < k → p ≠ prOf j)) (fun x => 7 - (intOf x).toNat)
  case atStart => exact ⟨0, by omega, by omega, rfl, fun j hj hj' => by omega⟩
  case round =>
    obtain ⟨k, hk0, hk, rfl, hI⟩ := hrel
    have hc : k = 0 ∨ k = 1 ∨ k = 2 ∨ k = 3 ∨ k = 4 ∨ k = 5 ∨ k = 6 ∨ k = 7 := by omega
    rcases hc with rfl | rfl | rfl | rfl | rfl | rfl | rfl | rfl
    case inr.inr.inr.inr.inr.inr.inr =>
      have HF := Lib.hid (qOf_none p hI.out)
      clear hI hk hk0
      go_wp2
      go_ret
      exact ⟨by rw [HF.out]; rfl, (Below.refl _ _).alloc (Nat.le_refl _) _⟩
    · by_cases hp : p = 31
      · subst hp
        have HF := Lib.hid (show qOf 31 = 5 from by decide +kernel)
        clear hI hk hk0
        go_wp2
        go_ret
        exact ⟨by rw [HF.out]; rfl, (Below.refl _ _).alloc (Nat.le_refl _) _⟩
      · have hne : (p == 31) = false := beq_eq_false_iff_ne.2 hp
        have HN := Lib.hid (next_not p 0 1 hI.out hp rfl)
        clear hI hk hk0 hp
        go_wp2
        go_round
        case rel => exact ⟨1, by omega, by omega, rfl, HN.out⟩
        case measure => simp [intOf]
    · by_cases hp : p = 127
      · subst hp
        have HF := Lib.hid (show qOf 127 = 7 from by decide +kernel)
        clear hI hk hk0
        go_wp2
        go_ret
        exact ⟨by rw [HF.out]; rfl, (Below.refl _ _).alloc (Nat.le_refl _) _⟩
      · have hne : (p == 127) = false := beq_eq_false_iff_ne.2 hp
        have HN := Lib.hid (next_not p 1 2 hI.out hp rfl)
        clear hI hk hk0 hp
        go_wp2
        go_round
        case rel => exact ⟨2, by omega, by omega, rfl, HN.out⟩
        case measure => simp [intOf]
    · by_cases hp : p = 8191
      · subst hp
        have HF := Lib.hid (show qOf 8191 = 13 from by decide +kernel)
        clear hI hk hk0
        go_wp2
        go_ret
        exact ⟨by rw [HF.out]; rfl, (Below.refl _ _).alloc (Nat.le_refl _) _⟩
      · have hne : (p == 8191) = false := beq_eq_false_iff_ne.2 hp
        have HN := Lib.hid (next_not p 2 3 hI.out hp rfl)
        clear hI hk hk0 hp
        go_wp2
        go_round
        case rel => exact ⟨3, by omega, by omega, rfl, HN.out⟩
        case measure => simp [intOf]
    · by_cases hp : p = 131071
      · subst hp
        have HF := Lib.hid (show qOf 131071 = 17 from by decide +kernel)
        clear hI hk hk0
        go_wp2
        go_ret
        exact ⟨by rw [HF.out]; rfl, (Below.refl _ _).alloc (Nat.le_refl _) _⟩
      · have hne : (p == 131071) = false := beq_eq_false_iff_ne.2 hp
        have HN := Lib.hid (next_not p 3 4 hI.out hp rfl)
        clear hI hk hk0 hp
        go_wp2
        go_round
        case rel => exact ⟨4, by omega, by omega, rfl, HN.out⟩
        case measure => simp [intOf]
    · by_cases hp : p = 524287
      · subst hp
        have HF := Lib.hid (show qOf 524287 = 19 from by decide +kernel)
        clear hI hk hk0
        go_wp2
        go_ret
        exact ⟨by rw [HF.out]; rfl, (Below.refl _ _).alloc (Nat.le_refl _) _⟩
      · have hne : (p == 524287) = false := beq_eq_false_iff_ne.2 hp
        have HN := Lib.hid (next_not p 4 5 hI.out hp rfl)
        clear hI hk hk0 hp
        go_wp2
        go_round
        case rel => exact ⟨5, by omega, by omega, rfl, HN.out⟩
        case measure => simp [intOf]
    · by_cases hp : p = 2147483647
      · subst hp
        have HF := Lib.hid (show qOf 2147483647 = 31 from by decide +kernel)
        clear hI hk hk0
        go_wp2
        go_ret
        exact ⟨by rw [HF.out]; rfl, (Below.refl _ _).alloc (Nat.le_refl _) _⟩
      · have hne : (p == 2147483647) = false := beq_eq_false_iff_ne.2 hp
        have HN := Lib.hid (next_not p 5 6 hI.out hp rfl)
        clear hI hk hk0 hp
        go_wp2
        go_round
        case rel => exact ⟨6, by omega, by omega, rfl, HN.out⟩
        case measure => simp [intOf]
    · by_cases hp : p = 2305843009213693951
      · subst hp
        have HF := Lib.hid (show qOf 2305843009213693951 = 61 from by decide +kernel)
        clear hI hk hk0
        go_wp2
        go_ret
        exact ⟨by rw [HF.out]; rfl, (Below.refl _ _).alloc (Nat.le_refl _) _⟩
      · have hne : (p == 2305843009213693951) = false := beq_eq_false_iff_ne.2 hp
        have HN := Lib.hid (next_not p 6 7 hI.out hp rfl)
        clear hI hk hk0 hp
        go_wp2
        go_round
        case rel => exact ⟨7, by omega, by omega, rfl, HN.out⟩
        case measure => simp [intOf]

theorem rSupported_any (p : Int) (w : World) :
    Calls Tryz.prog 27 #[.int .u64 p] w fun e w' => e = .returned (.bool (qOf p != 0)) ∧ Below w.heap.size w w' := by
  have HB : Hid (decide (0 < qOf p) = (qOf p != 0)) := by
    have h := qOf_bd p
    show decide (0 < qOf p) = (qOf p != 0)
    rw [Bool.eq_iff_iff, decide_eq_true_eq, bne_iff_ne]; omega
  go_enter Tryz.func27, Tryz.ntmps27
  go_wp2_with fail
  refine (rExponent_any _ _).mono ?_
  rintro e w' ⟨rfl, hb⟩
  go_wp2_with fail
  go_ret
  exact ⟨by rw [← HB.out]; rfl, hb⟩

/-- All that lay below is as it was. -/
theorem bcell {W w1 : World} (hb : Below W.heap.size W w1) : (∀ b o, b < W.heap.size → w1.cell? ⟨b, o, none⟩ = W.cell? ⟨b, o, none⟩) ∧ (∀ b o, b < W.heap.size → w1.frozen? ⟨b, o, none⟩ = W.frozen? ⟨b, o, none⟩) :=
  ⟨fun b o h => hb.cell (p := ⟨b, o, none⟩) h, fun b o h => hb.frozen (p := ⟨b, o, none⟩) h⟩

theorem results_tmp4 {fn : Func} {t u v x : Tmp} (h : fn.results = #[.tmp t, .tmp u, .tmp v, .tmp x]) (tmps : Array Value) (P : Program) (w : World) :
    (results fn tmps).run P w = .ok (.tuple #[tmps.getD t undef, tmps.getD u undef, tmps.getD v undef, tmps.getD x undef]) w := by simp [results, h]

/-! ### The examples of the document -/
theorem aw_inv (w : World) : Calls Tryz.prog 79 #[.int .u64 31, .int .u64 2] w fun e w' => e = .returned (.tuple #[.int .u64 16, .int .i64 0]) ∧ w = w' := by
  have h := inverse_any 31 2 (.inl rfl) (by omega) (by omega) w
  rw [show fpow 31 2 (31 - 2) = 16 from by decide +kernel] at h
  exact h
theorem aw_mul (w : World) : Calls Tryz.prog 32 #[.int .u64 31, .int .u64 20, .int .u64 20] w fun e w' => e = .returned (.int .u64 28) ∧ w = w' := by
  have h := mul_any 31 20 20 (.inl rfl) (by omega) (by omega) (by omega) (by omega) w
  rw [show fmul 31 20 20 = 28 from by decide +kernel] at h
  exact h
/-! ### Quiet calls inside a region that draws its order -/
theorem quiet_left {P : Program} {f : FuncId} {args : Array Value} {w : World} {n : Nat} {v : Value}
    (h : Calls P f args (w.drewN n) fun e w' => e = .returned v ∧ w.drewN n = w') : Calls P f args (w.drewN n) fun e w'' => e = .returned v ∧ ∃ m, w'' = w.drewN m :=
  h.mono fun _ _ ⟨he, hm⟩ => ⟨he, n, hm.symm⟩
theorem quiet_add_left {P : Program} {f : FuncId} {args : Array Value} {w : World} {a n : Nat} {v : Value}
    (h : Calls P f args (w.drewN (a + n)) fun e w' => e = .returned v ∧ w.drewN (a + n) = w') :
    Calls P f args (w.drewN (a + n)) fun e w'' => e = .returned v ∧ ∃ m, w'' = w.drewN (a + m) :=
  h.mono fun _ _ ⟨he, hm⟩ => ⟨he, n, hm.symm⟩

end Go.Proofs.YtkhiiiggmhncbaaGreat

/- Degree, Coefficient, trimmed, Trim of package poly (and slices.Clone, which Trim calls); Trim, Degree, Coefficient, Equal of the reference of layer 4. They read a list of words; nothing that lay is changed. Conditions: lists of at most 1000 words. -/
namespace Go.Proofs.YtkhiiiggmhncbaaGreat
set_option maxRecDepth 100000
open Go.RowKit PolyMath

/-- A call hands back the words ys in memory of its own. -/
def Fresh (w : World) (e : Ending) (w' : World) (ys : List Int) : Prop :=
  ∃ v, e = .returned v ∧ w'.ownsRow w.heap.size 22 1 v ys.length (ys.map (Value.int .u64)) ∧ Below w.heap.size w w'
theorem Fresh.row {w w' : World} {e : Ending} {ys : List Int} (h : Fresh w e w' ys) : Row w e w' ys := by
  obtain ⟨v, rfl, ho, hb⟩ := h
  obtain ⟨A, c, rfl, hs⟩ := own_form ho
  exact ⟨A, c, rfl, hs, hb⟩

theorem degree_any (A : Option Addr) (c : Nat) (xs : List Int) (w : World) (h : Sl w A c xs) (hl : xs.length ≤ 1000) :
    Calls Tryz.prog 82 #[.slice A xs.length c] w fun e w' => e = .returned (.int .i64 ((tn xs : Int) - 1)) ∧ w = w' := by
  go_enter Tryz.func82, Tryz.ntmps82
  go_wp2
  go_loop [3] (fun i => ∃ k : Nat, k ≤ xs.length ∧ i = .int .i64 ((k : Int) - 1) ∧ Hid (Fin (co xs) k)) (fun i => (intOf i + 1).toNat)
  case atStart => exact ⟨xs.length, Nat.le_refl _, rfl, Lib.hid (co_fin xs)⟩
  case round =>
    obtain ⟨k, hk, rfl, hF⟩ := hrel
    cases k with
    | zero =>
      have hT := Lib.hid (tn_eq hF.out (fun h => absurd h (by omega)))
      clear hF
      go_wp2
      go_ret
      exact ⟨by rw [hT.out]; rfl, rfl⟩
    | succ m =>
      obtain ⟨b, off, x, hA, _, hx, hc⟩ := h.at_ (k := m) (by omega)
      subst hA
      rw [show (((m + 1 : Nat) : Int) - 1) = (m : Int) from by omega]
      have hm : (m : Int) < xs.length := by omega
      by_cases hz : x = 0
      · subst hz
        have hN : Hid (Fin (co xs) m) := Lib.hid fun n hn => by
          by_cases e : n = m
          · subst e; exact co_at hx
          · exact hF.out n (by omega)
        clear hF hx
        go_wp2
        go_round
        case rel => exact ⟨m, by omega, rfl, hN⟩
        case measure => simp [intOf]
      · have hT := Lib.hid (tn_eq hF.out (fun _ => by rw [Nat.add_sub_cancel, co_at hx]; exact hz))
        have hne : (x == 0) = false := beq_eq_false_iff_ne.2 hz
        clear hF hx hz
        go_wp2
        go_ret
        exact ⟨by rw [hT.out, show (((m + 1 : Nat) : Int) - 1) = (m : Int) from by omega]; rfl, rfl⟩

/-- The coefficient at any index. -/
def coI (xs : List Int) (i : Int) : Int := if 0 ≤ i then co xs i.toNat else 0
theorem coI_nat (xs : List Int) (n : Nat) : coI xs n = co xs n := by unfold coI; rw [if_pos (by omega)]; rfl

theorem coef_any (A : Option Addr) (c : Nat) (xs : List Int) (i : Int) (w : World) (h : Sl w A c xs) :
    Calls Tryz.prog 33 #[.slice A xs.length c, .int .i64 i] w fun e w' => e = .returned (.int .u64 (coI xs i)) ∧ w = w' := by
  by_cases h0 : i < 0
  · rw [show coI xs i = 0 from if_neg (by omega)]
    go_enter Tryz.func33, Tryz.ntmps33
    go_wp2
    go_ret
    exact ⟨rfl, rfl⟩
  · obtain ⟨n, rfl⟩ : ∃ n : Nat, i = n := ⟨i.toNat, by omega⟩
    rw [coI_nat]
    by_cases h1 : n < xs.length
    · obtain ⟨b, off, x, hA, _, hx, hc⟩ := h.at_ h1
      subst hA
      rw [co_at hx]
      have hi : (n : Int) < xs.length := by omega
      clear hx
      go_enter Tryz.func33, Tryz.ntmps33
      go_wp2
      go_ret
      exact ⟨rfl, rfl⟩
    · rw [co_fin xs n (by omega)]
      have hi : (xs.length : Int) ≤ n := by omega
      go_enter Tryz.func33, Tryz.ntmps33
      go_wp2
      go_ret
      exact ⟨rfl, rfl⟩

theorem trimmed_any (A : Option Addr) (c : Nat) (xs : List Int) (w : World) (h : Sl w A c xs) (hl : xs.length ≤ 1000) :
    Calls Tryz.prog 85 #[.slice A xs.length c] w fun e w' => e = .returned (.slice A (trim xs).length c) ∧ w = w' := by
  rw [trim_length]
  have h1 := tn_le xs
  have h2 := h.cap
  have hdeg := degree_any A c xs w h hl
  have hn := h.nil
  generalize tn xs = n at *
  have hcap : (n : Int) ≤ c := by omega
  cases A with
  | none =>
    obtain rfl := hn rfl
    obtain rfl : n = 0 := by omega
    go_enter Tryz.func85, Tryz.ntmps85
    go_wp2_with (go_at_call 82; refine hdeg.mono ?_; rintro e w' ⟨rfl, rfl⟩)
    go_ret
    exact ⟨rfl, rfl⟩
  | some ad =>
    go_enter Tryz.func85, Tryz.ntmps85
    go_wp2_with (go_at_call 82; refine hdeg.mono ?_; rintro e w' ⟨rfl, rfl⟩)
    go_ret
    exact ⟨rfl, rfl⟩

/-- What is appended: the first n words of what is read. -/
theorem Sl.news {w : World} {ad : Addr} {c : Nat} {xs : List Int} (h : Sl w (some ad) c xs) (o : Obj) (n : Nat) :
    ∀ j u, ((xs.take n).map (Value.int .u64))[j]? = some u → (w.alloc o).cell? (ad.add j) = some u := by
  intro j u hj
  rw [List.getElem?_map] at hj
  obtain ⟨x, hx, rfl⟩ := Option.map_eq_some_iff.1 hj
  obtain ⟨b', off', rfl, hb, hc⟩ := (h.push o).rd _ rfl (fun e => by rw [e] at hx; simp at hx)
  rw [Addr.add_lit]
  exact hc j x (by rw [List.getElem?_take] at hx; split at hx <;> first | exact hx | cases hx)
theorem take_len {xs : List Int} {n : Nat} (h : n ≤ xs.length) : ((xs.take n).map (Value.int .u64)).length = n * 1 := by
  rw [List.length_map, List.length_take]; omega
theorem one_cells (xs : List Int) : ∀ u ∈ xs.map (Value.int .u64), u.oneCell' = true := by
  intro u hu; obtain ⟨x, _, rfl⟩ := List.mem_map.1 hu; rfl

theorem own_lit0 (w : World) : Hid ((w.alloc (.cells #[] 22)).ownsRow w.heap.size 22 1 (.slice (some ⟨w.heap.size, 0, none⟩) 0 0) 0 []) := Lib.hid (World.ownsRow_lit w #[] 0 (Nat.le_refl _) (Nat.zero_le _) rfl)

set_option maxHeartbeats 1000000 in
theorem clone_any (A : Option Addr) (n c : Nat) (xs : List Int) (w : World) (h : Sl w A c xs) (hn : n ≤ xs.length) (hl : xs.length ≤ 1000) :
    Calls Tryz.prog 104 #[.slice A n c] w fun e w' => Fresh w e w' (xs.take n) := by
  obtain ⟨i0, hi, hz0, hz1, hz2⟩ := info_parts info_u64
  have hlit := own_lit0 w
  have q22 : ∀ (w : World) (a : Option Addr) (n c n' c' : Nat), (binOp .eql 23 (.slice a n c) (.slice none n' c')).run Tryz.prog w = .ok (.bool a.isNone) w := fun w a n c n' c' => Lib.run_eql_slice_nil w _ _ a n c n' c' Tryz.underlying23
  cases A with
  | none =>
    obtain ⟨rfl, rfl⟩ := h.empty rfl
    obtain rfl : n = 0 := by simpa using hn
    clear h
    go_enter Tryz.func104, Tryz.ntmps104
    go_wp2
    go_ret
    exact ⟨_, rfl, World.ownsRow_nil _ _ _ _, Below.refl _ _⟩
  | some ad =>
    have hnw := Lib.hid (h.news (.cells #[] 22) n)
    have hln := Lib.hid (take_len hn)
    have hon := Lib.hid (one_cells (xs.take n))
    clear h
    go_enter Tryz.func104, Tryz.ntmps104
    go_wp2_with (at_builtin; refine wpList_append_own _ rfl _ _ 23 rfl w.heap.size 22 i0 (.int .u64 0) 1 8 Tryz.underlying23 hi hz0 hz1 hz2 rfl (by decide) _ _ _ rfl hlit.out ad n c ((xs.take n).map (Value.int .u64)) rfl hln.out hnw.out hon.out (by simp only [maxLen]; omega) (by omega) (by simp) ?_; intro v' w1 hown hgrow _)
    go_ret
    refine ⟨v', rfl, ?_, ((Below.refl _ w).alloc (Nat.le_refl _) _).grown hgrow (by simp) (fun k e => (hlit.out.lt k e).1)⟩
    rw [List.length_take, Nat.min_eq_left hn]
    simpa using hown

theorem trim_any (A : Option Addr) (c : Nat) (xs : List Int) (w : World) (h : Sl w A c xs) (hl : xs.length ≤ 1000) :
    Calls Tryz.prog 83 #[.slice A xs.length c] w fun e w' => Fresh w e w' (trim xs) := by
  have h1 := tn_le xs
  have htr := trimmed_any A c xs w h hl
  have hcl := clone_any A (trim xs).length c xs w h (by rw [trim_length]; exact h1) hl
  rw [show xs.take (trim xs).length = trim xs from by rw [trim_length]; rfl] at hcl
  go_enter Tryz.func83, Tryz.ntmps83
  go_wp2_with fail
  refine htr.mono ?_; rintro e w' ⟨rfl, rfl⟩
  go_wp2_with fail
  refine hcl.mono ?_; rintro e w' ⟨v, rfl, ho, hb⟩
  go_wp2_with fail
  go_ret
  exact ⟨v, rfl, ho, hb⟩

end Go.Proofs.YtkhiiiggmhncbaaGreat

/- Mul and Scale of package poly: the trimmed product; nothing that lay is changed. Conditions: a supported prime, polynomials over its field of at most 400 coefficients. -/
namespace Go.Proofs.YtkhiiiggmhncbaaGreat
set_option maxRecDepth 100000
open Go.RowKit PolyMath FieldMath

theorem still_of {P : Program} {f : FuncId} {args : Array Value} {w : World} {v : Value} (h : Calls P f args w fun e w' => e = .returned v ∧ w = w') : Calls P f args w (fun e w'' => e = .returned v ∧ w'' = w) :=
  h.mono fun _ _ ⟨he, hm⟩ => ⟨he, hm.symm⟩
theorem grown_trans {X Y Z : World} {row : Option Nat} (h : X.grownBy Y row) (k : Y.grownBy Z row) : X.grownBy Z row :=
  ⟨k.os.trans h.os, k.tape.trans h.tape, k.output.trans h.output, Nat.le_trans h.size k.size, fun b hb hr => (k.block b (Nat.lt_of_lt_of_le hb h.size) hr).trans (h.block b hb hr)⟩
theorem grown_drew {X Y : World} {row : Option Nat} (h : X.grownBy Y row) : X.grownBy Y.drew row := ⟨h.os, h.tape, h.output, h.size, h.block⟩
theorem Sl.grown {w w' : World} {A : Option Addr} {c : Nat} {xs : List Int} {row : Option Nat} (h : Sl w A c xs) (hg : w.grownBy w' row) (hr : ∀ ad, A = some ad → some ad.block ≠ row) : Sl w' A c xs :=
  ⟨h.cap, h.nil, fun ad hA hn => by
    obtain ⟨b, off, rfl, hb, hc⟩ := h.rd ad hA hn
    exact ⟨b, off, rfl, Nat.lt_of_lt_of_le hb hg.size, fun j x hx => hg.cell (hc j x hx) (hr ⟨b, off, none⟩ hA)⟩⟩

/-- The row at g, n words with room for c, holds the words xs, and may be written. -/
def OwnAt (w : World) (base g n c : Nat) (xs : List Int) : Prop := w.ownsRow base 22 1 (.slice (some ⟨g, 0, none⟩) n c) n (xs.map (Value.int .u64))
theorem OwnAt.lt {w : World} {base g n c : Nat} {xs : List Int} (h : OwnAt w base g n c xs) : base ≤ g ∧ g < w.heap.size := World.ownsRow.lt h g rfl
theorem OwnAt.len {w : World} {base g n c : Nat} {xs : List Int} (h : OwnAt w base g n c xs) : xs.length = n := by have := h.1; simpa using this
theorem OwnAt.cell {w : World} {base g n c i : Nat} {x : Int} {xs : List Int} (h : OwnAt w base g n c xs) (hx : xs[i]? = some x) : w.cell? ⟨g, i, none⟩ = some (.int .u64 x) := by
  have hi : i < n := by have := (List.getElem?_eq_some_iff.1 hx).1; rw [h.len] at this; exact this
  exact (World.ownsRow.cellAt h i (by omega)).trans (by rw [List.getElem?_map, hx]; rfl)
theorem OwnAt.frozen {w : World} {base g n c : Nat} {xs : List Int} (h : OwnAt w base g n c xs) (i : Nat) : w.frozen? ⟨g, i, none⟩ = false := World.ownsRow.frozenAt h i
theorem OwnAt.put {w : World} {base g n c : Nat} {xs : List Int} (h : OwnAt w base g n c xs) (i : Nat) (x : Int) : OwnAt (w.setCell ⟨g, i, none⟩ (.int .u64 x)) base g n c (xs.set i x) := by
  have := (World.ownsRow.stored h i (.int .u64 x)).1
  rw [← List.map_set] at this
  exact this
theorem OwnAt.grow {w : World} {base g n c : Nat} {xs : List Int} (h : OwnAt w base g n c xs) (i : Nat) (x : Int) : w.grownBy (w.setCell ⟨g, i, none⟩ (.int .u64 x)) (some g) := (World.ownsRow.stored h i (.int .u64 x)).2
theorem OwnAt.push {w : World} {base g n c : Nat} {xs : List Int} (h : OwnAt w base g n c xs) (o : Obj) : OwnAt (w.alloc o) base g n c xs := World.ownsRow.alloc h o
theorem OwnAt.drew {w : World} {base g n c : Nat} {xs : List Int} (h : OwnAt w base g n c xs) : OwnAt w.drew base g n c xs := h
theorem OwnAt.sl {w : World} {base g n c : Nat} {xs : List Int} (h : OwnAt w base g n c xs) : Sl w (some ⟨g, 0, none⟩) c xs := Sl.of_own h
theorem OwnAt.kept {w w' : World} {base g n c : Nat} {xs : List Int} {row : Option Nat} (h : OwnAt w base g n c xs) (hg : w.grownBy w' row) (hr : some g ≠ row) : OwnAt w' base g n c xs :=
  World.ownsRow.kept h hg (.inr hr)

set_option maxHeartbeats 1000000 in
theorem sumAdd_any (p x y ix : Int) (hp : OkP p) (hx0 : 0 ≤ x) (hx : x < p) (hy0 : 0 ≤ y) (hy : y < p) (g n c base i : Nat) (xs : List Int) (w : World)
    (hix : ix = i) (hown : OwnAt w base g n c xs) (hxi : xs[i]? = some x) :
    Calls Tryz.prog 103 #[.agg #[.int .u64 p, .slice (some ⟨g, 0, none⟩) n c], .int .i64 ix, .int .u64 y] w fun e w' => (∃ v, e = .returned v) ∧
      OwnAt w' base g n c (xs.set i (fadd p x y)) ∧ w.grownBy w' (some g) := by
  subst hix
  have hbd := hp.bd
  have hi : i < n := by have := (List.getElem?_eq_some_iff.1 hxi).1; rw [hown.len] at this; exact this
  have hlt := hown.lt
  have hcell := hown.cell hxi
  have hfz := hown.frozen i
  have hST := Lib.hid (hown.put i (fadd p x y))
  have hGR := Lib.hid (hown.grow i (fadd p x y))
  have hii : (i : Int) < n := by omega
  have hne : g ≠ w.heap.size := by omega
  clear hown hxi
  go_enter Tryz.func103, Tryz.ntmps103
  go_wp2
  refine wp_region_still_tail 13 (by kernel_rfl) (by kernel_rfl) ?_
  simp only [List.take_succ_cons, List.take_zero, List.drop_succ_cons, List.drop_zero]
  change wpStill _ _ (World.drew _) (fun a' => wpList _ _ _ _ a' (World.drew _)) _ _
  repeat still_step
  still_call (still_of (add_any _ _ _ hp (by omega) (by omega) (by omega) (by omega) _))
  repeat still_step
  refine wpStill_nil ?_
  go_wp2
  go_end0
  exact ⟨⟨_, rfl⟩, (hST.out.push _).drew, grown_drew (grown_trans hGR.out (World.grownBy_alloc _ _ _))⟩

/-- What the loops over the terms hold. -/
def Terms (w0 w1 : World) (p : Int) (a b : List Int) (g c I K : Nat) (w : World) : Prop :=
  OwnAt w w0.heap.size g (a.length + b.length - 1) c (mulL p a b (a.length + b.length - 1) I K) ∧ w1.grownBy w (some g)

set_option maxHeartbeats 2000000 in
theorem terms_any (p : Int) (hp : OkP p) (A B : Option Addr) (ca cb g c : Nat) (a b : List Int) (ha : El p a) (hb : El p b) (la : a.length ≤ 400) (lb : b.length ≤ 400) (w0 w : World)
    (hra : Sl w0 A ca a) (hrb : Sl w0 B cb b) (hB : Below w0.heap.size w0 w) (h0 : Terms w0 w p a b g c 0 0 w) :
    Calls Tryz.prog 102 #[.int .u64 p, .slice A a.length ca, .slice B b.length cb, .func (.func 103) #[.agg #[.int .u64 p, .slice (some ⟨g, 0, none⟩) (a.length + b.length - 1) c]] #[]] w
      fun e w' => (∃ v, e = .returned v) ∧ Terms w0 w p a b g c a.length 0 w' := by
  have hbd := hp.bd
  have hlt := h0.1.lt
  have hs0 := hB.size
  have hBel : Hid (∀ wr, w.grownBy wr (some g) → Below w0.heap.size w0 wr) := Lib.hid fun wr h => hB.grown h hs0 (fun k e => by injection e with e; omega)
  clear hB
  go_enter Tryz.func102, Tryz.ntmps102
  go_wp2
  go_loopw [14] (fun i wr => ∃ I : Nat, I ≤ a.length ∧ i = .int .i64 I ∧ Terms w0 w p a b g c I 0 wr) (fun i _ => a.length - (intOf i).toNat)
  case atStart => exact ⟨0, Nat.zero_le _, rfl, h0⟩
  case round =>
    obtain ⟨I, hI, rfl, hT⟩ := hrel
    by_cases hltI : I < a.length
    · obtain ⟨ba, oa, x, hA, _, hx, hcx⟩ := (hra.next (hBel.out _ hT.2)).at_ hltI
      subst hA
      have hxb := ha x (List.mem_of_getElem? hx)
      have hX := Lib.hid (co_at hx)
      have hI' : (I : Int) < a.length := by omega
      clear hx
      go_wp2
      go_loopw [21] (fun k wr => ∃ K : Nat, K ≤ b.length ∧ k = .int .i64 K ∧ Terms w0 w p a b g c I K wr) (fun k _ => b.length - (intOf k).toNat)
      case atStart => exact ⟨0, Nat.zero_le _, rfl, hT⟩
      case round =>
        obtain ⟨K, hK, rfl, hT2⟩ := hrel
        by_cases hltK : K < b.length
        · obtain ⟨bb, ob, y, hB', _, hy, hcy⟩ := (hrb.next (hBel.out _ hT2.2)).at_ hltK
          subst hB'
          have hyb := hb y (List.mem_of_getElem? hy)
          have hY := Lib.hid (co_at hy)
          have hK' : (K : Int) < b.length := by omega
          have hm := fmul_bd p x y (by omega)
          have hz := md (mulAt (co a) (co b) I K (I + K)) p (by omega)
          have hset := mulL_set p a b (a.length + b.length - 1) I K
          rw [hX.out, hY.out] at hset
          have hS := Lib.hid hset
          have hget := Lib.hid (mulL_get p a b (a.length + b.length - 1) I K (I + K) (by omega))
          clear hy hset
          go_wp2_with (first | (go_at_call 32; refine (mul_any _ _ _ hp hxb.1 hxb.2 hyb.1 hyb.2 _).mono ?_; rintro e w' ⟨rfl, rfl⟩) | (go_at_call 103; refine (sumAdd_any _ _ _ _ hp hz.1 hz.2 hm.1 hm.2 g _ c w0.heap.size (I + K) _ _ (by omega) hT2.1 hget.out).mono ?_; rintro e w2 ⟨⟨v, rfl⟩, hO2, hG2⟩))
          rw [hS.out] at hO2
          go_roundw
          case rel => exact ⟨K + 1, by omega, by simp, hO2, grown_trans hT2.2 hG2⟩
          case measure => simp [intOf]; omega
        · obtain rfl : K = b.length := by omega
          have hT3 := hT2
          unfold Terms at hT3
          rw [mulL_row] at hT3
          have hH := Lib.hid hT3
          clear hT3
          go_wp2
          go_roundw
          case rel => exact ⟨I + 1, by omega, by simp, hH.out⟩
          case measure => simp [intOf]; omega
    · obtain rfl : I = a.length := by omega
      go_wp2
      go_end0
      exact ⟨⟨_, rfl⟩, hT⟩

theorem pmul_trims (p : Int) (a b : List Int) : pmul p (trim a) (trim b) = pmul p a b :=
  same_of (pmul_trim _ _ _) (pmul_trim _ _ _) fun n => by rw [co_pmul, co_pmul, conv_ext (co_trim a) (co_trim b)]
theorem pmul_one (p k : Int) (a : List Int) : pmul p [k] a = pscl p k a :=
  same_of (pmul_trim _ _ _) (pscl_trim _ _ _) fun n => by
    rw [co_pmul, co_pscl, conv_ext (f := co [k]) (g := co a) (f' := fun i => if i = 0 then k else 0) (g' := co a) (fun i => co_mono k 0 i) (fun _ => rfl), conv_mono, if_pos (Nat.zero_le _), Nat.sub_zero]
theorem Sl.trims {w : World} {A : Option Addr} {c : Nat} {xs : List Int} (h : Sl w A c xs) : Sl w A c (trim xs) := h.take _

set_option maxHeartbeats 2000000 in
theorem mul_row (p : Int) (hp : OkP p) (A B : Option Addr) (ca cb : Nat) (a b : List Int) (ha : El p a) (hb : El p b) (la : a.length ≤ 400) (lb : b.length ≤ 400) (w : World)
    (hra : Sl w A ca a) (hrb : Sl w B cb b) :
    Calls Tryz.prog 81 #[.int .u64 p, .slice A a.length ca, .slice B b.length cb] w fun e w' => Row w e w' (pmul p a b) := by
  obtain ⟨i0, hi, hz0, hz1, hz2⟩ := info_parts info_u64
  have ht1 := trimmed_any A ca a w hra (by omega)
  have ht2 := trimmed_any B cb b w hrb (by omega)
  have hca := hra.cap
  have hcb := hrb.cap
  have hla := tn_le a
  have hlb := tn_le b
  have hsa := hra.trims
  have hsb := hrb.trims
  have hea := ha.trim
  have heb := hb.trim
  by_cases h0 : tn a = 0 ∨ tn b = 0
  · have hE := Lib.hid (pmul_nil (p := p) h0)
    rw [trim_length] at ht1 ht2
    clear hsa hsb hea heb
    generalize tn a = m at *
    generalize tn b = n at *
    by_cases hm : m = 0
    · subst hm
      clear h0
      go_enter Tryz.func81, Tryz.ntmps81
      go_wp2_with fail
      refine ht1.mono ?_; rintro e w' ⟨rfl, rfl⟩
      go_wp2_with fail
      refine ht2.mono ?_; rintro e w' ⟨rfl, rfl⟩
      go_wp2_with fail
      go_ret
      rw [hE.out]
      exact ⟨none, 0, rfl, Sl.nothing _, Below.refl _ _⟩
    · have hn : n = 0 := h0.resolve_left hm
      subst hn
      clear h0
      have hmz : ((m : Int) == 0) = false := beq_eq_false_iff_ne.2 (by omega)
      go_enter Tryz.func81, Tryz.ntmps81
      go_wp2_with fail
      refine ht1.mono ?_; rintro e w' ⟨rfl, rfl⟩
      go_wp2_with fail
      refine ht2.mono ?_; rintro e w' ⟨rfl, rfl⟩
      go_wp2_with fail
      go_ret
      rw [hE.out]
      exact ⟨none, 0, rfl, Sl.nothing _, Below.refl _ _⟩
  · have hpa : 0 < (trim a).length := by rw [trim_length]; omega
    have hpb : 0 < (trim b).length := by rw [trim_length]; omega
    have hma : (trim a).length ≤ 400 := by rw [trim_length]; omega
    have hmb : (trim b).length ≤ 400 := by rw [trim_length]; omega
    have hE := Lib.hid ((mulL_done p (trim a) (trim b)).trans (pmul_trims p a b))
    clear h0 hla hlb hca hcb
    generalize trim a = a' at *
    generalize trim b = b' at *
    have hza : ((a'.length : Int) == 0) = false := beq_eq_false_iff_ne.2 (by omega)
    have hzb : ((b'.length : Int) == 0) = false := beq_eq_false_iff_ne.2 (by omega)
    have hb8 : i0.bytes * (a'.length + b'.length - 1) ≤ 281474976710656 := by rw [hz2]; omega
    have hB8 := Lib.hid hb8
    clear hb8
    go_enter Tryz.func81, Tryz.ntmps81
    go_wp2_with fail
    refine ht1.mono ?_; rintro e w' ⟨rfl, rfl⟩
    go_wp2_with fail
    refine ht2.mono ?_; rintro e w' ⟨rfl, rfl⟩
    go_wp2_with (at_make; refine wpList_make_full _ rfl _ _ 23 rfl w.heap.size 22 i0 (.int .u64 0) 1 Tryz.underlying23 hi hz0 hz1 .i64 .i64 _ _ (a'.length + b'.length - 1) rfl rfl (by omega) (by omega) hB8.out (by simp only [maxLen]; omega) (Nat.le_refl _) ?_; intro w1 hown1 hgrow1)
    have hb1 : Below w.heap.size w w1 := (Below.refl _ w).grown hgrow1 (Nat.le_refl _) (fun k e => by cases e)
    simp only [Value.cells, toList_madeCells_one, Nat.mul_one] at hown1
    have hown2 : OwnAt w1 w.heap.size w.heap.size (a'.length + b'.length - 1) (a'.length + b'.length - 1) (mulL p a' b' (a'.length + b'.length - 1) 0 0) := by
      unfold OwnAt; rw [mulL_start]; simpa using hown1
    clear hown1
    have hlt1 := hown2.lt
    have hb2 := hb1.alloc hb1.size (.cells #[.int .u64 p, .slice (some ⟨w.heap.size, 0, none⟩) (a'.length + b'.length - 1) (a'.length + b'.length - 1)] 120)
    have hc2 : (w1.alloc (.cells #[.int .u64 p, .slice (some ⟨w.heap.size, 0, none⟩) (a'.length + b'.length - 1) (a'.length + b'.length - 1)] 120)).cell? ⟨w1.heap.size, 1, none⟩ = some (.slice (some ⟨w.heap.size, 0, none⟩) (a'.length + b'.length - 1) (a'.length + b'.length - 1)) := by go_simp
    refine (terms_any p hp A B ca cb w.heap.size (a'.length + b'.length - 1) a' b' hea heb hma hmb w (w1.alloc (.cells #[.int .u64 p, .slice (some ⟨w.heap.size, 0, none⟩) (a'.length + b'.length - 1) (a'.length + b'.length - 1)] 120)) hsa hsb hb2 ⟨hown2.push _, World.grownBy.refl _ _⟩).mono ?_
    rintro e w3 ⟨⟨v, rfl⟩, hO3, hG3⟩
    have hc3 := hG3.cell hc2 (fun e => by injection e with e; have := hlt1.2; change w1.heap.size = w.heap.size at e; omega)
    have hb3 := hb2.grown hG3 (by have := hlt1.2; simp; omega) (fun k e => by injection e with e; omega)
    have ht3 := trimmed_any _ _ _ w3 hO3.sl (by rw [mulL_len]; omega)
    rw [mulL_len, hE.out] at ht3
    have hs3 := hO3.sl.trims
    rw [hE.out] at hs3
    have hS3 := Lib.hid hs3
    clear hs3 hO3 hG3 hc2 hb2
    go_wp2_with fail
    refine ht3.mono ?_; rintro e w' ⟨rfl, rfl⟩
    go_wp2_with fail
    go_ret
    exact ⟨_, _, rfl, hS3.out, hb3⟩

theorem scale_row (p k : Int) (hp : OkP p) (hk : 0 ≤ k ∧ k < p) (A : Option Addr) (ca : Nat) (a : List Int) (ha : El p a) (la : a.length ≤ 400) (w : World) (hra : Sl w A ca a) :
    Calls Tryz.prog 70 #[.int .u64 p, .int .u64 k, .slice A a.length ca] w fun e w' => Row w e w' (pscl p k a) := by
  have hm := mul_row p hp _ A 1 ca [k] a (fun x hx => by rw [List.mem_singleton] at hx; subst hx; exact hk) ha (by simp) la _ (Sl.l1 w k) (hra.push _)
  rw [pmul_one] at hm
  go_enter Tryz.func70, Tryz.ntmps70
  go_wp2_with fail
  refine hm.mono ?_; rintro e w2 ⟨A2, c2, rfl, hs2, hb2⟩
  have hS := Lib.hid hs2
  clear hs2 hm
  go_wp2_with fail
  go_ret
  exact ⟨A2, c2, rfl, hS.out, ((Below.refl _ w).alloc (Nat.le_refl _) _).trans (hb2.mono (by simp))⟩

end Go.Proofs.YtkhiiiggmhncbaaGreat

/- Add and Sub of package poly: the trimmed sum and difference; nothing that lay is changed. Conditions: a supported prime, polynomials over its field of at most 400 coefficients. -/
namespace Go.Proofs.YtkhiiiggmhncbaaGreat
set_option maxRecDepth 100000
open Go.RowKit PolyMath FieldMath

/-- The entries made so far. -/
def cmbL (o : Int → Int → Int) (a b : List Int) (N k : Nat) : List Int := (List.range N).map fun n => if n < k then o (co a n) (co b n) else 0
theorem cmbL_len (o : Int → Int → Int) (a b : List Int) (N k : Nat) : (cmbL o a b N k).length = N := by unfold cmbL; simp
theorem cmbL_start (o : Int → Int → Int) (a b : List Int) (N : Nat) : cmbL o a b N 0 = List.replicate N 0 := by
  rw [← map_zero 1]; exact map_ext fun n _ => by rw [if_neg (by omega), Int.zero_emod]
theorem cmbL_get (o : Int → Int → Int) (a b : List Int) (N k n : Nat) (h : n < N) : (cmbL o a b N k)[n]? = some (if n < k then o (co a n) (co b n) else 0) := map_get (fun n => if n < k then o (co a n) (co b n) else 0) h
theorem cmbL_set (o : Int → Int → Int) (a b : List Int) (N k : Nat) : (cmbL o a b N k).set k (o (co a k) (co b k)) = cmbL o a b N (k + 1) :=
  map_set N k (by rw [if_pos (by omega)]) fun n hn => by
    by_cases h : n < k
    · rw [if_pos h, if_pos (by omega)]
    · rw [if_neg h, if_neg (by omega)]
theorem co_cmbL (o : Int → Int → Int) (a b : List Int) (N n : Nat) (h0 : o 0 0 = 0) (ha : tn a ≤ N) (hb : tn b ≤ N) : co (cmbL o a b N N) n = o (co a n) (co b n) := by
  unfold cmbL
  rw [co_map]
  by_cases h : n < N
  · rw [if_pos h, if_pos h]
  · rw [if_neg h, tn_fin a n (by omega), tn_fin b n (by omega), h0]
theorem cmbL_add (p : Int) (a b : List Int) (N : Nat) (ha : tn a ≤ N) (hb : tn b ≤ N) : trim (cmbL (fadd p) a b N N) = padd p a b :=
  nf_of (padd_fin a b).mod fun n => co_cmbL (fadd p) a b N n (by unfold fadd; simp) ha hb
theorem cmbL_sub (p : Int) (a b : List Int) (N : Nat) (ha : tn a ≤ N) (hb : tn b ≤ N) : trim (cmbL (fsub p) a b N N) = psub p a b :=
  nf_of (psub_fin a b).mod fun n => co_cmbL (fsub p) a b N n (by unfold fsub; simp) ha hb

set_option maxHeartbeats 2000000 in
theorem combine_add (p : Int) (hp : OkP p) (A B : Option Addr) (ca cb : Nat) (a b : List Int) (ha : El p a) (hb : El p b) (la : a.length ≤ 400) (lb : b.length ≤ 400) (w : World)
    (hra : Sl w A ca a) (hrb : Sl w B cb b) :
    Calls Tryz.prog 87 #[.int .u64 p, .slice A a.length ca, .slice B b.length cb, .func (.func 31) #[] #[]] w fun e w' => Row w e w' (padd p a b) := by
  obtain ⟨i0, hi, hz0, hz1, hz2⟩ := info_parts info_u64
  have hbd := hp.bd
  have hd1 := degree_any A ca a w hra (by omega)
  have hd2 := degree_any B cb b w hrb (by omega)
  have hla := tn_le a
  have hlb := tn_le b
  obtain ⟨N, hN⟩ : ∃ N : Nat, N = max (tn a) (tn b) := ⟨_, rfl⟩
  have hE := Lib.hid (cmbL_add p a b N (by omega) (by omega))
  have hN400 : N ≤ 400 := by omega
  have hNI : max ((tn a : Int) - 1) ((tn b : Int) - 1) + 1 = N := by omega
  have hb8 : i0.bytes * N ≤ 281474976710656 := by rw [hz2]; omega
  have hB8 := Lib.hid hb8
  clear hb8 hN
  generalize tn a = m at *
  generalize tn b = n at *
  have hNH := Lib.hid hNI
  clear hNI
  go_enter Tryz.func87, Tryz.ntmps87
  go_wp2_with fail
  refine hd1.mono ?_; rintro e w' ⟨rfl, rfl⟩
  go_wp2_with fail
  refine hd2.mono ?_; rintro e w' ⟨rfl, rfl⟩
  go_wp2_with (at_make; refine wpList_make_full _ rfl _ _ 23 rfl w.heap.size 22 i0 (.int .u64 0) 1 Tryz.underlying23 hi hz0 hz1 .i64 .i64 _ _ N rfl rfl (by have := hNH.out; omega) (by have := hNH.out; omega) hB8.out (by simp only [maxLen]; omega) (Nat.le_refl _) ?_; intro w1 hown1 hgrow1)
  all_goals
    have hb1 : Below w.heap.size w w1 := (Below.refl _ w).grown hgrow1 (Nat.le_refl _) (fun k e => by cases e)
    simp only [Value.cells, toList_madeCells_one, Nat.mul_one] at hown1
    have hown2 : OwnAt w1 w.heap.size w.heap.size N N (cmbL (fadd p) a b N 0) := by
      unfold OwnAt; rw [cmbL_start]; simpa using hown1
    clear hown1 hgrow1
    go_loopw [20] (fun i wr => ∃ k : Nat, k ≤ N ∧ i = .int .i64 k ∧ OwnAt wr w.heap.size w.heap.size N N (cmbL (fadd p) a b N k) ∧ Below w.heap.size w wr) (fun i _ => N - (intOf i).toNat)
    case atStart => exact ⟨0, Nat.zero_le _, rfl, hown2, hb1⟩
    case round =>
      obtain ⟨k, hk, rfl, hO, hB⟩ := hrel
      by_cases hlt : k < N
      · have hbx := coef_any A ca a k wr (hra.next hB)
        have hby := coef_any B cb b k wr (hrb.next hB)
        rw [coI_nat] at hbx hby
        have hxb := ha.co (p := p) (by omega) k
        have hyb := hb.co (p := p) (by omega) k
        have hset := cmbL_set (fadd p) a b N k
        generalize co a k = x at *
        generalize co b k = y at *
        have hS := Lib.hid hset
        have hcell := hO.cell (cmbL_get (fadd p) a b N k k hlt)
        have hfz := hO.frozen k
        have hput := Lib.hid (hO.put k (fadd p x y))
        have hkN : (k : Int) < N := by omega
        clear hset
        go_wp2_with (first | (go_at_call 33; refine hbx.mono ?_; clear hbx; rintro e w' ⟨rfl, rfl⟩) | (go_at_call 33; refine hby.mono ?_; clear hby; rintro e w' ⟨rfl, rfl⟩) | (go_at_call 31; refine (add_any _ _ _ hp hxb.1 hxb.2 hyb.1 hyb.2 _).mono ?_; rintro e w' ⟨rfl, rfl⟩))
        go_roundw
        case rel => exact ⟨k + 1, by omega, by simp, by rw [← hS.out]; exact hput.out, hB.setCell (p := ⟨w.heap.size, k, none⟩) (Nat.le_refl _) _⟩
        case measure => simp [intOf]; omega
      · obtain rfl : k = N := by omega
        have ht3 := trimmed_any _ _ _ wr hO.sl (by rw [cmbL_len]; omega)
        rw [cmbL_len, hE.out] at ht3
        have hs3 := hO.sl.trims
        rw [hE.out] at hs3
        have hS3 := Lib.hid hs3
        clear hs3 hO
        go_wp2_with (go_at_call 85; refine ht3.mono ?_; rintro e w' ⟨rfl, rfl⟩)
        go_ret
        exact ⟨_, _, rfl, hS3.out, hB⟩

theorem add_row (p : Int) (hp : OkP p) (A B : Option Addr) (ca cb : Nat) (a b : List Int) (ha : El p a) (hb : El p b) (la : a.length ≤ 400) (lb : b.length ≤ 400) (w : World)
    (hra : Sl w A ca a) (hrb : Sl w B cb b) :
    Calls Tryz.prog 69 #[.int .u64 p, .slice A a.length ca, .slice B b.length cb] w fun e w' => Row w e w' (padd p a b) := by
  have hm := combine_add p hp A B ca cb a b ha hb la lb w hra hrb
  go_enter Tryz.func69, Tryz.ntmps69
  go_wp2_with fail
  refine hm.mono ?_; rintro e w2 ⟨A2, c2, rfl, hs2, hb2⟩
  have hS := Lib.hid hs2
  clear hs2 hm
  go_wp2_with fail
  go_ret
  exact ⟨A2, c2, rfl, hS.out, hb2⟩

set_option maxHeartbeats 2000000 in
theorem combine_sub (p : Int) (hp : OkP p) (A B : Option Addr) (ca cb : Nat) (a b : List Int) (ha : El p a) (hb : El p b) (la : a.length ≤ 400) (lb : b.length ≤ 400) (w : World)
    (hra : Sl w A ca a) (hrb : Sl w B cb b) :
    Calls Tryz.prog 87 #[.int .u64 p, .slice A a.length ca, .slice B b.length cb, .func (.func 84) #[] #[]] w fun e w' => Row w e w' (psub p a b) := by
  obtain ⟨i0, hi, hz0, hz1, hz2⟩ := info_parts info_u64
  have hbd := hp.bd
  have hd1 := degree_any A ca a w hra (by omega)
  have hd2 := degree_any B cb b w hrb (by omega)
  have hla := tn_le a
  have hlb := tn_le b
  obtain ⟨N, hN⟩ : ∃ N : Nat, N = max (tn a) (tn b) := ⟨_, rfl⟩
  have hE := Lib.hid (cmbL_sub p a b N (by omega) (by omega))
  have hN400 : N ≤ 400 := by omega
  have hNI : max ((tn a : Int) - 1) ((tn b : Int) - 1) + 1 = N := by omega
  have hb8 : i0.bytes * N ≤ 281474976710656 := by rw [hz2]; omega
  have hB8 := Lib.hid hb8
  clear hb8 hN
  generalize tn a = m at *
  generalize tn b = n at *
  have hNH := Lib.hid hNI
  clear hNI
  go_enter Tryz.func87, Tryz.ntmps87
  go_wp2_with fail
  refine hd1.mono ?_; rintro e w' ⟨rfl, rfl⟩
  go_wp2_with fail
  refine hd2.mono ?_; rintro e w' ⟨rfl, rfl⟩
  go_wp2_with (at_make; refine wpList_make_full _ rfl _ _ 23 rfl w.heap.size 22 i0 (.int .u64 0) 1 Tryz.underlying23 hi hz0 hz1 .i64 .i64 _ _ N rfl rfl (by have := hNH.out; omega) (by have := hNH.out; omega) hB8.out (by simp only [maxLen]; omega) (Nat.le_refl _) ?_; intro w1 hown1 hgrow1)
  all_goals
    have hb1 : Below w.heap.size w w1 := (Below.refl _ w).grown hgrow1 (Nat.le_refl _) (fun k e => by cases e)
    simp only [Value.cells, toList_madeCells_one, Nat.mul_one] at hown1
    have hown2 : OwnAt w1 w.heap.size w.heap.size N N (cmbL (fsub p) a b N 0) := by
      unfold OwnAt; rw [cmbL_start]; simpa using hown1
    clear hown1 hgrow1
    go_loopw [20] (fun i wr => ∃ k : Nat, k ≤ N ∧ i = .int .i64 k ∧ OwnAt wr w.heap.size w.heap.size N N (cmbL (fsub p) a b N k) ∧ Below w.heap.size w wr) (fun i _ => N - (intOf i).toNat)
    case atStart => exact ⟨0, Nat.zero_le _, rfl, hown2, hb1⟩
    case round =>
      obtain ⟨k, hk, rfl, hO, hB⟩ := hrel
      by_cases hlt : k < N
      · have hbx := coef_any A ca a k wr (hra.next hB)
        have hby := coef_any B cb b k wr (hrb.next hB)
        rw [coI_nat] at hbx hby
        have hxb := ha.co (p := p) (by omega) k
        have hyb := hb.co (p := p) (by omega) k
        have hset := cmbL_set (fsub p) a b N k
        generalize co a k = x at *
        generalize co b k = y at *
        have hS := Lib.hid hset
        have hcell := hO.cell (cmbL_get (fsub p) a b N k k hlt)
        have hfz := hO.frozen k
        have hput := Lib.hid (hO.put k (fsub p x y))
        have hkN : (k : Int) < N := by omega
        clear hset
        go_wp2_with (first | (go_at_call 33; refine hbx.mono ?_; clear hbx; rintro e w' ⟨rfl, rfl⟩) | (go_at_call 33; refine hby.mono ?_; clear hby; rintro e w' ⟨rfl, rfl⟩) | (go_at_call 84; refine (sub_any _ _ _ hp hxb.1 hxb.2 hyb.1 hyb.2 _).mono ?_; rintro e w' ⟨rfl, rfl⟩))
        go_roundw
        case rel => exact ⟨k + 1, by omega, by simp, by rw [← hS.out]; exact hput.out, hB.setCell (p := ⟨w.heap.size, k, none⟩) (Nat.le_refl _) _⟩
        case measure => simp [intOf]; omega
      · obtain rfl : k = N := by omega
        have ht3 := trimmed_any _ _ _ wr hO.sl (by rw [cmbL_len]; omega)
        rw [cmbL_len, hE.out] at ht3
        have hs3 := hO.sl.trims
        rw [hE.out] at hs3
        have hS3 := Lib.hid hs3
        clear hs3 hO
        go_wp2_with (go_at_call 85; refine ht3.mono ?_; rintro e w' ⟨rfl, rfl⟩)
        go_ret
        exact ⟨_, _, rfl, hS3.out, hB⟩

end Go.Proofs.YtkhiiiggmhncbaaGreat

/- slices.Backward over words: it hands on each index with the word that lies there, from the last to the first. Conditions: at most 1000 words. -/
namespace Go.Proofs.YtkhiiiggmhncbaaGreat
set_option maxRecDepth 100000
open Go.RowKit Go.Shelf PolyMath FieldMath
attribute [local go_sem] Oper.semAt_some

theorem back_in (n : Nat) (A : Option Addr) (k c : Nat) (w : World) :
    CallsIn Fence.wide n Tryz.prog 59 #[.slice A k c] w fun e w' =>
      e = .returned (.func (.func 75) #[] #[.pointer (some ⟨w.heap.size, 0, none⟩)]) ∧ w' = w.alloc (.cells #[.slice A k c] 23) := by
  refine callsIn_of_wp Tryz.func59 rfl trivial ?_ rfl
  simp only [Tryz.ntmps59, List.size_toArray, List.length_cons, List.length_nil, Nat.reduceAdd, Nat.reduceSub, Array.replicate_succ, Array.replicate_zero, List.push_toArray, List.append_toArray, List.nil_append, List.cons_append]
  gi_wp2
  go_ret
  exact ⟨rfl, rfl⟩

/-- What the slice shows between two rounds. -/
def Reads (V : Nat → Int → Prop) (g off N : Nat) (W : World) : Prop := ∀ j, j < N → ∃ v, W.cell? ⟨g, off + j, none⟩ = some (.int .u64 v) ∧ V j v
/-- What a round must keep. -/
structure Keeping (Kp : World → World → Prop) (V : Nat → Int → Prop) (g off N Ba : Nat) : Prop where
  refl : ∀ X, Kp X X
  trans : ∀ {X Y Z}, Kp X Y → Kp Y Z → Kp X Z
  box : ∀ {X Y v}, Kp X Y → Boxed X Ba 23 v → Boxed Y Ba 23 v
  reads : ∀ {X Y}, Kp X Y → Reads V g off N X → Reads V g off N Y
/-- An index with a word that may lie there. -/
abbrev It (V : Nat → Int → Prop) (N : Nat) : Type := { x : Nat × Int // x.1 < N ∧ V x.1 x.2 }
/-- The first k indices, downward. -/
def dn (N k : Nat) : List Nat := (List.range k).map fun t => N - 1 - t
theorem dn_next (N k : Nat) : dn N (k + 1) = dn N k ++ [N - 1 - k] := by unfold dn; rw [List.range_succ, List.map_append]; rfl
theorem dn_len (N k : Nat) : (dn N k).length = k := by unfold dn; simp

def YieldGoes {α : Type} (J Jx : List α → World → Prop) (Kp : World → World → Prop) (pre : List α) (x : α) (W : World) (e : Ending) (W' : World) : Prop :=
  ∃ go : Bool, e = .returned (.bool go) ∧ (go = true → J (pre ++ [x]) W' ∧ Kp W W') ∧ (go = false → Jx (pre ++ [x]) W')

set_option maxRecDepth 100000 in
set_option maxHeartbeats 2000000 in
theorem back1_in (n : Nat) (hn : 1 ≤ n) (l Ba g off N c : Nat) (A : Option Addr) (hA : 0 < N → A = some ⟨g, off, none⟩) (hN : N ≤ 1000) (V : Nat → Int → Prop) (Kp : World → World → Prop) (hK : Keeping Kp V g off N Ba)
    (J Jx : List (It V N) → World → Prop)
    (hY : ∀ pre x W, J pre W → pre.length < N → YieldAt Fence.wide (n - 1) Tryz.prog l #[.int .i64 (x.1.1 : Int), .int .u64 x.1.2] W (YieldGoes J Jx Kp pre x W))
    (W : World) (ba : Boxed W Ba 23 (.slice A N c)) (hr : Reads V g off N W) (h0 : J [] W) :
    CallsIn Fence.wide n Tryz.prog 75 #[.func (.yield l) #[] #[], .pointer (some ⟨Ba, 0, none⟩)] W fun e W' => (∃ v, e = .returned v) ∧
      ((∃ ys : List (It V N), ys.map (fun x => x.1.1) = dn N N ∧ J ys W') ∨ (∃ pre : List (It V N), True ∧ Jx pre W')) := by
  refine callsIn_of_wp Tryz.func75 rfl trivial ?_ rfl
  simp only [Tryz.ntmps75, List.size_toArray, List.length_cons, List.length_nil, Nat.reduceAdd, Nat.reduceSub, Array.replicate_succ, Array.replicate_zero, List.push_toArray, List.append_toArray, List.nil_append, List.cons_append]
  have hca := ba.cell
  gi_wp2
  gi_loopw [3] (fun i wr => ∃ (k : Nat) (ys : List (It V N)), k ≤ N ∧ i = .int .i64 ((N : Int) - 1 - k) ∧ Hid (ys.map (fun x => x.1.1) = dn N k) ∧ J ys wr ∧ Kp W wr) (fun i _ => (intOf i + 1).toNat)
  case atStart => exact ⟨0, [], Nat.zero_le _, by simp, Lib.hid rfl, h0, hK.refl _⟩
  case round =>
    obtain ⟨k, ys, hk, rfl, hI, hJs, hnx⟩ := hrel
    have hca' : wr.cell? ⟨Ba, 0, none⟩ = some (.slice A N c) := (hK.box hnx ba).cell
    by_cases hlt : k < N
    · obtain ⟨m, hm⟩ : ∃ m : Nat, m = N - 1 - k := ⟨_, rfl⟩
      rw [show ((N : Int) - 1 - k) = (m : Int) from by omega]
      have hmlt : m < N := by omega
      obtain ⟨v, hcv, hv⟩ := hK.reads hnx hr m hmlt
      have hA' := hA (by omega)
      subst hA'
      obtain ⟨fn, tmps, assign, body, hy, hR⟩ := hY ys ⟨(m, v), hmlt, hv⟩ wr hJs (by have := congrArg List.length hI.out; rw [List.length_map, dn_len] at this; omega)
      dsimp only at hy
      have hI2 : Hid ((ys ++ [(⟨(m, v), hmlt, hv⟩ : It V N)]).map (fun x => x.1.1) = dn N (k + 1)) := Lib.hid (by rw [List.map_append, hI.out, dn_next, ← hm]; rfl)
      have hmN : (m : Int) < N := by omega
      have hk1 : ((N : Int) - 1 - ((k + 1 : Nat) : Int)) = (m : Int) - 1 := by omega
      have hK1 := Lib.hid hk1
      clear hk1 hI hm
      gi_wp2_with fail
      refine hR.mono ?_
      rintro e W3 ⟨go, rfl, h1, h2⟩
      cases go with
      | true =>
        obtain ⟨hJ3, hk3⟩ := h1 rfl
        clear h1 h2
        gi_wp2
        go_roundw
        case rel => exact ⟨k + 1, _, by omega, by rw [hK1.out], hI2, hJ3, hK.trans hnx hk3⟩
        case measure => simp [intOf]
      | false =>
        have hJx3 := h2 rfl
        clear h1 h2
        gi_wp2
        refine bodyPost_ret (results_none rfl _ _ _) rfl ?_
        exact ⟨⟨_, rfl⟩, .inr ⟨_, trivial, hJx3⟩⟩
    · obtain rfl : k = N := by omega
      gi_wp2
      go_end0
      exact ⟨⟨_, rfl⟩, .inl ⟨_, hI.out, hJs⟩⟩

theorem back_stops (n : Nat) (hn : 1 ≤ n) (Ba g off N c : Nat) (A : Option Addr) (hA : 0 < N → A = some ⟨g, off, none⟩) (hN : N ≤ 1000) (V : Nat → Int → Prop) (Kp : World → World → Prop) (hK : Keeping Kp V g off N Ba)
    (w : World) (hg : 0 < N → g < w.heap.size) (ba : Boxed w Ba 23 (.slice A N c)) (hr : Reads V g off N w) :
    SeqStopsK Fence.wide n Tryz.prog 75 #[.pointer (some ⟨Ba, 0, none⟩)] (fun x : It V N => #[Value.int .i64 (x.1.1 : Int), Value.int .u64 x.1.2]) Kp
      (fun ys => ys.map (fun x => x.1.1) = dn N N) (fun _ => True) N w := fun l J Jx W hW _ _ hY h0 => by
  refine back1_in n hn l Ba g off N c A hA hN V Kp hK J Jx (fun pre x X hj hl => (hY pre x X hj hl).mono ?_) W ((hW.block Ba ba.lt).trans ba) (fun j hj => by
    obtain ⟨v, hc, hv⟩ := hr j hj
    exact ⟨v, (hW.cell (p := ⟨g, off + j, none⟩) (hg (by omega))).trans hc, hv⟩) h0
  rintro e X' (⟨rfl, h1, h2⟩ | ⟨rfl, h1⟩)
  · exact ⟨true, rfl, fun _ => ⟨h1, h2⟩, fun h => absurd h (by decide)⟩
  · exact ⟨false, rfl, fun h => absurd h (by decide), fun _ => h1⟩

end Go.Proofs.YtkhiiiggmhncbaaGreat

/- Eval of package poly: the value by Horner's rule; nothing that lay is changed. Conditions: a supported prime, a polynomial over its field of at most 400 coefficients, an element. -/
namespace Go.Proofs.YtkhiiiggmhncbaaGreat
set_option maxRecDepth 100000
open Go.RowKit Go.Shelf PolyMath FieldMath
attribute [local go_sem] Oper.semAt_some

theorem Sl.spot {w : World} {A : Option Addr} {c : Nat} {xs : List Int} (h : Sl w A c xs) : ∃ g off, (0 < xs.length → A = some ⟨g, off, none⟩ ∧ g < w.heap.size) ∧ Reads (fun j v => v = co xs j) g off xs.length w := by
  by_cases h0 : 0 < xs.length
  · obtain ⟨g, off, _, hA, hg, _, _⟩ := h.at_ h0
    obtain ⟨g', off', e, _, hc⟩ := h.rd _ hA (fun e => by rw [e] at h0; simp at h0)
    cases e
    exact ⟨g, off, fun _ => ⟨hA, hg⟩, fun j hj => ⟨_, hc j _ (List.getElem?_eq_getElem hj), (co_get hj).symm⟩⟩
  · exact ⟨0, 0, fun h => absurd h h0, fun j hj => absurd hj (by omega)⟩

theorem keepsFrom_drew {B : Nat} {X Y : World} (h : KeepsFrom B X Y) : KeepsFrom B X Y.drew := ⟨h.size, h.same⟩

/-- What a round keeps: what lay below n₀, and the box of the slice. -/
def KeepsE (n₀ Ba : Nat) (W W' : World) : Prop := Below n₀ W W' ∧ ∀ v, Boxed W Ba 23 v → Boxed W' Ba 23 v
theorem KeepsE.book {n₀ Ba : Nat} {w : World} (hn : n₀ ≤ w.heap.size) (hBa : Ba < w.heap.size) (W : World) (l : Nat) (o o' : Obj) (hl : w.heap.size ≤ l) (h : W.heap[l]? = some o) (h1 : o.isCells = false) (h2 : o.isWalk = false) : KeepsE n₀ Ba W (W.putObj l o') :=
  ⟨belowK_b hn W l o o' hl h h1 h2, fun _ hv => hv.kept (grownBy_putObj' W l o') (by simp; omega)⟩
theorem KeepsE.trans {n₀ Ba : Nat} {X Y Z : World} (h : KeepsE n₀ Ba X Y) (k : KeepsE n₀ Ba Y Z) : KeepsE n₀ Ba X Z := ⟨h.1.trans k.1, fun v hv => k.2 v (h.2 v hv)⟩
theorem keepingE (V : Nat → Int → Prop) (g off N n₀ Ba : Nat) (hg : 0 < N → g < n₀) : Keeping (KeepsE n₀ Ba) V g off N Ba where
  refl := fun _ => ⟨Below.refl _ _, fun _ h => h⟩
  trans := fun h k => h.trans k
  box := fun h hv => h.2 _ hv
  reads := fun h hr j hj => by
    obtain ⟨v, hc, hv⟩ := hr j hj
    exact ⟨v, (h.1.cell (p := ⟨g, off + j, none⟩) (hg (by omega))).trans hc, hv⟩

/-- The value behind the rounds so far. -/
def hor (p x : Int) {V : Nat → Int → Prop} {N : Nat} (pre : List (It V N)) : Int := pre.foldl (fun acc y => fadd p (fmul p acc x) y.1.2) 0
theorem hor_next (p x : Int) {V : Nat → Int → Prop} {N : Nat} (pre : List (It V N)) (y : It V N) : hor p x (pre ++ [y]) = fadd p (fmul p (hor p x pre) x) y.1.2 := by unfold hor; rw [List.foldl_append]; rfl
theorem hor_bd {p x : Int} (hp : 0 < p) {V : Nat → Int → Prop} {N : Nat} (pre : List (It V N)) : 0 ≤ hor p x pre ∧ hor p x pre < p := by
  rcases List.eq_nil_or_concat pre with rfl | ⟨ys, y, rfl⟩
  · exact ⟨Int.le_refl _, hp⟩
  · rw [List.concat_eq_append, hor_next]; exact fadd_bd p _ _ hp
theorem hor_all (p x : Int) (xs : List Int) : ∀ (k : Nat), k ≤ xs.length → ∀ ys : List (It (fun j v => v = co xs j) xs.length), ys.map (fun y => y.1.1) = dn xs.length k → hor p x ys = evf x k (fun i => co xs (i + (xs.length - k))) % p := by
  intro k
  induction k with
  | zero =>
    intro _ ys h
    have : ys = [] := by simpa [dn] using h
    subst this
    exact (Int.zero_emod p).symm
  | succ k ih =>
    intro hk ys h
    rw [dn_next] at h
    obtain ⟨ys1, ys2, rfl, h1, h2⟩ := List.map_eq_append_iff.1 h
    obtain ⟨y, rfl, hy⟩ : ∃ y, ys2 = [y] ∧ y.1.1 = xs.length - 1 - k := by
      rcases ys2 with _ | ⟨y, _ | ⟨z, r⟩⟩
      · simp at h2
      · exact ⟨y, rfl, by simpa using h2⟩
      · simp at h2
    rw [hor_next, ih (by omega) ys1 h1, y.2.2, hy, show xs.length - k = (xs.length - 1 - k) + 1 from by omega, show xs.length - (k + 1) = xs.length - 1 - k from by omega]
    exact horner p x (co xs) k (xs.length - 1 - k)
theorem hor_done (p x : Int) (xs : List Int) (ys : List (It (fun j v => v = co xs j) xs.length)) (h : ys.map (fun y => y.1.1) = dn xs.length xs.length) : hor p x ys = pev p xs x := by
  rw [hor_all p x xs xs.length (Nat.le_refl _) ys h]; unfold pev; rw [Nat.sub_self]; rfl

set_option maxRecDepth 100000 in
set_option maxHeartbeats 2000000 in
theorem eval_any (p x : Int) (hp : OkP p) (hx : 0 ≤ x ∧ x < p) (A : Option Addr) (c : Nat) (xs : List Int) (hxs : El p xs) (hl : xs.length ≤ 400) (w : World) (hr : Sl w A c xs) :
    Calls Tryz.prog 34 #[.int .u64 p, .slice A xs.length c, .int .u64 x] w fun e w' => e = .returned (.int .u64 (pev p xs x)) ∧ Below w.heap.size w w' := by
  have hbd := hp.bd
  obtain ⟨g, off, hAg, hre⟩ := hr.spot
  clear hr
  refine (callsIn_wide (n := 3)).1 ?_
  refine callsIn_of_wp_marks Tryz.func34 rfl trivial ?_ rfl
  simp only [Tryz.ntmps34, List.size_toArray, List.length_cons, List.length_nil, Nat.reduceAdd, Nat.reduceSub, Array.replicate_succ, Array.replicate_zero, List.push_toArray, List.append_toArray, List.nil_append, List.cons_append]
  gi_wp2_with (refine ⟨trivial, ?_⟩; gi_at_call 59; refine (back_in _ _ _ _ _).mono ?_; rintro e w' ⟨rfl, rfl⟩)
  have bp := (((Boxed.new w 22 (.int .u64 p)).alloc (.cells #[.int .u64 x] 22)).alloc (.cells #[.int .u64 0] 22)).alloc (.cells #[.slice A xs.length c] 23)
  have bx := ((Boxed.new (w.alloc (.cells #[.int .u64 p] 22)) 22 (.int .u64 x)).alloc (.cells #[.int .u64 0] 22)).alloc (.cells #[.slice A xs.length c] 23)
  have bv := (Boxed.new ((w.alloc (.cells #[.int .u64 p] 22)).alloc (.cells #[.int .u64 x] 22)) 22 (.int .u64 0)).alloc (.cells #[.slice A xs.length c] 23)
  have bb := Boxed.new (((w.alloc (.cells #[.int .u64 p] 22)).alloc (.cells #[.int .u64 x] 22)).alloc (.cells #[.int .u64 0] 22)) 23 (.slice A xs.length c)
  simp only [World.size_alloc] at bx bv bb
  have hB0 : Below w.heap.size w ((((w.alloc (.cells #[.int .u64 p] 22)).alloc (.cells #[.int .u64 x] 22)).alloc (.cells #[.int .u64 0] 22)).alloc (.cells #[.slice A xs.length c] 23)) :=
    ((((Below.refl _ w).alloc (Nat.le_refl _) _).alloc (by simp) _).alloc (by simp; omega) _).alloc (by simp; omega) _
  have hre0 := (keepingE (fun j v => v = co xs j) g off xs.length w.heap.size (w.heap.size + 1 + 1 + 1) (fun h => (hAg h).2)).reads (X := w) (Y := (((w.alloc (.cells #[.int .u64 p] 22)).alloc (.cells #[.int .u64 x] 22)).alloc (.cells #[.int .u64 0] 22)).alloc (.cells #[.slice A xs.length c] 23)) ⟨hB0, fun v hv => absurd hv.lt (by omega)⟩ hre
  refine wpIn_rangeFunc_ownG rfl (by omega) (gf := 75) (lb := #[.pointer (some ⟨w.heap.size + 1 + 1 + 1, 0, none⟩)]) rfl trivial (enters_of Tryz.func75 (by kernel_rfl) rfl)
    (back_stops (3 - 1) (by omega) (w.heap.size + 1 + 1 + 1) g off xs.length c A (fun h => (hAg h).1) (by omega) (fun j v => v = co xs j) (KeepsE w.heap.size (w.heap.size + 1 + 1 + 1)) (keepingE _ g off xs.length w.heap.size (w.heap.size + 1 + 1 + 1) (fun h => (hAg h).2)) _ (fun h => by have := (hAg h).2; simp; omega) bb hre0) (fun h k => h.trans k) (KeepsE.book (by simp <;> omega) (by simp <;> omega)) (Below.refl _ _) (fun _ => rfl)
    (fun pre W => (Boxed W w.heap.size 22 (.int .u64 p) ∧ Boxed W (w.heap.size + 1) 22 (.int .u64 x) ∧ Boxed W (w.heap.size + 1 + 1) 22 (.int .u64 (hor p x pre)) ∧ Boxed W (w.heap.size + 1 + 1 + 1) 23 (.slice A xs.length c)) ∧ Below w.heap.size w W)
    (fun _ _ _ => False)
    (OwnFrom.and (OwnFrom.and (Own.from (boxed_own _ _ _) _) (OwnFrom.and (Own.from (boxed_own _ _ _) _) (OwnFrom.and (Own.from (boxed_own _ _ _) _) (Own.from (boxed_own _ _ _) _)))) (ownFrom_below (Nat.le_refl _) (by simp; omega)))
    (fun _ _ _ _ _ hs _ _ => hs)
    ⟨⟨bp, bx, bv, bb⟩, hB0⟩
    (fun y => { tmps := #[.int .u64 p, .slice A xs.length c, .int .u64 x, .pointer (some ⟨w.heap.size, 0, none⟩), undef, .pointer (some ⟨w.heap.size + 1, 0, none⟩), .int .u64 0, .pointer (some ⟨w.heap.size + 1 + 1, 0, none⟩), undef, .int .u64 y.1.2, .slice A xs.length c, .func (.func 75) #[] #[.pointer (some ⟨w.heap.size + 1 + 1 + 1, 0, none⟩)], .int .i64 (y.1.1 : Int), .int .u64 y.1.2, undef, undef, undef, undef, undef, undef, undef, undef], defers := [] }) ?assign ?body ?done ?stop
  case assign =>
    intro l x W K hK
    gi_wp2
    exact hK
  case body =>
    rintro l pre y W ⟨⟨h1, h2, h3, h4⟩, hB⟩ _
    have hvb : 0 ≤ y.1.2 ∧ y.1.2 < p := by rw [y.2.2]; exact hxs.co (by omega) _
    have hstep := Lib.hid (hor_next p x pre y)
    have hhb := hor_bd (p := p) (x := x) (by omega) pre
    have hmb := fmul_bd p (hor p x pre) x (by omega)
    have c1 := h1.cell
    have c2 := h2.cell
    have c3 := h3.cell
    have f3 := h3.frozen
    gi_wp2
    refine wpIn_tail 7 (by kernel_rfl) (by kernel_rfl) (by kernel_rfl) ?_
    simp only [List.take_succ_cons, List.take_zero, List.drop_succ_cons, List.drop_zero]
    repeat still_step
    still_call (still_of (mul_any _ _ _ hp hhb.1 hhb.2 hx.1 hx.2 _))
    repeat still_step
    still_call (still_of (add_any _ _ _ hp hmb.1 hmb.2 hvb.1 hvb.2 _))
    repeat still_step
    refine wpStill_nil ?_
    go_wp2
    have e := hstep.out
    exact ⟨keepsFrom_drew ((KeepsOthers.setCell _ _ _).from _), ⟨((Below.refl w.heap.size W).setCell (p := ⟨w.heap.size + 1 + 1, 0, none⟩) (by show w.heap.size ≤ w.heap.size + 1 + 1; omega) _).drew, fun _ h => h.other (by omega) _⟩,
      ⟨h1.other (by omega) _, h2.other (by omega) _, by rw [e]; exact h3.set _, h4.other (by omega) _⟩, (hB.setCell (p := ⟨w.heap.size + 1 + 1, 0, none⟩) (by show w.heap.size ≤ w.heap.size + 1 + 1; omega) _).drew⟩
  case done =>
    rintro D ys W hD hS ⟨⟨_, _, h0, _⟩, hB⟩ hK
    rw [hor_done p x xs ys hS] at h0
    have hc := h0.cell
    gi_wp2
    refine ⟨by simp, .inl ⟨_, _, rfl, run_takeDeferred hK, ?_⟩⟩
    exact ⟨_, results_tmp rfl _ _ _, rfl, hB.trans (belowK_b (w := w) (Nat.le_refl _) W D _ _ (by simp at hD; omega) hK rfl rfl)⟩
  case stop =>
    rintro D c pre W _ _ h _
    exact h.elim

end Go.Proofs.YtkhiiiggmhncbaaGreat

/- Plain facts for a division that goes over the quotient's places from the top, with no Go in sight. No conditions but those said. -/
namespace PolyMath
open FieldMath

/-- The remainder's words while the first k words of b, times c, are being taken away at place i. -/
def remL (p : Int) (rs b : List Int) (c : Int) (i M k : Nat) : List Int := (List.range M).map fun n => remAt (co rs) (co b) c i k n % p
theorem remL_len (p : Int) (rs b : List Int) (c : Int) (i M k : Nat) : (remL p rs b c i M k).length = M := by unfold remL; simp
theorem remL_start {p : Int} (hp : 0 < p) {rs : List Int} (h : El p rs) (b : List Int) (c : Int) (i : Nat) : remL p rs b c i rs.length 0 = rs := by
  conv => rhs; rw [← list_map rs]
  exact map_ext fun n _ => by rw [remAt_zero, h.cm hp]
theorem remL_get (p : Int) (rs b : List Int) (c : Int) (i M k n : Nat) (h : n < M) : (remL p rs b c i M k)[n]? = some (remAt (co rs) (co b) c i k n % p) := map_get (fun n => remAt (co rs) (co b) c i k n % p) h
theorem remL_set (p : Int) (rs b : List Int) (c : Int) (i M k : Nat) : (remL p rs b c i M k).set (i + k) (fsub p (remAt (co rs) (co b) c i k (i + k) % p) (fmul p c (co b k))) = remL p rs b c i M (k + 1) :=
  map_set M (i + k) (by rw [remAt_here, fsub_mod]) fun n hn => by rw [remAt_else _ _ _ _ _ _ hn]
theorem remL_el {p : Int} (hp : 0 < p) (rs b : List Int) (c : Int) (i M k : Nat) : El p (remL p rs b c i M k) := by
  intro x hx
  obtain ⟨n, _, rfl⟩ := List.mem_map.1 hx
  exact md _ _ hp
theorem co_remL (p : Int) (rs b : List Int) (c : Int) (i M k n : Nat) : co (remL p rs b c i M k) n = if n < M then remAt (co rs) (co b) c i k n % p else 0 := co_map _ _ _

theorem co_set (xs : List Int) (i : Nat) (c : Int) (h : i < xs.length) (n : Nat) : co (xs.set i c) n = if n = i then c else co xs n := by
  unfold co
  rw [List.getElem?_set]
  by_cases e : n = i
  · subst e; rw [if_pos rfl, if_pos h, if_pos rfl]; rfl
  · rw [if_neg (fun h => e h.symm), if_neg e]
theorem el_set {p c : Int} {xs : List Int} (h : El p xs) (hc : 0 ≤ c ∧ c < p) (i : Nat) : El p (xs.set i c) := by
  intro x hx
  rcases List.mem_or_eq_of_mem_set hx with h1 | h1
  · exact h x h1
  · rw [h1]; exact hc
theorem el_zeros {p : Int} (hp : 0 < p) (N : Nat) : El p (List.replicate N 0) := by
  intro x hx; have := (List.mem_replicate.1 hx).2; omega
theorem co_zeros (N n : Nat) : co (List.replicate N 0) n = 0 := by
  unfold co; rw [List.getElem?_replicate]; split <;> rfl

/-- The quotient and the remainder behind k rounds; d: the degree of b; N: the number of rounds. -/
structure DivInv (p : Int) (a b : List Int) (N d k : Nat) (qs rs : List Int) : Prop where
  eq : ∀ n, (conv (co qs) (co b) n + co rs n) % p = co a n % p
  low : ∀ n, n < N - k → co qs n = 0
  top : ∀ n, N - k + d ≤ n → co rs n = 0

theorem DivInv.start {p : Int} {a b : List Int} {N d : Nat} (hN : tn a ≤ N + d) : DivInv p a b N d 0 (List.replicate N 0) (trim a) where
  eq := fun n => by
    rw [show co (List.replicate N 0) = fun _ => 0 from funext (co_zeros N), conv_null, Int.zero_add, co_trim]
  low := fun n _ => co_zeros N n
  top := fun n hn => by rw [co_trim]; exact tn_fin a n (by omega)

theorem DivInv.step {p inv : Int} {a b qs rs : List Int} {N d k M : Nat} (hb : tn b = d + 1) (hM : M = N + d) (hk : k < N) (hq : qs.length = N) (hr : rs.length = M)
    (hi : fmul p (co b d) inv = 1) (h : DivInv p a b N d k qs rs) :
    DivInv p a b N d (k + 1) (qs.set (N - 1 - k) (fmul p (co rs (N - 1 - k + d)) inv)) (remL p rs b (fmul p (co rs (N - 1 - k + d)) inv) (N - 1 - k) M (d + 1)) := by
  have fb : Fin (co b) (d + 1) := by rw [← hb]; exact tn_fin b
  obtain ⟨i, hi2⟩ : ∃ i, i = N - 1 - k := ⟨_, rfl⟩
  obtain ⟨c, hc⟩ : ∃ c, c = fmul p (co rs (i + d)) inv := ⟨_, rfl⟩
  rw [← hi2, ← hc]
  have hrr : ∀ n, co (remL p rs b c i M (d + 1)) n = (co rs n - conv (fun j => if j = i then c else 0) (co b) n) % p := by
    intro n
    rw [co_remL, remAt_full fb]
    by_cases hn : n < M
    · rw [if_pos hn]
    · rw [if_neg hn, co_fin rs n (by omega), conv_mono, if_pos (by omega), fb (n - i) (by omega), Int.mul_zero]; simp
  refine ⟨?_, ?_, ?_⟩
  · refine step_f (t := fun j => if j = i then c else 0) h.eq (fun n => ?_) (fun n => by rw [hrr, mdd])
    rw [co_set qs i c (by omega)]
    by_cases e : n = i
    · rw [if_pos e, if_pos e, e, h.low i (by omega), Int.zero_add]
    · rw [if_neg e, if_neg e, Int.add_zero]
  · intro n hn
    rw [co_set qs i c (by omega), if_neg (by omega)]
    exact h.low n (by omega)
  · intro n hn
    rw [hrr, conv_mono, if_pos (by omega)]
    by_cases e : n = i + d
    · subst e
      rw [Nat.add_sub_cancel_left]
      have e2 : c * co b d % p = co rs (i + d) % p := by
        have e3 : fmul p c (co b d) = fmul p (co rs (i + d)) 1 := by rw [hc, fmul_assoc, fmul_comm p inv, hi]
        unfold fmul at e3
        rw [e3, Int.mul_one]
      rw [ms rfl e2, Int.sub_self, Int.zero_emod]
    · rw [h.top n (by omega), fb (n - i) (by omega), Int.mul_zero]; simp

theorem DivInv.done {p : Int} {a b qs rs : List Int} {N d : Nat} (hb : tn b = d + 1) (hq : El p qs) (hr : El p rs) (h : DivInv p a b N d N qs rs) : DM p a b (trim qs) (trim rs) where
  qt := trim_trim _
  rt := trim_trim _
  qe := hq.trim
  re := hr.trim
  lt := by
    rw [trim_length, hb]
    have := tn_fin_le (f := rs) (n := d) (fun n hn => h.top n (by omega))
    omega
  eq := fun n => by rw [conv_ext (co_trim qs) (fun _ => rfl), co_trim]; exact h.eq n
end PolyMath

/- DivMod of package poly: quotient and remainder, or ErrZero where the divisor is zero; nothing that lay is changed. Conditions: a supported prime, polynomials over its field of at most 400 coefficients. -/
namespace Go.Proofs.YtkhiiiggmhncbaaGreat
set_option maxRecDepth 100000
open Go.RowKit Go.Shelf PolyMath FieldMath
attribute [local go_sem] Oper.semAt_some

set_option maxRecDepth 100000 in
set_option maxHeartbeats 2000000 in
theorem div_zero (p : Int) (hp : OkP p) (A B : Option Addr) (ca cb : Nat) (a b : List Int) (lb : b.length ≤ 400) (w : World) (hrb : Sl w B cb b) (hb0 : tn b = 0) :
    Calls Tryz.prog 67 #[.int .u64 p, .slice A a.length ca, .slice B b.length cb] w fun e w' => e = .returned (.tuple #[.slice none 0 0, .slice none 0 0, .int .i64 8]) ∧ Below w.heap.size w w' := by
  have hbd := hp.bd
  have hB0 : Below w.heap.size w ((w.alloc (.cells #[.int .u64 p] 22)).alloc (.cells #[.slice B b.length cb] 23)) := ((Below.refl _ w).alloc (Nat.le_refl _) _).alloc (by simp) _
  have hdeg := degree_any B cb b _ (hrb.next hB0) (by omega)
  rw [hb0] at hdeg
  have hcf := fun W (h : Below w.heap.size w W) => coef_any B cb b (-1) W (hrb.next h)
  rw [show coI b (-1) = 0 from rfl] at hcf
  refine (callsIn_wide (n := 3)).1 ?_
  refine callsIn_of_wp_marks Tryz.func67 rfl trivial ?_ rfl
  simp only [Tryz.ntmps67, List.size_toArray, List.length_cons, List.length_nil, Nat.reduceAdd, Nat.reduceSub, Array.replicate_succ, Array.replicate_zero, List.push_toArray, List.append_toArray, List.nil_append, List.cons_append]
  gi_wp2_with (refine ⟨trivial, ?_⟩; gi_at_call 82; refine (callsIn_wide.2 hdeg).mono ?_; rintro e w' ⟨rfl, rfl⟩)
  rw [wpIn_wide]
  have hB1 := hB0.alloc hB0.size (.cells #[.int .i64 (-1)] 3)
  have b1 := ((Boxed.new w 22 (.int .u64 p)).alloc (.cells #[.slice B b.length cb] 23)).alloc (.cells #[.int .i64 (-1)] 3)
  have b2 := (Boxed.new (w.alloc (.cells #[.int .u64 p] 22)) 23 (.slice B b.length cb)).alloc (.cells #[.int .i64 (-1)] 3)
  have b3 := Boxed.new ((w.alloc (.cells #[.int .u64 p] 22)).alloc (.cells #[.slice B b.length cb] 23)) 3 (.int .i64 (-1))
  simp only [World.size_alloc] at b2 b3
  clear hdeg hB0
  generalize ((w.alloc (.cells #[.int .u64 p] 22)).alloc (.cells #[.slice B b.length cb] 23)).alloc (.cells #[.int .i64 (-1)] 3) = W3 at hB1 b1 b2 b3 ⊢
  have c1 := b1.cell
  have c2 := b2.cell
  have c3 := b3.cell
  go_region_held3 (fun w' => w'.cell? ⟨w.heap.size, 0, none⟩ = some (.int .u64 p) ∧ w'.cell? ⟨w.heap.size + 1, 0, none⟩ = some (.slice B b.length cb) ∧ w'.cell? ⟨w.heap.size + 1 + 1, 0, none⟩ = some (.int .i64 (-1))) (first | exact ⟨c1, c2, c3⟩ | exact ⟨Lib.cell?_alloc_some _ c1, Lib.cell?_alloc_some _ c2, Lib.cell?_alloc_some _ c3⟩)
    (first | (go_at_call 33; refine (hcf _ ?_).mono ?_; (first | exact hB1.drew | exact (hB1.alloc hB1.size _).drew); rintro e w' ⟨rfl, rfl⟩) | (go_at_call 79; refine (inverse_zero _ _).mono ?_; rintro e w' ⟨rfl, rfl⟩))
  all_goals
    gi_wp2
    exact ⟨_, results_tmp3 rfl _ _ _, rfl, (hB1.alloc hB1.size _).drew⟩

end Go.Proofs.YtkhiiiggmhncbaaGreat

/- What the rounds of DivMod's loop find in memory. No conditions. -/
namespace Go.Proofs.YtkhiiiggmhncbaaGreat
set_option maxRecDepth 100000
open Go.RowKit Go.Shelf PolyMath FieldMath

theorem wpListIn_make_full {F : Fence} {n : Nat} {P : Program} (w : World) {ops : Array Oper} {rest : List Oper} {o : Oper} {a : Act} {Q : Exit → Act → World → Prop}
    (hg : o.guard = none) (l c : Operand) (t : TypeId) (hop : o.op = Op.makeSlice t l c)
    (base : Nat) (e : TypeId) (i : TypeInfo) (z : Value) (size : Nat) (h1 : P.underlying t = some (.slice e)) (h2 : P.info? e = some i) (h3 : i.zero = some z) (h4 : i.size = size)
    (kl kc : IntKind) (L C : Int) (m : Nat) (hl : a.eval l = .int kl L) (hc : a.eval c = .int kc C) (hL : L = (m : Int)) (hC : C = (m : Int)) (b2 : i.bytes * m ≤ 281474976710656) (b3 : m ≤ maxLen) (b4 : base ≤ w.heap.size)
    (hK : ∀ w', w'.ownsRow base e size (.slice (some ⟨w.heap.size, 0, none⟩) m m) m (madeCells z.cells (m * size)).toList → w.grownBy w' none → wpListIn F n P ops Q rest (a.put o.dst (.slice (some ⟨w.heap.size, 0, none⟩) m m)) w') :
    wpListIn F n P ops Q (o :: rest) a w := by
  refine wpListIn_plain hg fun K hK' => ?_
  obtain ⟨w', hrun, r1, r2⟩ := run_make_full (P := P) w base t e i z size h1 h2 h3 h4 kl kc m b2 b3 b4
  subst hL
  subst hC
  unfold Oper.wpIn
  refine ⟨?_, ?_⟩
  · simp [Oper.about, hop]
  · rw [Oper.semAt_plain F _ _ (by rw [hop]; intro c hc'; cases hc')]
    simp [execOp, hop, hl, hc, hrun, Result.andThen]
    exact hK' _ _ (hK w' r1 r2)

theorem Sl.drew {w : World} {A : Option Addr} {c : Nat} {xs : List Int} (h : Sl w A c xs) : Sl w.drew A c xs := h.next (Below.refl _ w).drew

/-- Any word may lie there. -/
def AnyV (_ : Nat) (_ : Int) : Prop := True

theorem dn_split {V : Nat → Int → Prop} {N : Nat} {pre : List (It V N)} {y : It V N} (h : (pre ++ [y]).map (fun x => x.1.1) = dn N (pre ++ [y]).length) : pre.map (fun x => x.1.1) = dn N pre.length ∧ y.1.1 = N - 1 - pre.length := by
  rw [List.length_append, List.length_singleton, dn_next, List.map_append] at h
  have h1 := List.append_inj h (by rw [List.length_map, dn_len])
  exact ⟨h1.1, by simpa using h1.2⟩

/-- What DivMod hands back. -/
def DivRow (p : Int) (a b : List Int) (w : World) (e : Ending) (w' : World) : Prop :=
  ∃ q r A c A' c', e = .returned (.tuple #[.slice A q.length c, .slice A' r.length c', .int .i64 0]) ∧ Sl w' A c q ∧ Sl w' A' c' r ∧ DM p a b q r ∧ q.length ≤ a.length ∧ Below w.heap.size w w'

/-- The places of DivMod's variables lie apart. -/
structure Apart (s s3 br gq bq : Nat) (Ar : Option Addr) : Prop where
  a1 : s + 1 + 1 < s3
  a2 : s3 < br
  a3 : br < gq
  a4 : gq < bq
  a5 : ∀ ad, Ar = some ad → s3 < ad.block ∧ ad.block < br

/-- What a round finds. -/
structure Mid (w : World) (p : Int) (a b : List Int) (B Ar : Option Addr) (cb cr M N d s3 br gq bq : Nat) (iv : Int) (pre : List (It AnyV N)) (W : World) : Prop where
  e1 : Boxed W w.heap.size 22 (.int .u64 p)
  e2 : Boxed W (w.heap.size + 1) 23 (.slice B b.length cb)
  e3 : Boxed W (w.heap.size + 1 + 1) 3 (.int .i64 (d : Int))
  e4 : Boxed W s3 22 (.int .u64 iv)
  e5 : Boxed W br 23 (.slice Ar M cr)
  e6 : Boxed W bq 23 (.slice (some ⟨gq, 0, none⟩) N N)
  e7 : Boxed W (bq + 1) 23 (.slice (some ⟨gq, 0, none⟩) N N)
  rows : ∃ qs rs : List Int, OwnAt W w.heap.size gq N N qs ∧ W.ownsRow w.heap.size 22 1 (.slice Ar M cr) M (rs.map (Value.int .u64)) ∧ El p qs ∧ El p rs ∧ (pre.map (fun x => x.1.1) = dn N pre.length → DivInv p a b N d pre.length qs rs)
  below : Below w.heap.size w W

theorem ownBlock_of {Ar : Option Addr} {M cr k : Nat} (h : (Value.slice Ar M cr).ownBlock = some k) : ∃ ad, Ar = some ad ∧ ad.block = k := by
  cases Ar with
  | none => simp [Value.ownBlock] at h
  | some ad => exact ⟨ad, rfl, by simpa [Value.ownBlock] using h⟩

theorem Mid.own {w : World} {p : Int} {a b : List Int} {B Ar : Option Addr} {cb cr M N d s3 br gq bq : Nat} {iv : Int} {Z : Nat} (hA : Apart w.heap.size s3 br gq bq Ar) (hZ : bq + 1 < Z) :
    OwnFrom Z (Mid w p a b B Ar cb cr M N d s3 br gq bq iv) := by
  obtain ⟨a1, a2, a3, a4, a5⟩ := hA
  intro pre X Y row h hg hr
  have ne : ∀ k, k < Z → some k ≠ row := fun k hk e => by have := (hr k e.symm).1; omega
  obtain ⟨qs, rs, h1, h2, h3, h4, h5⟩ := h.rows
  exact {
    e1 := h.e1.kept hg (ne _ (by omega))
    e2 := h.e2.kept hg (ne _ (by omega))
    e3 := h.e3.kept hg (ne _ (by omega))
    e4 := h.e4.kept hg (ne _ (by omega))
    e5 := h.e5.kept hg (ne _ (by omega))
    e6 := h.e6.kept hg (ne _ (by omega))
    e7 := h.e7.kept hg (ne _ (by omega))
    rows := ⟨qs, rs, h1.kept hg (ne _ (by omega)), h2.kept hg (by
      cases hv : (Value.slice Ar M cr).ownBlock with
      | none => exact .inl rfl
      | some k =>
        obtain ⟨ad, e, hk⟩ := ownBlock_of hv
        have := a5 ad e
        exact .inr (ne k (by omega))), h3, h4, h5⟩
    below := h.below.grown hg (h.below.size) (fun k e => by have := (hr k e).1; omega) }

/-- What a round keeps: the box of the slice that is gone over, and words at its places. -/
def KeepsD (gq bk N : Nat) (W W' : World) : Prop := (∀ v, Boxed W bk 23 v → Boxed W' bk 23 v) ∧ (Reads AnyV gq 0 N W → Reads AnyV gq 0 N W')
theorem KeepsD.trans {gq bk N : Nat} {X Y Z : World} (h : KeepsD gq bk N X Y) (k : KeepsD gq bk N Y Z) : KeepsD gq bk N X Z := ⟨fun v hv => k.1 v (h.1 v hv), fun hr => k.2 (h.2 hr)⟩
theorem KeepsD.book {gq bk N : Nat} {w : World} (hq : gq < w.heap.size) (hk : bk < w.heap.size) (W : World) (l : Nat) (o o' : Obj) (hl : w.heap.size ≤ l) (_ : W.heap[l]? = some o) (_ : o.isCells = false) (_ : o.isWalk = false) : KeepsD gq bk N W (W.putObj l o') :=
  ⟨fun _ hv => hv.kept (grownBy_putObj' W l o') (by simp; omega), fun hr j hj => by
    obtain ⟨v, hc, hv⟩ := hr j hj
    exact ⟨v, (grownBy_putObj' W l o').cell hc (by simp; omega), hv⟩⟩
theorem keepingD (gq bk N : Nat) : Keeping (KeepsD gq bk N) AnyV gq 0 N bk where
  refl := fun _ => ⟨fun _ h => h, fun h => h⟩
  trans := fun h k => h.trans k
  box := fun h hv => h.1 _ hv
  reads := fun h hr => h.2 hr
theorem OwnAt.reads {W : World} {base gq N c : Nat} {qs : List Int} (h : OwnAt W base gq N c qs) : Reads AnyV gq 0 N W := fun j hj => by
  have hl := h.len
  exact ⟨qs[j]'(by omega), by rw [Nat.zero_add]; exact h.cell (List.getElem?_eq_getElem _), trivial⟩

end Go.Proofs.YtkhiiiggmhncbaaGreat

/- DivMod of package poly where the divisor is not zero: quotient and remainder; nothing that lay is changed. Conditions: a supported prime, polynomials over its field of at most 400 coefficients. -/
namespace Go.Proofs.YtkhiiiggmhncbaaGreat
set_option maxRecDepth 100000
open Go.RowKit Go.Shelf PolyMath FieldMath
attribute [local go_sem] Oper.semAt_some

set_option maxRecDepth 100000 in
set_option maxHeartbeats 4000000 in
theorem div_row (p : Int) (hp : OkP p) (A B : Option Addr) (ca cb d : Nat) (a b : List Int) (ha : El p a) (hb : El p b) (la : a.length ≤ 400) (lb : b.length ≤ 400) (w : World)
    (hra : Sl w A ca a) (hrb : Sl w B cb b) (hd : tn b = d + 1) :
    Calls Tryz.prog 67 #[.int .u64 p, .slice A a.length ca, .slice B b.length cb] w fun e w' => DivRow p a b w e w' := by
  have hbd := hp.bd
  have hB0 : Below w.heap.size w ((w.alloc (.cells #[.int .u64 p] 22)).alloc (.cells #[.slice B b.length cb] 23)) := ((Below.refl _ w).alloc (Nat.le_refl _) _).alloc (by simp) _
  have hdeg := degree_any B cb b _ (hrb.next hB0) (by omega)
  rw [hd, show (((d + 1 : Nat) : Int) - 1) = (d : Int) from by omega] at hdeg
  have hld0 := tn_top b (by omega)
  have hdb := tn_le b
  rw [hd, Nat.add_sub_cancel] at hld0
  have hldb := hb.co (p := p) (by omega) d
  obtain ⟨ld, hld⟩ : ∃ ld, co b d = ld := ⟨_, rfl⟩
  have hcf := fun W (h : Below w.heap.size w W) => coef_any B cb b d W (hrb.next h)
  rw [coI_nat] at hcf
  rw [hld] at hcf hld0 hldb
  have hinv := hp.good.inv (a := ld) (by omega) hldb.2
  have hivb := fpow_bd p ld (p - 2) (by omega)
  have hic := fun W => inverse_any p ld hp (by omega) hldb.2 W
  generalize fpow p ld (p - 2) = iv at hinv hivb hic
  have hINV : Hid (fmul p (co b d) iv = 1) := Lib.hid (by rw [hld]; exact hinv)
  have hD0 := Lib.hid hd
  have hd400 : d + 1 ≤ b.length := by omega
  clear hinv hld hld0 hd
  refine (callsIn_wide (n := 3)).1 ?_
  refine callsIn_of_wp_marks Tryz.func67 rfl trivial ?_ rfl
  simp only [Tryz.ntmps67, List.size_toArray, List.length_cons, List.length_nil, Nat.reduceAdd, Nat.reduceSub, Array.replicate_succ, Array.replicate_zero, List.push_toArray, List.append_toArray, List.nil_append, List.cons_append]
  gi_wp2_with (refine ⟨trivial, ?_⟩; gi_at_call 82; refine (callsIn_wide.2 hdeg).mono ?_; rintro e w' ⟨rfl, rfl⟩)
  rw [wpIn_wide]
  have hB1 := hB0.alloc hB0.size (.cells #[.int .i64 (d : Int)] 3)
  have b1 := ((Boxed.new w 22 (.int .u64 p)).alloc (.cells #[.slice B b.length cb] 23)).alloc (.cells #[.int .i64 (d : Int)] 3)
  have b2 := (Boxed.new (w.alloc (.cells #[.int .u64 p] 22)) 23 (.slice B b.length cb)).alloc (.cells #[.int .i64 (d : Int)] 3)
  have b3 := Boxed.new ((w.alloc (.cells #[.int .u64 p] 22)).alloc (.cells #[.slice B b.length cb] 23)) 3 (.int .i64 (d : Int))
  simp only [World.size_alloc] at b2 b3
  clear hdeg hB0
  generalize ((w.alloc (.cells #[.int .u64 p] 22)).alloc (.cells #[.slice B b.length cb] 23)).alloc (.cells #[.int .i64 (d : Int)] 3) = W3 at hB1 b1 b2 b3 ⊢
  have c1 := b1.cell
  have c2 := b2.cell
  have c3 := b3.cell
  refine Code.wp_mono (Q := fun e a' w' => e = .normal ∧ a' = { tmps := #[.int .u64 p, .slice A a.length ca, .slice B b.length cb, .pointer (some ⟨w.heap.size, 0, none⟩), undef, .pointer (some ⟨w.heap.size + 1, 0, none⟩), .slice none 0 0, .slice none 0 0, .int .i64 0, .pointer (some ⟨w.heap.size + 1 + 1, 0, none⟩), .pointer (some ⟨W3.heap.size, 0, none⟩), .int .i64 0, undef, undef, undef, undef, undef, .slice B b.length cb, .int .i64 (d : Int), .tuple #[.int .u64 iv, .int .i64 0], .int .u64 p, .slice B b.length cb, .int .i64 (d : Int), .int .u64 ld, .tuple #[.int .u64 iv, .int .i64 0], .int .u64 iv, .int .i64 0, undef, undef, undef, undef, undef, undef, undef, undef, undef, undef, undef, undef, undef, undef, undef, undef, undef, undef, undef, undef, undef, undef, undef, undef, undef, undef, undef, undef, undef, undef, undef, undef, undef, undef, undef, undef, undef, undef, undef, undef, undef, undef, undef, undef, undef, undef, undef, undef, undef, undef, undef, undef, undef, undef, undef, undef, undef, undef, undef, undef, undef, undef], defers := [] } ∧ w' = (W3.alloc (.cells #[.int .u64 iv] 22)).drew) ?_ ?first
  case first =>
    go_region_held3 (fun w' => w'.cell? ⟨w.heap.size, 0, none⟩ = some (.int .u64 p) ∧ w'.cell? ⟨w.heap.size + 1, 0, none⟩ = some (.slice B b.length cb) ∧ w'.cell? ⟨w.heap.size + 1 + 1, 0, none⟩ = some (.int .i64 (d : Int))) (first | exact ⟨c1, c2, c3⟩ | exact ⟨Lib.cell?_alloc_some _ c1, Lib.cell?_alloc_some _ c2, Lib.cell?_alloc_some _ c3⟩)
      (first | (go_at_call 33; refine (hcf _ ?_).mono ?_; (first | exact hB1.drew | exact (hB1.alloc hB1.size _).drew); rintro e w' ⟨rfl, rfl⟩) | (go_at_call 79; refine (hic _).mono ?_; rintro e w' ⟨rfl, rfl⟩))
    all_goals exact ⟨rfl, rfl, rfl⟩
  rintro _ _ _ ⟨rfl, rfl, rfl⟩
  have hB4 : Below w.heap.size w (W3.alloc (.cells #[.int .u64 iv] 22)).drew := (hB1.alloc hB1.size _).drew
  have b4 : Boxed (W3.alloc (.cells #[.int .u64 iv] 22)).drew W3.heap.size 22 (.int .u64 iv) := Boxed.new W3 _ _
  have e1 : Boxed (W3.alloc (.cells #[.int .u64 iv] 22)).drew w.heap.size 22 (.int .u64 p) := b1.alloc _
  have e2 : Boxed (W3.alloc (.cells #[.int .u64 iv] 22)).drew (w.heap.size + 1) 23 (.slice B b.length cb) := b2.alloc _
  have e3 : Boxed (W3.alloc (.cells #[.int .u64 iv] 22)).drew (w.heap.size + 1 + 1) 3 (.int .i64 (d : Int)) := b3.alloc _
  have hs3 := b3.lt
  clear hcf hic b1 b2 b3 c1 c2 c3 hB1
  generalize W3.heap.size = s3 at hs3 b4 ⊢
  generalize (W3.alloc (.cells #[.int .u64 iv] 22)).drew = W4 at hB4 b4 e1 e2 e3 ⊢
  obtain ⟨i0, hi, hz0, hz1, hz2⟩ := info_parts info_u64
  have htr := trim_any A ca a W4 (hra.next hB4) (by omega)
  have htl := tn_le a
  have hrl := trim_length a
  have hel := ha.trim
  obtain ⟨r0, hr0⟩ : ∃ r0, trim a = r0 := ⟨_, rfl⟩
  rw [hr0] at htr hrl hel
  have hR0 := Lib.hid hr0
  have hr400 : r0.length ≤ a.length := by omega
  have hRL := Lib.hid hrl
  clear hr0 hrl htl
  obtain ⟨N, hN⟩ : ∃ N : Nat, (N : Int) = max ((r0.length : Int) - d) 0 := ⟨(max ((r0.length : Int) - d) 0).toNat, by omega⟩
  have hNa : N ≤ a.length := by omega
  have hNM : r0.length ≤ N + d := by omega
  have hNM2 : 0 < N → r0.length = N + d := by omega
  have hNM3 := Lib.hid hNM2
  have hNH := Lib.hid hN
  have hb8 : i0.bytes * N ≤ 281474976710656 := by rw [hz2]; omega
  have hB8 := Lib.hid hb8
  clear hN hNM2 hb8
  gi_wp2_with fail
  refine ⟨trivial, ?_⟩
  refine (callsIn_wide.2 htr).mono ?_
  rintro e w5 ⟨v, rfl, hown5, hb5⟩
  obtain ⟨Ar, cr, rfl, hsr⟩ := own_form hown5
  clear htr
  have hB5 : Below w.heap.size w w5 := hB4.trans (hb5.mono hB4.size)
  have k1 : Boxed w5 w.heap.size 22 (.int .u64 p) := (hb5.block _ e1.lt).trans e1
  have k2 : Boxed w5 (w.heap.size + 1) 23 (.slice B b.length cb) := (hb5.block _ e2.lt).trans e2
  have k3 : Boxed w5 (w.heap.size + 1 + 1) 3 (.int .i64 (d : Int)) := (hb5.block _ e3.lt).trans e3
  have k4 : Boxed w5 s3 22 (.int .u64 iv) := (hb5.block _ b4.lt).trans b4
  have hAr : Hid (∀ ad, Ar = some ad → s3 < ad.block ∧ ad.block < w5.heap.size) := Lib.hid fun ad e => by
    have h1 := hown5.lt ad.block (by rw [e]; rfl)
    have h2 := b4.lt
    omega
  have hs5 : s3 < w5.heap.size := k4.lt
  have hown6 := Joins.ownsRow_le hown5 hB4.size
  have hOW := Lib.hid hown6
  clear hown5 hown6 hb5 hsr e1 e2 e3 b4 hB4
  have m1 := k1.alloc (.cells #[.slice Ar r0.length cr] 23)
  have m2 := k2.alloc (.cells #[.slice Ar r0.length cr] 23)
  have m3 := k3.alloc (.cells #[.slice Ar r0.length cr] 23)
  have m4 := k4.alloc (.cells #[.slice Ar r0.length cr] 23)
  have m5 := Boxed.new w5 23 (.slice Ar r0.length cr)
  have hB6 := hB5.alloc hB5.size (.cells #[.slice Ar r0.length cr] 23)
  have hO6 := Lib.hid (hOW.out.alloc (.cells #[.slice Ar r0.length cr] 23))
  have hsz6 : (w5.alloc (.cells #[.slice Ar r0.length cr] 23)).heap.size = w5.heap.size + 1 := World.size_alloc _ _
  have hSZ6 := Lib.hid hsz6
  clear k1 k2 k3 k4 hB5 hOW hsz6
  have c3 := m3.cell
  have c5 := m5.cell
  gi_wp2_with (gi_at_make; refine wpListIn_make_full _ rfl _ _ 23 rfl w.heap.size 22 i0 (.int .u64 0) 1 Tryz.underlying23 hi hz0 hz1 .i64 .i64 _ _ N rfl rfl (by have := hNH.out; omega) (by have := hNH.out; omega) hB8.out (by simp only [maxLen]; omega) hB6.size ?_; intro w7 hown7 hgrow7)
  · have hb7 : Below w.heap.size w w7 := hB6.grown hgrow7 hB6.size (fun k e => by cases e)
    have n1 := m1.kept hgrow7 (by simp)
    have n2 := m2.kept hgrow7 (by simp)
    have n3 := m3.kept hgrow7 (by simp)
    have n4 := m4.kept hgrow7 (by simp)
    have n5 := m5.kept hgrow7 (by simp)
    have hOr7 := hO6.out.kept hgrow7 (by cases (Value.slice Ar r0.length cr).ownBlock <;> simp)
    simp only [Value.cells, toList_madeCells_one, Nat.mul_one] at hown7
    rw [hSZ6.out] at hown7
    have hOq7 : OwnAt w7 w.heap.size (w5.heap.size + 1) N N (List.replicate N 0) := by unfold OwnAt; simpa using hown7
    have hq7 := hOq7.lt
    clear hown7 hgrow7 m1 m2 m3 m4 m5 hB6 hO6 hSZ6 c3 c5
    refine ⟨trivial, ?_⟩
    refine (back_in _ _ _ _ _).mono ?_
    rintro e w' ⟨rfl, rfl⟩
    gi_wp2_with fail
    have hsz8 : (w7.alloc (.cells #[.slice (some ⟨w5.heap.size + 1, 0, none⟩) N N] 23)).heap.size = w7.heap.size + 1 := World.size_alloc _ _
    have hMid : Mid w p a b B Ar cb cr r0.length N d s3 w5.heap.size (w5.heap.size + 1) w7.heap.size iv [] ((w7.alloc (.cells #[.slice (some ⟨w5.heap.size + 1, 0, none⟩) N N] 23)).alloc (.cells #[.slice (some ⟨w5.heap.size + 1, 0, none⟩) N N] 23)) := {
      e1 := (n1.alloc _).alloc _
      e2 := (n2.alloc _).alloc _
      e3 := (n3.alloc _).alloc _
      e4 := (n4.alloc _).alloc _
      e5 := (n5.alloc _).alloc _
      e6 := (Boxed.new w7 _ _).alloc _
      e7 := by rw [← hsz8]; exact Boxed.new _ _ _
      rows := ⟨List.replicate N 0, r0, (hOq7.push _).push _, (hOr7.alloc _).alloc _, el_zeros (by omega) N, hel, fun _ => by rw [← hR0.out]; exact DivInv.start (by have := hRL.out; omega)⟩
      below := (hb7.alloc hb7.size _).alloc (by have := hb7.size; simp; omega) _ }
    have hOq9 := (hOq7.push (.cells #[.slice (some ⟨w5.heap.size + 1, 0, none⟩) N N] 23)).push (.cells #[.slice (some ⟨w5.heap.size + 1, 0, none⟩) N N] 23)
    have hAp : Apart w.heap.size s3 w5.heap.size (w5.heap.size + 1) w7.heap.size Ar := ⟨hs3, hs5, by omega, hq7.2, hAr.out⟩
    have hRD := Lib.hid hOq9.reads
    have hMI := Lib.hid hMid
    have hAP := Lib.hid hAp
    clear n1 n2 n3 n4 n5 hOr7 hOq7 hOq9 hsz8 hMid hAp hAr hb7
    generalize w5.heap.size = br at *
    refine wpIn_rangeFunc_ownG rfl (by omega) (gf := 75) (lb := #[.pointer (some ⟨w7.heap.size + 1, 0, none⟩)]) rfl trivial (enters_of Tryz.func75 (by kernel_rfl) rfl)
      (back_stops (3 - 1) (by omega) (w7.heap.size + 1) (br + 1) 0 N N (some ⟨br + 1, 0, none⟩) (fun _ => rfl) (by omega) AnyV (KeepsD (br + 1) (w7.heap.size + 1) N) (keepingD _ _ _) _ (fun _ => by simp; omega) hMI.out.e7 hRD.out) (fun h k => h.trans k) (KeepsD.book (by simp; omega) (by simp)) (Below.refl _ _) (fun _ => rfl)
      (Mid w p a b B Ar cb cr r0.length N d s3 br (br + 1) w7.heap.size iv)
      (fun _ _ _ => False)
      (Mid.own hAP.out (by simp))
      (fun _ _ _ _ _ hs _ _ => hs)
      hMI.out
      (fun y => { tmps := #[.int .u64 p, .slice A a.length ca, .slice B b.length cb, .pointer (some ⟨w.heap.size, 0, none⟩), undef, .pointer (some ⟨w.heap.size + 1, 0, none⟩), .slice none 0 0, .slice none 0 0, .int .i64 0, .pointer (some ⟨w.heap.size + 1 + 1, 0, none⟩), .pointer (some ⟨s3, 0, none⟩), .int .i64 0, .pointer (some ⟨br, 0, none⟩), .pointer (some ⟨w7.heap.size, 0, none⟩), .int .i64 (y.1.1 : Int), undef, undef, .slice B b.length cb, .int .i64 (d : Int), .tuple #[.int .u64 iv, .int .i64 0], .int .u64 p, .slice B b.length cb, .int .i64 (d : Int), .int .u64 ld, .tuple #[.int .u64 iv, .int .i64 0], .int .u64 iv, .int .i64 0, .int .i64 0, .bool false, undef, .slice A a.length ca, .slice Ar r0.length cr, .slice Ar r0.length cr, .int .i64 (r0.length : Int), .int .i64 (d : Int), .int .i64 ((r0.length : Int) - (d : Int)), .int .i64 0, .slice (some ⟨br + 1, 0, none⟩) N N, .slice (some ⟨br + 1, 0, none⟩) N N, .func (.func 75) #[] #[.pointer (some ⟨w7.heap.size + 1, 0, none⟩)], .int .i64 (y.1.1 : Int), .int .u64 y.1.2, undef, undef, undef, undef, undef, undef, undef, undef, undef, undef, undef, undef, undef, undef, undef, undef, undef, undef, undef, undef, undef, undef, undef, undef, undef, undef, undef, undef, undef, undef, undef, undef, undef, undef, undef, undef, undef, undef, undef, undef, undef, undef, undef, undef, undef, undef, undef], defers := [] }) ?assign ?body ?done ?stop
    case assign =>
      intro l x W K hK
      gi_wp2
      exact hK
    case stop =>
      rintro D c pre W _ _ h _
      exact h.elim
    case body =>
      rintro l pre ⟨⟨i, v⟩, hiN, hv⟩ W hM _
      have h1 := hNH.out
      have h2 : i < N := hiN
      omega
    case done =>
      rintro D ys W hD hS hM hK
      have hlen := congrArg List.length hS
      rw [List.length_map, dn_len] at hlen
      obtain ⟨qs, rs, hOq, hOr, hEq, hEr, hDI⟩ := hM.rows
      rw [hlen] at hDI
      have hDM := Lib.hid ((hDI hS).done hD0.out hEq hEr)
      have hql := hOq.len
      have hrl : rs.length = r0.length := by have := hOr.1; simpa using this
      have hsq := hOq.sl
      have hsr := Sl.of_own hOr
      have ht1 := trimmed_any _ _ qs W.drew hsq.drew (by omega)
      have ht2 := trimmed_any _ _ rs W.drew hsr.drew (by omega)
      rw [hql] at ht1
      rw [hrl] at ht2
      have hqa : (trim qs).length ≤ a.length := by rw [trim_length]; have := tn_le qs; omega
      have hS1 := Lib.hid hsq.trims
      have hS2 := Lib.hid hsr.trims
      have c5 := hM.e5.cell
      have c6 := hM.e6.cell
      have hBW := hM.below
      clear hDI hS hlen hql hrl hsq hsr hOq hOr
      gi_wp2
      rw [wpIn_wide]
      refine wp_region_still_lit (by kernel_rfl) (by kernel_rfl) ?_
      change wpStill _ _ (World.drew _) _ _ _
      repeat still_step
      still_call (still_of ht1)
      repeat still_step
      still_call (still_of ht2)
      repeat still_step
      refine wpStill_nil ?_
      gi_wp2
      have hK2 : W.drew.heap[D]? = some (.deferred (some [])) := hK
      have hDb : w7.heap.size + 1 + 1 ≤ D := by simpa using hD
      refine ⟨by simp, .inl ⟨_, _, rfl, run_takeDeferred hK2, ?_⟩⟩
      exact ⟨_, results_tmp3 rfl _ _ _, trim qs, trim rs, _, _, _, _, rfl, hS1.out.drew.grown (grownBy_putObj' _ D _) (fun ad hA e => by injection hA with hA; subst hA; injection e with e; change br + 1 = D at e; omega),
        hS2.out.drew.grown (grownBy_putObj' _ D _) (fun ad hA e => by have := (hAP.out.a5 ad hA).2; injection e with e; omega), hDM.out, hqa, hBW.drew.trans (belowK_b (w := w) (Nat.le_refl _) W.drew D _ _ (by have := hBW.size; omega) hK2 rfl rfl)⟩

  · have hb7 : Below w.heap.size w w7 := hB6.grown hgrow7 hB6.size (fun k e => by cases e)
    have n1 := m1.kept hgrow7 (by simp)
    have n2 := m2.kept hgrow7 (by simp)
    have n3 := m3.kept hgrow7 (by simp)
    have n4 := m4.kept hgrow7 (by simp)
    have n5 := m5.kept hgrow7 (by simp)
    have hOr7 := hO6.out.kept hgrow7 (by cases (Value.slice Ar r0.length cr).ownBlock <;> simp)
    simp only [Value.cells, toList_madeCells_one, Nat.mul_one] at hown7
    rw [hSZ6.out] at hown7
    have hOq7 : OwnAt w7 w.heap.size (w5.heap.size + 1) N N (List.replicate N 0) := by unfold OwnAt; simpa using hown7
    have hq7 := hOq7.lt
    clear hown7 hgrow7 m1 m2 m3 m4 m5 hB6 hO6 hSZ6 c3 c5
    refine ⟨trivial, ?_⟩
    refine (back_in _ _ _ _ _).mono ?_
    rintro e w' ⟨rfl, rfl⟩
    gi_wp2_with fail
    have hsz8 : (w7.alloc (.cells #[.slice (some ⟨w5.heap.size + 1, 0, none⟩) N N] 23)).heap.size = w7.heap.size + 1 := World.size_alloc _ _
    have hMid : Mid w p a b B Ar cb cr r0.length N d s3 w5.heap.size (w5.heap.size + 1) w7.heap.size iv [] ((w7.alloc (.cells #[.slice (some ⟨w5.heap.size + 1, 0, none⟩) N N] 23)).alloc (.cells #[.slice (some ⟨w5.heap.size + 1, 0, none⟩) N N] 23)) := {
      e1 := (n1.alloc _).alloc _
      e2 := (n2.alloc _).alloc _
      e3 := (n3.alloc _).alloc _
      e4 := (n4.alloc _).alloc _
      e5 := (n5.alloc _).alloc _
      e6 := (Boxed.new w7 _ _).alloc _
      e7 := by rw [← hsz8]; exact Boxed.new _ _ _
      rows := ⟨List.replicate N 0, r0, (hOq7.push _).push _, (hOr7.alloc _).alloc _, el_zeros (by omega) N, hel, fun _ => by rw [← hR0.out]; exact DivInv.start (by have := hRL.out; omega)⟩
      below := (hb7.alloc hb7.size _).alloc (by have := hb7.size; simp; omega) _ }
    have hOq9 := (hOq7.push (.cells #[.slice (some ⟨w5.heap.size + 1, 0, none⟩) N N] 23)).push (.cells #[.slice (some ⟨w5.heap.size + 1, 0, none⟩) N N] 23)
    have hAp : Apart w.heap.size s3 w5.heap.size (w5.heap.size + 1) w7.heap.size Ar := ⟨hs3, hs5, by omega, hq7.2, hAr.out⟩
    have hRD := Lib.hid hOq9.reads
    have hMI := Lib.hid hMid
    have hAP := Lib.hid hAp
    clear n1 n2 n3 n4 n5 hOr7 hOq7 hOq9 hsz8 hMid hAp hAr hb7
    generalize w5.heap.size = br at *
    refine wpIn_rangeFunc_ownG rfl (by omega) (gf := 75) (lb := #[.pointer (some ⟨w7.heap.size + 1, 0, none⟩)]) rfl trivial (enters_of Tryz.func75 (by kernel_rfl) rfl)
      (back_stops (3 - 1) (by omega) (w7.heap.size + 1) (br + 1) 0 N N (some ⟨br + 1, 0, none⟩) (fun _ => rfl) (by omega) AnyV (KeepsD (br + 1) (w7.heap.size + 1) N) (keepingD _ _ _) _ (fun _ => by simp; omega) hMI.out.e7 hRD.out) (fun h k => h.trans k) (KeepsD.book (by simp; omega) (by simp)) (Below.refl _ _) (fun _ => rfl)
      (Mid w p a b B Ar cb cr r0.length N d s3 br (br + 1) w7.heap.size iv)
      (fun _ _ _ => False)
      (Mid.own hAP.out (by simp))
      (fun _ _ _ _ _ hs _ _ => hs)
      hMI.out
      (fun y => { tmps := #[.int .u64 p, .slice A a.length ca, .slice B b.length cb, .pointer (some ⟨w.heap.size, 0, none⟩), undef, .pointer (some ⟨w.heap.size + 1, 0, none⟩), .slice none 0 0, .slice none 0 0, .int .i64 0, .pointer (some ⟨w.heap.size + 1 + 1, 0, none⟩), .pointer (some ⟨s3, 0, none⟩), .int .i64 0, .pointer (some ⟨br, 0, none⟩), .pointer (some ⟨w7.heap.size, 0, none⟩), .int .i64 (y.1.1 : Int), undef, undef, .slice B b.length cb, .int .i64 (d : Int), .tuple #[.int .u64 iv, .int .i64 0], .int .u64 p, .slice B b.length cb, .int .i64 (d : Int), .int .u64 ld, .tuple #[.int .u64 iv, .int .i64 0], .int .u64 iv, .int .i64 0, .int .i64 0, .bool false, undef, .slice A a.length ca, .slice Ar r0.length cr, .slice Ar r0.length cr, .int .i64 (r0.length : Int), .int .i64 (d : Int), .int .i64 ((r0.length : Int) - (d : Int)), .int .i64 ((r0.length : Int) - (d : Int)), .slice (some ⟨br + 1, 0, none⟩) N N, .slice (some ⟨br + 1, 0, none⟩) N N, .func (.func 75) #[] #[.pointer (some ⟨w7.heap.size + 1, 0, none⟩)], .int .i64 (y.1.1 : Int), .int .u64 y.1.2, undef, undef, undef, undef, undef, undef, undef, undef, undef, undef, undef, undef, undef, undef, undef, undef, undef, undef, undef, undef, undef, undef, undef, undef, undef, undef, undef, undef, undef, undef, undef, undef, undef, undef, undef, undef, undef, undef, undef, undef, undef, undef, undef, undef, undef, undef, undef], defers := [] }) ?assign ?body ?done ?stop
    case assign =>
      intro l x W K hK
      gi_wp2
      exact hK
    case stop =>
      rintro D c pre W _ _ h _
      exact h.elim
    case body =>
      rintro l pre ⟨⟨i, v⟩, hiN, hv⟩ W hM hpl
      have hi2 : i < N := hiN
      have hML := hNM3.out (by omega)
      obtain ⟨qs, rs, hOq, hOr, hEq, hEr, hDI⟩ := hM.rows
      have hDV := Lib.hid hDI
      have hrl : rs.length = r0.length := by have := hOr.1; simpa using this
      obtain ⟨gr, cr', hgr⟩ := Joins.ownsRow_form hOr (by omega)
      injection hgr with hg1 _ hg2
      subst hg1 hg2
      have hOr2 : OwnAt W w.heap.size gr r0.length cr rs := hOr
      have hxr : rs[i + d]? = some (rs[i + d]'(by omega)) := List.getElem?_eq_getElem _
      have hxc := co_at hxr
      generalize rs[i + d]'(by omega) = x at hxr hxc
      have hxb := hEr x (List.mem_of_getElem? hxr)
      have hcb := fmul_bd p x iv (by omega)
      have c1 := hM.e1.cell
      have c3 := hM.e3.cell
      have c4 := hM.e4.cell
      have c5 := hM.e5.cell
      have c6 := hM.e6.cell
      have cx := hOr2.cell hxr
      have cq := hOq.cell (List.getElem?_eq_getElem (show i < qs.length by rw [hOq.len]; exact hi2))
      have fq := hOq.frozen i
      have hXC := Lib.hid hxc
      have hRLL := Lib.hid hrl
      have hMLL := Lib.hid hML
      have wi : (i : Int) + d < r0.length := by omega
      have wj : (i : Int) < N := by omega
      clear hDI hxr hxc hrl hML
      have wr1 : IntKind.i64.wrap ((i : Int) + (d : Int)) = (i : Int) + (d : Int) := IntWalk.i64_in _ (by omega)
      have wr2 : ((i : Int) + (d : Int)).toNat = i + d := by omega
      have wr3 : (0 : Int) ≤ (i : Int) + (d : Int) := by omega
      gi_wp2
      refine wpIn_tail 12 (by kernel_rfl) (by kernel_rfl) (by kernel_rfl) ?_
      simp only [List.take_succ_cons, List.take_zero, List.drop_succ_cons, List.drop_zero]
      repeat still_step
      still_call (still_of (mul_any _ _ _ hp hxb.1 hxb.2 hivb.1 hivb.2 _))
      repeat still_step
      refine wpStill_nil ?_
      go_wp2
      clear wr1 wr2 wr3 wi
      have hgb := (hAP.out.a5 _ rfl).2
      have hgs := (hAP.out.a5 _ rfl).1
      change gr < br at hgb
      change s3 < gr at hgs
      have hG1 := grown_drew (hOq.grow i (fmul p x iv))
      have hOq1 := (hOq.put i (fmul p x iv)).drew
      have hOr1 := hOr2.kept hG1 (by simp; omega)
      have f1 := hM.e1.kept hG1 (by simp; omega)
      have f2 := hM.e2.kept hG1 (by simp; omega)
      have f3 := hM.e3.kept hG1 (by simp; omega)
      have f4 := hM.e4.kept hG1 (by simp; omega)
      have f5 := hM.e5.kept hG1 (by simp)
      have f6 := hM.e6.kept hG1 (by simp; omega)
      have f7 := hM.e7.kept hG1 (by simp; omega)
      have hB1 := hM.below.grown hG1 hM.below.size (fun k e => by injection e with e; omega)
      have hst : remL p rs b (fmul p x iv) i r0.length 0 = rs := by rw [← hRLL.out]; exact remL_start (by omega) hEr b _ i
      have hST := Lib.hid hst
      have hql := hOq.len
      have hQL := Lib.hid hql
      have hcx : fmul p (co rs (i + d)) iv = fmul p x iv := by rw [hXC.out]
      have hCX := Lib.hid hcx
      clear hst hql hcx c1 c3 c4 c5 c6 cx cq fq hOr hOr2 hOq hM hXC
      generalize fmul p x iv = c at *
      generalize (W.setCell ⟨br + 1, i, none⟩ (.int .u64 c)).drew = W1 at *
      have g2 := f2.cell
      have g3 := f3.cell
      have hsb := hrb.next hB1
      have hcap := hrb.cap
      have hdcap : (d : Int) + 1 ≤ cb := by omega
      obtain ⟨bb, ob, hBB, _⟩ : ∃ bb ob, B = some ⟨bb, ob, none⟩ ∧ True := by
        obtain ⟨bb, ob, _, e, _⟩ := hrb.at_ (k := 0) (by omega)
        exact ⟨bb, ob, e, trivial⟩
      subst hBB
      gi_wp2
      gi_loopw [59] (fun j wr => ∃ J : Nat, J ≤ d + 1 ∧ j = .int .i64 J ∧ OwnAt wr w.heap.size gr r0.length cr (remL p rs b c i r0.length J) ∧ W1.grownBy wr (some gr)) (fun j _ => d + 1 - (intOf j).toNat)
      case atStart => exact ⟨0, Nat.zero_le _, rfl, by rw [hST.out]; exact hOr1, World.grownBy.refl _ _⟩
      case round =>
        obtain ⟨J, hJ, rfl, hOJ, hGJ⟩ := hrel
        have hBJ := hB1.grown hGJ hB1.size (fun k e => by injection e with e; omega)
        by_cases hlt : J < d + 1
        · obtain ⟨b', o', y, hBy, _, hyb, hcy⟩ := (hrb.next hBJ).at_ (k := J) (by omega)
          cases hBy
          have hyb2 := hb y (List.mem_of_getElem? hyb)
          have hyc := co_at hyb
          have hset := remL_set p rs b c i r0.length J
          rw [hyc] at hset
          have hS := Lib.hid hset
          have hML2 := hMLL.out
          have hget := hOJ.cell (remL_get p rs b c i r0.length J (i + J) (by omega))
          have hfz := hOJ.frozen (i + J)
          have hzb := md (remAt (co rs) (co b) c i J (i + J)) p (by omega)
          clear hyb hyc hset
          generalize remAt (co rs) (co b) c i J (i + J) % p = z at hS hget hzb
          have hmb := fmul_bd p c y (by omega)
          have hput := Lib.hid (hOJ.put (i + J) (fsub p z (fmul p c y)))
          have hgr2 := Lib.hid (hOJ.grow (i + J) (fsub p z (fmul p c y)))
          have g1 := (f1.kept hGJ (by simp; omega)).cell
          have g5 := (f5.kept hGJ (by simp; omega)).cell
          have g6 := (f6.kept hGJ (by simp; omega)).cell
          have hqi : (qs.set i c)[i]? = some c := by rw [List.getElem?_set, if_pos rfl, if_pos (by rw [hQL.out]; exact hi2)]
          have g7 := (hOq1.kept hGJ (by simp; omega)).cell hqi
          have wi : (i : Int) + J < r0.length := by omega
          have wd : (J : Int) < (d : Int) + 1 := by omega
          have wr1 : IntKind.i64.wrap ((i : Int) + (J : Int)) = (i : Int) + (J : Int) := IntWalk.i64_in _ (by omega)
          have wr2 : ((i : Int) + (J : Int)).toNat = i + J := by omega
          have wr3 : (0 : Int) ≤ (i : Int) + (J : Int) := by omega
          clear hqi hML2
          gi_wp2
          refine wpIn_tail 20 (by kernel_rfl) (by kernel_rfl) (by kernel_rfl) ?_
          simp only [List.take_succ_cons, List.take_zero, List.drop_succ_cons, List.drop_zero]
          repeat still_step
          still_call (still_of (mul_any _ _ _ hp hcb.1 hcb.2 hyb2.1 hyb2.2 _))
          repeat still_step
          still_call (still_of (sub_any _ _ _ hp hzb.1 hzb.2 hmb.1 hmb.2 _))
          repeat still_step
          refine wpStill_nil ?_
          go_wp2
          clear wr1 wr2 wr3 wi wd
          gi_wp2
          go_roundw
          case rel => exact ⟨J + 1, by omega, by simp, by rw [← hS.out]; exact hput.out.drew, grown_drew (grown_trans hGJ hgr2.out)⟩
          case measure => simp [intOf]; omega
        · obtain rfl : J = d + 1 := by omega
          gi_wp2
          exact ⟨(KeepsFrom.of_grownBy hG1 (fun j e => by injection e with e; simp; omega)).trans (KeepsFrom.of_grownBy hGJ (fun j e => by injection e with e; simp; omega)),
            ⟨fun v hv => (hv.kept hG1 (by simp; omega)).kept hGJ (by simp; omega), fun _ => (hOq1.kept hGJ (by simp; omega)).reads⟩,
            { e1 := f1.kept hGJ (by simp; omega)
              e2 := f2.kept hGJ (by simp; omega)
              e3 := f3.kept hGJ (by simp; omega)
              e4 := f4.kept hGJ (by simp; omega)
              e5 := f5.kept hGJ (by simp; omega)
              e6 := f6.kept hGJ (by simp; omega)
              e7 := f7.kept hGJ (by simp; omega)
              rows := ⟨qs.set i c, remL p rs b c i r0.length (d + 1), hOq1.kept hGJ (by simp; omega), hOJ, el_set hEq hcb i, remL_el (by omega) _ _ _ _ _ _, fun hpre => by
                obtain ⟨h1, h2⟩ := dn_split hpre
                have h3 := DivInv.step hD0.out hMLL.out hpl hQL.out hRLL.out hINV.out (hDV.out h1)
                change i = N - 1 - pre.length at h2
                rw [← h2, hCX.out] at h3
                rw [List.length_append]
                exact h3⟩
              below := hBJ }⟩
    case done =>
      rintro D ys W hD hS hM hK
      have hlen := congrArg List.length hS
      rw [List.length_map, dn_len] at hlen
      obtain ⟨qs, rs, hOq, hOr, hEq, hEr, hDI⟩ := hM.rows
      rw [hlen] at hDI
      have hDM := Lib.hid ((hDI hS).done hD0.out hEq hEr)
      have hql := hOq.len
      have hrl : rs.length = r0.length := by have := hOr.1; simpa using this
      have hsq := hOq.sl
      have hsr := Sl.of_own hOr
      have ht1 := trimmed_any _ _ qs W.drew hsq.drew (by omega)
      have ht2 := trimmed_any _ _ rs W.drew hsr.drew (by omega)
      rw [hql] at ht1
      rw [hrl] at ht2
      have hqa : (trim qs).length ≤ a.length := by rw [trim_length]; have := tn_le qs; omega
      have hS1 := Lib.hid hsq.trims
      have hS2 := Lib.hid hsr.trims
      have c5 := hM.e5.cell
      have c6 := hM.e6.cell
      have hBW := hM.below
      clear hDI hS hlen hql hrl hsq hsr hOq hOr
      gi_wp2
      rw [wpIn_wide]
      refine wp_region_still_lit (by kernel_rfl) (by kernel_rfl) ?_
      change wpStill _ _ (World.drew _) _ _ _
      repeat still_step
      still_call (still_of ht1)
      repeat still_step
      still_call (still_of ht2)
      repeat still_step
      refine wpStill_nil ?_
      gi_wp2
      have hK2 : W.drew.heap[D]? = some (.deferred (some [])) := hK
      have hDb : w7.heap.size + 1 + 1 ≤ D := by simpa using hD
      refine ⟨by simp, .inl ⟨_, _, rfl, run_takeDeferred hK2, ?_⟩⟩
      exact ⟨_, results_tmp3 rfl _ _ _, trim qs, trim rs, _, _, _, _, rfl, hS1.out.drew.grown (grownBy_putObj' _ D _) (fun ad hA e => by injection hA with hA; subst hA; injection e with e; change br + 1 = D at e; omega),
        hS2.out.drew.grown (grownBy_putObj' _ D _) (fun ad hA e => by have := (hAP.out.a5 ad hA).2; injection e with e; omega), hDM.out, hqa, hBW.drew.trans (belowK_b (w := w) (Nat.le_refl _) W.drew D _ _ (by have := hBW.size; omega) hK2 rfl rfl)⟩

end Go.Proofs.YtkhiiiggmhncbaaGreat

/- Eval, Add, Scale, Sub, Words of the reference of layer 4: values, sums, multiples, differences; nothing that lay is changed. Conditions: a supported prime, polynomials over its field of at most 400 coefficients, elements. -/
namespace Go.Proofs.YtkhiiiggmhncbaaGreat
set_option maxRecDepth 100000
open Go.RowKit PolyMath FieldMath

theorem own_next {w : World} {base k : Nat} {v : Value} {f : Nat → Int} (h : w.ownsRow base 22 1 v (k + 1) (((List.range k).map f).map (Value.int .u64) ++ [.int .u64 (f k)])) :
    w.ownsRow base 22 1 v (k + 1) (((List.range (k + 1)).map f).map (Value.int .u64)) := by
  rw [map_next, List.map_append]; exact h

theorem rInv_any (p a : Int) (hp : OkP p) (ha0 : 0 < a) (ha : a < p) (w : World) :
    Calls Tryz.prog 72 #[.int .u64 p, .int .u64 a] w fun e w' => e = .returned (.tuple #[.int .u64 (fpow p a (p - 2)), .int .i64 0]) ∧ w = w' := by
  have hbd := hp.bd
  go_enter Tryz.func72, Tryz.ntmps72
  go_wp2_with (go_at_call 88; refine (rPow_any _ _ _ hp (by omega) (by omega) (by omega) (by omega) _).mono ?_; rintro e w' ⟨rfl, rfl⟩)
  go_ret2
  exact ⟨rfl, rfl⟩

/-- The elements that Words makes of the first twelve words. -/
def wds (p : Int) (l : List Int) : List Int := (l.take 12).map (· % p)
theorem wds_len (p : Int) (l : List Int) : (wds p l).length ≤ 12 := by unfold wds; rw [List.length_map, List.length_take]; omega
theorem wds_el {p : Int} (hp : 0 < p) (l : List Int) : El p (wds p l) := by
  intro x hx
  obtain ⟨y, _, rfl⟩ := List.mem_map.1 hx
  exact md _ _ hp
theorem wds_eq (p : Int) (l : List Int) : (List.range (min l.length 12)).map (fun n => co l n % p) = wds p l := by
  unfold wds
  rw [show (l.take 12) = (List.range (min l.length 12)).map (co l) from ?_, List.map_map]
  · rfl
  · apply List.ext_getElem (by simp; omega)
    intro n h1 h2
    rw [List.getElem_map, List.getElem_range, List.getElem_take, co_get]

end Go.Proofs.YtkhiiiggmhncbaaGreat

/- Mul and DivMod of the reference of layer 4: product, quotient and remainder; nothing that lay is changed. Conditions: a supported prime, polynomials over its field of at most 400 coefficients. -/
namespace Go.Proofs.YtkhiiiggmhncbaaGreat
set_option maxRecDepth 100000
open Go.RowKit PolyMath FieldMath

def slen : Value → Nat
  | .slice _ n _ => n
  | _ => 0

/-- What the loop of the reference's division holds. -/
structure RDiv (p : Int) (a b q r : List Int) : Prop where
  qt : trim q = q
  rt : trim r = r
  qe : El p q
  re : El p r
  ql : q.length ≤ a.length
  rl : r.length ≤ a.length
  eq : ∀ n, (conv (co q) (co b) n + co r n) % p = co a n % p

theorem RDiv.start {p : Int} {a : List Int} (ha : El p a) (b : List Int) : RDiv p a b [] (trim a) where
  qt := rfl
  rt := trim_trim _
  qe := El.nil p
  re := ha.trim
  ql := Nat.zero_le _
  rl := by rw [trim_length]; exact tn_le a
  eq := fun n => by rw [show co [] = fun _ => 0 from funext co_nil, conv_null, Int.zero_add, co_trim]
theorem RDiv.next {p inv : Int} (hp : 0 < p) {a b q r : List Int} (h : RDiv p a b q r) (h0 : 0 < b.length) (hl : b.length ≤ r.length) (hi : fmul p (co b (b.length - 1)) inv = 1) :
    RDiv p a b (padd p q (List.replicate (r.length - b.length) 0 ++ [fmul p (co r (r.length - 1)) inv])) (psub p r (pmul p (List.replicate (r.length - b.length) 0 ++ [fmul p (co r (r.length - 1)) inv]) b)) where
  qt := padd_trim _ _ _
  rt := psub_trim _ _ _
  qe := padd_el hp _ _
  re := psub_el hp _ _
  ql := by
    have h1 := padd_len p q (List.replicate (r.length - b.length) 0 ++ [fmul p (co r (r.length - 1)) inv])
    have h2 := h.ql
    have h3 := h.rl
    rw [List.length_append, List.length_replicate, List.length_singleton] at h1
    omega
  rl := by have := div_less h0 hl hi; have := h.rl; omega
  eq := div_step h.eq
theorem RDiv.done {p : Int} {a b q r : List Int} (h : RDiv p a (trim b) q r) (hl : r.length < tn b) : DM p a b q r :=
  ⟨h.qt, h.rt, h.qe, h.re, hl, fun n => by rw [← h.eq n, conv_ext (fun _ => rfl) (co_trim b)]⟩

end Go.Proofs.YtkhiiiggmhncbaaGreat

/- The examples of the document for layer 4 hold: awake returns true; fit selects a prime and three polynomials over its field. Nothing that lay is changed. Conditions: words. -/
namespace Go.Proofs.YtkhiiiggmhncbaaGreat
set_option maxRecDepth 100000
open Go.RowKit PolyMath FieldMath

theorem el_dec {p : Int} {xs : List Int} (h : xs.all (fun x => decide (0 ≤ x ∧ x < p)) = true) : El p xs := fun x hx => of_decide_eq_true (List.all_eq_true.1 h x hx)
theorem ok31 : OkP 31 := .inl rfl
theorem Sl.l2b (w : World) (o : Obj) (x y : Int) : Sl ((w.alloc o).alloc (.cells #[.int .u64 x, .int .u64 y] 22)) (some ⟨w.heap.size + 1, 0, none⟩) 2 [x, y] := by
  have h := Sl.l2 (w.alloc o) x y
  rwa [World.size_alloc w o] at h
theorem Sl.l3b (w : World) (o : Obj) (x y z : Int) : Sl ((w.alloc o).alloc (.cells #[.int .u64 x, .int .u64 y, .int .u64 z] 22)) (some ⟨w.heap.size + 1, 0, none⟩) 3 [x, y, z] := by
  have h := Sl.l3 (w.alloc o) x y z
  rwa [World.size_alloc w o] at h

theorem ex_mul (A B : Option Addr) (ca cb : Nat) (w : World) (h : Sl w A ca [30, 1]) (h' : Sl w B cb [1, 1, 0]) : Calls Tryz.prog 81 #[.int .u64 31, .slice A 2 ca, .slice B 3 cb] w fun e w' => Row w e w' [30, 0, 1] := by
  have := mul_row 31 ok31 A B ca cb [30, 1] [1, 1, 0] (el_dec (by decide)) (el_dec (by decide)) (by decide) (by decide) w h h'
  rwa [show pmul 31 [30, 1] [1, 1, 0] = [30, 0, 1] from by decide +kernel] at this
theorem ex_div (A B : Option Addr) (ca cb : Nat) (w : World) (h : Sl w A ca [30, 0, 1]) (h' : Sl w B cb [1, 1]) : Calls Tryz.prog 67 #[.int .u64 31, .slice A 3 ca, .slice B 2 cb] w fun e w' =>
    ∃ A1 c1 A2 c2, e = .returned (.tuple #[.slice A1 2 c1, .slice A2 0 c2, .int .i64 0]) ∧ Sl w' A1 c1 [30, 1] ∧ Below w.heap.size w w' := by
  refine (div_row 31 ok31 A B ca cb 1 [30, 0, 1] [1, 1] (el_dec (by decide)) (el_dec (by decide)) (by decide) (by decide) w h h' (by decide +kernel)).mono ?_
  rintro e w' ⟨q, r, A1, c1, A2, c2, he, hs1, hs2, hDM, _, hb⟩
  have hE : DM 31 [30, 0, 1] [1, 1] [30, 1] [] := by
    have := DM.make (p := 31) (q := [30, 1]) (b := [1, 1]) (r := []) (el_dec (by decide)) (El.nil _) (by decide +kernel)
    rwa [show padd 31 (pmul 31 [30, 1] [1, 1]) [] = [30, 0, 1] from by decide +kernel, show trim [30, 1] = [30, 1] from by decide +kernel, show trim ([] : List Int) = [] from rfl] at this
  obtain ⟨rfl, rfl⟩ := hDM.unique ok31.good (el_dec (by decide)) hE
  exact ⟨A1, c1, A2, c2, he, hs1, hb⟩
theorem ex_zero (A B : Option Addr) (ca cb : Nat) (w : World) (h' : Sl w B cb [0, 0]) : Calls Tryz.prog 67 #[.int .u64 31, .slice A 3 ca, .slice B 2 cb] w fun e w' => e = .returned (.tuple #[.slice none 0 0, .slice none 0 0, .int .i64 8]) ∧ Below w.heap.size w w' :=
  div_zero 31 ok31 A B ca cb [30, 0, 1] [0, 0] (by decide) w h' (by decide +kernel)
theorem ex_deg (w : World) : Calls Tryz.prog 82 #[.slice none 0 0] w fun e w' => e = .returned (.int .i64 (-1)) ∧ w = w' := degree_any none 0 [] w (Sl.nothing w) (by decide)
theorem ex_eval (A : Option Addr) (ca : Nat) (w : World) (h : Sl w A ca [30, 0, 1]) : Calls Tryz.prog 34 #[.int .u64 31, .slice A 3 ca, .int .u64 2] w fun e w' => e = .returned (.int .u64 3) ∧ Below w.heap.size w w' := by
  have := eval_any 31 2 ok31 (by decide) A ca [30, 0, 1] (el_dec (by decide)) (by decide) w h
  rwa [show pev 31 [30, 0, 1] 2 = 3 from by decide +kernel] at this

/-- Each is a word. -/
def Words (xs : List Int) : Prop := ∀ x ∈ xs, 0 ≤ x ∧ x ≤ 18446744073709551615

/-- What fit hands back. -/
def FitRow (p : Int) (xa xb xc : List Int) (w : World) (e : Ending) (w' : World) : Prop :=
  ∃ A1 c1 A2 c2 A3 c3, e = .returned (.tuple #[.int .u64 p, .slice A1 (wds p xa).length c1, .slice A2 (wds p xb).length c2, .slice A3 (wds p xc).length c3]) ∧ Sl w' A1 c1 (wds p xa) ∧ Sl w' A2 c2 (wds p xb) ∧ Sl w' A3 c3 (wds p xc) ∧ Below w.heap.size w w'

end Go.Proofs.YtkhiiiggmhncbaaGreat

/- Arguments of layer 4's laws: a slice of words, and the struct Ask of a prime's number, three slices of words and two numbers; they read behind the call as before where only new memory was made. No conditions. -/
namespace Go.Proofs.YtkhiiiggmhncbaaGreat
set_option maxRecDepth 100000
open Go.ChangeShapes Go.WideShapes Go.ChangeAt Go.RowKit Go.Joins Go.Deep Go.WideElems PolyMath

theorem laidOut : laidOutB Tryz.prog = true := by kernel_rfl
theorem cells_u64 : Tryz.prog.cellsOf 22 = 1 := by kernel_rfl
theorem array6 {α : Type} {cs : Array α} (h : cs.size = 6) : ∃ c0 c1 c2 c3 c4 c5, cs = #[c0, c1, c2, c3, c4, c5] := by
  obtain ⟨l⟩ := cs
  match l, h with
  | [c0, c1, c2, c3, c4, c5], _ => exact ⟨c0, c1, c2, c3, c4, c5, rfl⟩

section
variable {H : Type} {enc : TypeId × Value → H} {P : Program} {w : World} {base : Nat} {spare : Nat → Bool} {held : Bool}
theorem trod_struct6 {t : TypeId} {f0 f1 f2 f3 f4 f5 : Field} {fuel : Nat} {cs : List Value} {x : DataW H × List MemPlace} (ht : P.underlying t = some (.struct #[f0, f1, f2, f3, f4, f5])) (h : DataW.trod enc P w base spare held fuel t cs = some x) :
    ∃ y0 y1 y2 y3 y4 y5 n, x.2 = y0.2 ++ (y1.2 ++ (y2.2 ++ (y3.2 ++ (y4.2 ++ y5.2)))) ∧ DataW.trod enc P w base spare held n f0.type ((cs.drop f0.offset).take (P.cellsOf f0.type)) = some y0 ∧
      DataW.trod enc P w base spare held n f1.type ((cs.drop f1.offset).take (P.cellsOf f1.type)) = some y1 ∧ DataW.trod enc P w base spare held n f2.type ((cs.drop f2.offset).take (P.cellsOf f2.type)) = some y2 ∧
      DataW.trod enc P w base spare held n f3.type ((cs.drop f3.offset).take (P.cellsOf f3.type)) = some y3 ∧ DataW.trod enc P w base spare held n f4.type ((cs.drop f4.offset).take (P.cellsOf f4.type)) = some y4 ∧
      DataW.trod enc P w base spare held n f5.type ((cs.drop f5.offset).take (P.cellsOf f5.type)) = some y5 := by
  obtain ⟨xs, n, _, rfl, hl, hlen, hf⟩ := DataW.trod_struct ht h
  match xs, hlen with
  | [y0, y1, y2, y3, y4, y5], _ => exact ⟨y0, y1, y2, y3, y4, y5, n, by simp, by simpa using hf 0 f0 rfl, by simpa using hf 1 f1 rfl, by simpa using hf 2 f2 rfl, by simpa using hf 3 f3 rfl, by simpa using hf 4 f4 rfl, by simpa using hf 5 f5 rfl⟩
theorem open_agg6 {r : Reach} {b0 : Nat} {t : TypeId} {f0 f1 f2 f3 f4 f5 : Field} {v : Value} {d : DataW H} {p : List MemPlace} (hs : P.underlying t = some (.struct #[f0, f1, f2, f3, f4, f5])) (hone : oneCellFields P #[f0, f1, f2, f3, f4, f5] = true) (hC : P.cellsOf t = 6)
    (hv : Value.okWide P w r b0 t v) (h : DataW.Trod enc P w base spare held t v d p) :
    ∃ (v0 v1 v2 v3 v4 v5 : Value) (y0 y1 y2 y3 y4 y5 : DataW H × List MemPlace) (n : Nat), v = .agg #[v0, v1, v2, v3, v4, v5] ∧ p = y0.2 ++ (y1.2 ++ (y2.2 ++ (y3.2 ++ (y4.2 ++ y5.2)))) ∧
      DataW.trod enc P w base spare held n f0.type [v0] = some y0 ∧ DataW.trod enc P w base spare held n f1.type [v1] = some y1 ∧ DataW.trod enc P w base spare held n f2.type [v2] = some y2 ∧ DataW.trod enc P w base spare held n f3.type [v3] = some y3 ∧
      DataW.trod enc P w base spare held n f4.type [v4] = some y4 ∧ DataW.trod enc P w base spare held n f5.type [v5] = some y5 := by
  obtain ⟨cs, rfl, hsz⟩ := okWide_struct hs hv
  obtain ⟨c0, c1, c2, c3, c4, c5, rfl⟩ := array6 (hsz.trans hC)
  obtain ⟨fuel, hf⟩ := h
  obtain ⟨y0, y1, y2, y3, y4, y5, n, hx, h0, h1, h2, h3, h4, h5⟩ := trod_struct6 hs hf
  obtain ⟨o0, k0⟩ := hone_of hone 0 f0 rfl
  obtain ⟨o1, k1⟩ := hone_of hone 1 f1 rfl
  obtain ⟨o2, k2⟩ := hone_of hone 2 f2 rfl
  obtain ⟨o3, k3⟩ := hone_of hone 3 f3 rfl
  obtain ⟨o4, k4⟩ := hone_of hone 4 f4 rfl
  obtain ⟨o5, k5⟩ := hone_of hone 5 f5 rfl
  exact ⟨c0, c1, c2, c3, c4, c5, y0, y1, y2, y3, y4, y5, n, rfl, hx, by simpa [Value.cells, o0, k0] using h0, by simpa [Value.cells, o1, k1] using h1, by simpa [Value.cells, o2, k2] using h2, by simpa [Value.cells, o3, k3] using h3, by simpa [Value.cells, o4, k4] using h4, by simpa [Value.cells, o5, k5] using h5⟩
end

section
variable {H : Type} {enc : TypeId × Value → H}
theorem open_sl {W : World} {v : Value} {fuel : Nat} {y : DataW H × List MemPlace} (hf : DataW.trod enc Tryz.prog W 0 (fun _ => true) true fuel 23 [v] = some y) (hlt : ∀ x ∈ y.2, x.block < W.heap.size) :
    ∃ A xs c, v = .slice A xs.length c ∧ Sl W A c xs ∧ Words xs := by
  rcases open_ints Tryz.underlying23 Tryz.underlying22 cells_u64 hf with ⟨hcs, hx⟩ | ⟨a, len', cap', zs, hcs, _, hl, hm, hz, hx, hcell, hwz⟩
  · injection hcs with hcs _
    subst hcs
    exact ⟨none, [], 0, rfl, Sl.nothing _, fun x hx => (by cases hx)⟩
  · injection hcs with hcs _
    subst hcs hx
    simp only [if_true] at hz
    have hlen : (zs.take len').length = len' := by rw [List.length_take]; omega
    refine ⟨some a, zs.take len', cap', by rw [hlen], ⟨by omega, (fun h => by cases h), fun ad hA hn => ?_⟩, fun x hx => ?_⟩
    · injection hA with hA
      subst hA
      have hpos : 0 < len' := by rw [← hlen]; exact List.length_pos_iff.2 hn
      obtain ⟨b, off, spot⟩ := a
      have hspot : spot = none := by simpa [Addr.add] using World.cell?_spot (hcell 0 (by omega))
      subst hspot
      refine ⟨b, off, rfl, hlt (.cell b off) (MemPlace.mem_row.2 ⟨0, by omega, by simp⟩), fun j x hx => ?_⟩
      have hj : j < len' := by have := (List.getElem?_eq_some_iff.1 hx).1; omega
      rw [← add_plain, hcell j (by omega)]
      rw [List.getElem?_take, if_pos hj] at hx
      rw [List.getD_eq_getElem?_getD, hx]; rfl
    · have h1 := hwz x (List.mem_of_mem_take hx)
      have e1 : IntKind.u64.min = 0 := rfl
      have e2 : IntKind.u64.max = 18446744073709551615 := rfl
      simp only [Lit.wf, Bool.and_eq_true, decide_eq_true_eq] at h1
      omega

theorem bounds_w {a : Int} (h : (Lit.int .u64 a).wf = true) : 0 ≤ a ∧ a ≤ 18446744073709551615 := by
  have e1 : IntKind.u64.min = 0 := rfl
  have e2 : IntKind.u64.max = 18446744073709551615 := rfl
  simp only [Lit.wf, Bool.and_eq_true, decide_eq_true_eq] at h
  omega

/-- What an Ask holds. -/
structure AskIs (W : World) (v : Value) (P X K : Int) (A B C : Option Addr) (ca cb cc : Nat) (xa xb xc : List Int) : Prop where
  val : v = .agg #[.int .u64 P, .slice A xa.length ca, .slice B xb.length cb, .slice C xc.length cc, .int .u64 X, .int .u64 K]
  p0 : 0 ≤ P ∧ P ≤ 18446744073709551615
  x0 : 0 ≤ X ∧ X ≤ 18446744073709551615
  k0 : 0 ≤ K ∧ K ≤ 18446744073709551615
  wa : Words xa
  wb : Words xb
  wc : Words xc
  sa : Sl W A ca xa
  sb : Sl W B cb xb
  sc : Sl W C cc xc

theorem stays {W W' : World} {v : Value} {d : DataW H} {p : List MemPlace} (h : DataW.Trod enc Tryz.prog W 0 (fun _ => true) true 23 v d p) (hb : Below W.heap.size W W') (hlt : ∀ x ∈ p, x.block < W.heap.size) (sp : Nat → Bool) (hsp : ∀ x ∈ p, sp x.block = true) :
    DataW.Trod enc Tryz.prog W' 0 sp true 23 v d p :=
  WideElems.Trod_stays laidOut (by kernel_rfl) (of_decide_eq_true (by kernel_rfl)) h (fun x hx => hb.same (hlt x hx)) hsp
end

/-- The walk of a law over Ask, as the frame wants it. -/
def AskWalk (f : FuncId) : Prop := ∀ (W : World) (v : Value) (P X K : Int) (A B C : Option Addr) (ca cb cc : Nat) (xa xb xc : List Int), AskIs W v P X K A B C ca cb cc xa xb xc →
  Calls Tryz.prog f #[v] W fun e w' => e = .returned (.bool true) ∧ Below W.heap.size W w'
end Go.Proofs.YtkhiiiggmhncbaaGreat
