/- Texts joined: DSys, HInt, VErr, VRef, VKey. Each says its own conditions. -/
import Derived.Test.YtelkmbhhaopafaaME
import Derived.Test.YtelkmbhhaopafaaMA
import Derived.Test.YtelkmbhhaopafaaMC
import Derived.Test.YtelkmbhhaopafaaMB
import Derived.Deep.RegionLaw
/- The linear system of the error locator and its product, with no walk in sight: what a solution means, that the quotient of its two parts is the polynomial within the bounds if there is one. Conditions: p one of the primes, distinct abscissas, enough points, as said. -/
namespace Go.Proofs.Ytelkmbhhaopafaa
set_option maxRecDepth 100000
open PolyMath FieldMath MatMath

/-- One equation: powers for the product, powers times -y for the locator; its right side. -/
def kRow (p : Int) (N wr : Nat) (x y : Int) : List Int := pows p x N ++ (pows p x wr).map (fmul p (fneg p y))
def kVl (p : Int) (wr : Nat) (x y : Int) : Int := fmul p y (x ^ wr % p)
def kMat (p : Int) (ps : List (Int × Int)) (N wr : Nat) : List (List Int) := ps.map fun q => kRow p N wr q.1 q.2
def kVal (p : Int) (ps : List (Int × Int)) (wr : Nat) : List Int := ps.map fun q => kVl p wr q.1 q.2

theorem sg_split (f : Nat → Int) (m : Nat) : ∀ n, sg (m + n) f = sg m f + sg n (fun j => f (m + j))
  | 0 => by simp [sg]
  | n + 1 => by rw [← Nat.add_assoc, sg_succ, sg_succ, sg_split f m n, Int.add_assoc]
theorem evp_sg (x : Int) (f : Nat → Int) : ∀ n, evp x f n = sg n (fun j => f j * x ^ j)
  | 0 => rfl
  | n + 1 => by rw [sg_succ, ← evp_sg x f n]; rfl
theorem kRow_len (p : Int) (N wr : Nat) (x y : Int) : (kRow p N wr x y).length = N + wr := by unfold kRow; simp [pows_len]
theorem kMat_len (p : Int) (ps : List (Int × Int)) (N wr : Nat) : (kMat p ps N wr).length = ps.length := by unfold kMat; simp
theorem kVal_len (p : Int) (ps : List (Int × Int)) (wr : Nat) : (kVal p ps wr).length = ps.length := by unfold kVal; simp
theorem co_pows (p x : Int) (n : Nat) {j : Nat} (h : j < n) : co (pows p x n) j = x ^ j % p := by unfold pows; rw [co_map, if_pos h]
theorem kRow_lo (p : Int) (N wr : Nat) (x y : Int) {j : Nat} (h : j < N) : co (kRow p N wr x y) j = x ^ j % p := by
  rw [← co_pows p x N h]; unfold kRow co; rw [List.getElem?_append_left (by rw [pows_len]; exact h)]
theorem kRow_hi (p : Int) (N wr : Nat) (x y : Int) {j : Nat} (h : j < wr) : co (kRow p N wr x y) (N + j) = fmul p (fneg p y) (x ^ j % p) := by
  refine co_at ?_
  unfold kRow
  rw [List.getElem?_append_right (by rw [pows_len]; omega), pows_len, Nat.add_sub_cancel_left, List.getElem?_map]
  unfold pows
  rw [List.getElem?_map, List.getElem?_range h]
  rfl
theorem kRow_el {p : Int} (hp : 0 < p) (N wr : Nat) (x y : Int) : El p (kRow p N wr x y) := fun z hz => by
  unfold kRow pows at hz
  rcases List.mem_append.1 hz with h | h
  · obtain ⟨j, _, rfl⟩ := List.mem_map.1 h
    exact ⟨Int.emod_nonneg _ (by omega), Int.emod_lt_of_pos _ hp⟩
  · obtain ⟨j, _, rfl⟩ := List.mem_map.1 h
    exact ⟨Int.emod_nonneg _ (by omega), Int.emod_lt_of_pos _ hp⟩
theorem kMat_el {p : Int} (hp : 0 < p) (ps : List (Int × Int)) (N wr : Nat) : ∀ r ∈ kMat p ps N wr, El p r := fun r hr => by
  obtain ⟨q, _, rfl⟩ := List.mem_map.1 hr
  exact kRow_el hp N wr _ _
theorem kVal_el {p : Int} (hp : 0 < p) (ps : List (Int × Int)) (wr : Nat) : El p (kVal p ps wr) := fun z hz => by
  obtain ⟨q, _, rfl⟩ := List.mem_map.1 hz
  exact ⟨Int.emod_nonneg _ (by omega), Int.emod_lt_of_pos _ hp⟩
theorem at_co {ps : List (Int × Int)} {i : Nat} (hi : i < ps.length) : ps[i]? = some (co (px ps) i, co (py ps) i) := by
  have e : ps[i]? = some ps[i] := List.getElem?_eq_getElem hi
  rw [e, px_at (x := ps[i].1) (y := ps[i].2) e, py_at (x := ps[i].1) (y := ps[i].2) e]
theorem kMat_ro {p : Int} {ps : List (Int × Int)} (N wr : Nat) {i : Nat} (hi : i < ps.length) : ro (kMat p ps N wr) i = kRow p N wr (co (px ps) i) (co (py ps) i) := ro_at (by
  unfold kMat; rw [List.getElem?_map, at_co hi]; rfl)
theorem kVal_co {p : Int} {ps : List (Int × Int)} (wr : Nat) {i : Nat} (hi : i < ps.length) : co (kVal p ps wr) i = kVl p wr (co (px ps) i) (co (py ps) i) := co_at (by
  unfold kVal; rw [List.getElem?_map, at_co hi]; rfl)
theorem kMat_ncol {p : Int} {ps : List (Int × Int)} (N wr : Nat) (h : 0 < ps.length) : ncol (kMat p ps N wr) = N + wr := by unfold ncol; rw [kMat_ro N wr h, kRow_len]
theorem kMat_rect {p : Int} {ps : List (Int × Int)} (N wr : Nat) (h : 0 < ps.length) : rect (kMat p ps N wr) = true := rect_iff.2 fun i hi => by
  rw [kMat_len] at hi
  rw [kMat_ro N wr hi, kRow_len, kMat_ncol N wr h]
theorem mx_kMat {p : Int} {ps : List (Int × Int)} (N wr : Nat) {i : Nat} (hi : i < ps.length) (c : Nat) : mx (kMat p ps N wr) i c = co (kRow p N wr (co (px ps) i) (co (py ps) i)) c := by rw [mx_ro, kMat_ro N wr hi]

/-- One equation says that the product's value is y times the locator's. -/
theorem key_row {p : Int} (N wr : Nat) (x y : Int) {s : List Int} (hs : s.length = N + wr) :
    sg (N + wr) (fun j => co (kRow p N wr x y) j * co s j) % p = kVl p wr x y % p ↔ pev p (s.take N) x = fmul p y (pev p (s.drop N ++ [1]) x) := by
  have e1 : sg N (fun j => co (kRow p N wr x y) j * co s j) % p = evp x (co (s.take N)) N % p := by
    rw [evp_sg]
    refine sg_mod N fun j hj => ?_
    rw [kRow_lo p N wr x y hj, show co (s.take N) j = co s j from (by unfold co; rw [List.getElem?_take, if_pos hj]), Int.mul_comm (co s j)]
    exact mm (mdd _ _) rfl
  have e2 : sg wr (fun j => co (kRow p N wr x y) (N + j) * co s (N + j)) % p = (-y * evp x (co (s.drop N)) wr) % p := by
    rw [evp_sg, ← sg_mul]
    refine sg_mod wr fun j hj => ?_
    rw [kRow_hi p N wr x y hj, show co (s.drop N) j = co s (N + j) from (by unfold co; rw [List.getElem?_drop])]
    unfold fmul fneg
    rw [show -y * (co s (N + j) * x ^ j) = (-y * x ^ j) * co s (N + j) from (by rw [Int.mul_assoc, Int.mul_comm (co s (N + j))])]
    refine mm ?_ rfl
    rw [mdd]
    exact mm (mdd _ _) (mdd _ _)
  have lq : (s.take N).length = N := by rw [List.length_take]; omega
  have ld : (s.drop N).length = wr := by rw [List.length_drop]; omega
  have e3 : pev p (s.take N) x = evp x (co (s.take N)) N % p := by rw [← pev_evp, lq]
  have e4 : pev p (s.drop N ++ [1]) x = (evp x (co (s.drop N)) wr + x ^ wr) % p := by
    rw [← pev_evp, show (s.drop N ++ ([1] : List Int)).length = wr + 1 from (by rw [List.length_append, ld]; rfl)]
    have h1 : evp x (co (s.drop N ++ [1])) (wr + 1) = evp x (co (s.drop N ++ [1])) wr + co (s.drop N ++ [1]) wr * x ^ wr := rfl
    have h2 : co (s.drop N ++ [1]) wr = 1 := by have := co_snoc (xs := s.drop N) (x := 1); rwa [ld] at this
    have h3 : evp x (co (s.drop N ++ [1])) wr = evp x (co (s.drop N)) wr := by
      rw [evp_sg, evp_sg]
      exact sg_congr wr fun j hj => by rw [co_snoc_lt (by omega)]
    rw [h1, h2, h3, Int.one_mul]
  rw [sg_split, e3, e4]
  generalize evp x (co (s.take N)) N = a at *
  generalize evp x (co (s.drop N)) wr = b at *
  unfold kVl fmul
  rw [ma e1 e2, mdd]
  have e5 : y * (x ^ wr % p) % p = y * x ^ wr % p := mm rfl (mdd _ _)
  have e6 : y * ((b + x ^ wr) % p) % p = (y * b + y * x ^ wr) % p := by rw [← Int.mul_add]; exact mm rfl (mdd _ _)
  rw [e5, e6]
  constructor
  · intro h
    have h1 : (a + -y * b + y * b) % p = (y * x ^ wr + y * b) % p := ma h rfl
    rw [show a + -y * b + y * b = a by rw [Int.neg_mul]; omega, Int.add_comm (y * x ^ wr)] at h1
    exact h1
  · intro h
    have h1 : (a - y * b) % p = (y * b + y * x ^ wr - y * b) % p := ms h rfl
    rw [show a + -y * b = a - y * b by rw [Int.neg_mul]; omega, h1]
    congr 1
    omega
/-- A solution is a locator with a product. -/
theorem key_sol {p : Int} {ps : List (Int × Int)} (N wr : Nat) {s : List Int} (hs : s.length = N + wr) :
    Sol p ps.length (N + wr) (mx (kMat p ps N wr)) (co (kVal p ps wr)) (co s) ↔ Keyed p ps (s.drop N ++ [1]) (s.take N) := by
  constructor
  · intro h i hi
    have h1 := h i hi
    rw [kVal_co wr hi, sg_congr _ (fun j _ => by rw [mx_kMat N wr hi])] at h1
    exact (key_row N wr _ _ hs).1 h1
  · intro h i hi
    rw [kVal_co wr hi, sg_congr _ (fun j _ => by rw [mx_kMat N wr hi])]
    exact (key_row N wr _ _ hs).2 (h i hi)
section
variable {p : Int} {ps : List (Int × Int)} {deg wr : Nat} {s : List Int}
/-- What the equations' solution gives. -/
structure Cand (p : Int) (ps : List (Int × Int)) (deg wr : Nat) (s : List Int) : Prop where
  len : s.length = deg + wr + 1 + wr
  el : El p s
  key : Keyed p ps (s.drop (deg + wr + 1) ++ [1]) (s.take (deg + wr + 1))
theorem cand_of (hg : GoodI p) (h0 : 0 < ps.length) (h : slv p (kMat p ps (deg + wr + 1) wr) (kVal p ps wr) = some s) : Cand p ps deg wr s := by
  have hp : 0 < p := by have := hg.two; omega
  have hr := kMat_rect (p := p) (deg + wr + 1) wr h0
  obtain ⟨h1, h2, h3⟩ := slv_some hg hr (kMat_el hp ps _ wr) (kVal_el hp ps wr) (by rw [kMat_len, kVal_len]) h
  rw [kMat_ncol _ _ h0] at h2
  refine ⟨h2, h3, (key_sol _ _ h2).1 ?_⟩
  have h4 := (app_sol hr (kVal_el hp ps wr) hp (by rw [kMat_len, kVal_len])).1 h1
  rw [kMat_len, kMat_ncol _ _ h0] at h4
  exact h4
theorem Cand.mon (h : Cand p ps deg wr s) (hg : GoodI p) : Mon p (s.drop (deg + wr + 1) ++ [1]) wr where
  el := fun x hx => by
    have := hg.two
    rcases List.mem_append.1 hx with h1 | h1
    · exact h.el x (List.mem_of_mem_drop h1)
    · rw [List.mem_singleton] at h1; omega
  len := by rw [List.length_append, List.length_drop, h.len]; first | omega | (simp; done) | (simp; omega)
  top := by
    have h1 := co_snoc (xs := s.drop (deg + wr + 1)) (x := 1)
    rwa [show (s.drop (deg + wr + 1)).length = wr by rw [List.length_drop, h.len]; omega] at h1
/-- The quotient's degree is within the bound. -/
theorem Cand.quot (h : Cand p ps deg wr s) (hg : GoodI p) {f r : List Int} (hd : DM p (s.take (deg + wr + 1)) (s.drop (deg + wr + 1) ++ [1]) f r) : f.length ≤ deg + 1 := by
  have hm := h.mon hg
  have hp : 0 < p := by have := hg.two; omega
  refine Classical.byContradiction fun hne => ?_
  have htn : tn f = f.length := by have := trim_length f; rw [hd.qt] at this; exact this.symm
  have e := hd.eq ((f.length - 1) + wr)
  have hf : Fin (co f) (f.length - 1 + 1) := by rw [show f.length - 1 + 1 = f.length by omega]; exact co_fin f
  have hb : Fin (co (s.drop (deg + wr + 1) ++ [1])) (wr + 1) := by rw [← hm.len]; exact co_fin _
  have hl := hd.lt
  rw [hm.tn] at hl
  rw [conv_top hb (f.length - 1) hf, hm.top, Int.mul_one, co_fin r _ (by omega), Int.add_zero, co_fin (s.take (deg + wr + 1)) _ (by rw [List.length_take, h.len]; omega), Int.zero_emod, hd.qe.cm hp] at e
  have := tn_top f (by omega)
  rw [htn] at this
  exact this e
/-- It is within the bounds if it has few errors. -/
theorem Cand.yes (h : Cand p ps deg wr s) (hg : GoodI p) {f r : List Int} (hd : DM p (s.take (deg + wr + 1)) (s.drop (deg + wr + 1) ++ [1]) f r) (he : (errs p f ps).length ≤ wr) : Dec p ps deg wr f :=
  ⟨hd.qe, hd.qt, h.quot hg hd, he⟩
/-- Whatever is within the bounds is the quotient. -/
theorem Cand.only (h : Cand p ps deg wr s) (hg : GoodI p) (hn : (px ps).Nodup) (hx : El p (px ps)) (hl : deg + 1 + 2 * wr ≤ ps.length) {f r g : List Int} (hd : DM p (s.take (deg + wr + 1)) (s.drop (deg + wr + 1) ++ [1]) f r) (hG : Dec p ps deg wr g) : g = f := by
  have hp : 0 < p := by have := hg.two; omega
  have hm := h.mon hg
  have hQ : El p (s.take (deg + wr + 1)) := fun x hx => h.el x (List.mem_of_mem_take hx)
  have k := hG.key hg hn hx hl hQ (by rw [hm.len]; omega) (by rw [List.length_take]; omega) h.key
  have d2 : DM p (s.take (deg + wr + 1)) (s.drop (deg + wr + 1) ++ [1]) g [] := by
    refine ⟨hG.tr, rfl, hG.el, El.nil p, by rw [hm.tn]; exact Nat.succ_pos _, fun n => ?_⟩
    rw [co_nil, Int.add_zero, ← co_trim (s.take _), k, co_pmul, mdd]
  exact ((DM.unique hg hm.el hd d2).1).symm
/-- If the equations have no solution, nothing is within the bounds. -/
theorem no_cand (hg : GoodI p) (h0 : 0 < ps.length) (hx : El p (px ps)) (h : slv p (kMat p ps (deg + wr + 1) wr) (kVal p ps wr) = none) (f : List Int) : ¬ Dec p ps deg wr f := fun hd => by
  have hp : 0 < p := by have := hg.two; omega
  obtain ⟨hm, hk⟩ := hd.loc hg hx
  generalize locE p ps wr f = E at hm hk
  have hle := pmul_len p f E
  have h1 := hd.le
  have h2 := hm.len
  -- the product, as long as asked
  have hQl : ((List.range (deg + wr + 1)).map (co (pmul p f E))).length = deg + wr + 1 := by simp
  have hs : (((List.range (deg + wr + 1)).map (co (pmul p f E))) ++ E.take wr).length = deg + wr + 1 + wr := by rw [List.length_append, hQl, List.length_take]; omega
  have hS := (key_sol (p := p) (ps := ps) (deg + wr + 1) wr hs).2 ?_
  · have := (slv_none hg (kMat_rect (p := p) _ _ h0) (kMat_el hp ps _ wr) (kVal_el hp ps wr) h).1 (co (((List.range (deg + wr + 1)).map (co (pmul p f E))) ++ E.take wr))
    rw [kMat_len, kMat_ncol _ _ h0] at this
    exact this hS
  · have e1 : (((List.range (deg + wr + 1)).map (co (pmul p f E))) ++ E.take wr).drop (deg + wr + 1) = E.take wr := by
      rw [List.drop_append_of_le_length (by omega), List.drop_of_length_le (by omega), List.nil_append]
    have e2 : (((List.range (deg + wr + 1)).map (co (pmul p f E))) ++ E.take wr).take (deg + wr + 1) = (List.range (deg + wr + 1)).map (co (pmul p f E)) := by
      rw [List.take_append_of_le_length (by omega), List.take_of_length_le (by omega)]
    have e3 : E.take wr ++ [1] = E := by
      refine list_ext (by rw [List.length_append, List.length_take]; simp; omega) fun i => ?_
      rcases Nat.lt_trichotomy i wr with hi | rfl | hi
      · rw [co_snoc_lt (by rw [List.length_take]; omega)]
        unfold co; rw [List.getElem?_take, if_pos hi]
      · have := co_snoc (xs := E.take i) (x := 1)
        rw [List.length_take, show min i E.length = i by omega] at this
        rw [this, hm.top]
      · rw [co_fin _ _ (by rw [List.length_append, List.length_take]; simp; omega), co_fin E _ (by omega)]
    rw [e1, e2, e3]
    intro i hi
    rw [← hk i hi]
    refine pev_ext p (fun n => ?_) _
    rw [co_map]
    split
    · rfl
    · rw [co_fin (pmul p f E) n (by omega)]
end
end Go.Proofs.Ytelkmbhhaopafaa

/- A slice of numbers (int) that reads as a list, nil let in, with its capacity; slices of numbers that a call makes. No conditions. -/
namespace Go.Proofs.Ytelkmbhhaopafaa
set_option maxRecDepth 100000
open Go.RowKit PolyMath FieldMath MatMath

/-- The slice at A with capacity c holds the numbers xs. -/
structure Si (w : World) (A : Option Addr) (c : Nat) (xs : List Int) : Prop where
  cap : xs.length ≤ c
  nil : A = none → c = 0
  rd : ∀ ad, A = some ad → xs ≠ [] → ∃ b off, ad = ⟨b, off, none⟩ ∧ b < w.heap.size ∧ ∀ j x, xs[j]? = some x → w.cell? ⟨b, off + j, none⟩ = some (.int .i64 x)

section
variable {w w' : World} {A : Option Addr} {c : Nat} {xs : List Int}
theorem Si.nothing (w : World) : Si w none 0 [] := ⟨Nat.le_refl _, (fun _ => rfl), (fun _ h => absurd h (by simp))⟩
theorem Si.at_ {k : Nat} (h : Si w A c xs) (hk : k < xs.length) : ∃ b off x, A = some ⟨b, off, none⟩ ∧ b < w.heap.size ∧ xs[k]? = some x ∧ w.cell? ⟨b, off + k, none⟩ = some (.int .i64 x) := by
  cases hA : A with
  | none => have := h.nil hA; have := h.cap; omega
  | some ad =>
    obtain ⟨b, off, rfl, hb, hc⟩ := h.rd ad hA (fun e => by rw [e] at hk; simp at hk)
    exact ⟨b, off, xs[k], rfl, hb, List.getElem?_eq_getElem hk, hc k _ (List.getElem?_eq_getElem hk)⟩
theorem Si.keep (h : Si w A c xs) (hs : w.heap.size ≤ w'.heap.size) (hk : ∀ p : Addr, p.block < w.heap.size → w'.cell? p = w.cell? p) : Si w' A c xs :=
  ⟨h.cap, h.nil, fun ad hA hn => by
    obtain ⟨b, off, e, hb, hc⟩ := h.rd ad hA hn
    exact ⟨b, off, e, by omega, fun j x hx => (hk ⟨b, off + j, none⟩ hb).trans (hc j x hx)⟩⟩
theorem Si.next (h : Si w A c xs) (hb : Below w.heap.size w w') : Si w' A c xs := h.keep hb.size fun _ hp => hb.cell hp
theorem Si.push (h : Si w A c xs) (o : Obj) : Si (w.alloc o) A c xs := h.next ((Below.refl _ w).alloc (Nat.le_refl _) o)
theorem Si.drew (h : Si w A c xs) : Si w.drew A c xs := h.next (Below.refl _ w).drew
end
theorem Si.of_own {w : World} {base : Nat} {A : Option Addr} {n c : Nat} {xs : List Int} (h : w.ownsRow base 3 1 (.slice A n c) n (xs.map (Value.int .i64))) : Si w A c xs := by
  have hl : xs.length = n := by simpa using h.1
  rcases h.2 with ⟨hv, h0⟩ | ⟨g, cap, cur, hv, _, hh, h1, h2, h3, h4⟩
  · injection hv with hA hn hc
    subst hA hc
    exact ⟨by omega, (fun _ => rfl), (fun _ h => absurd h (by simp))⟩
  · injection hv with hA hn hc
    subst hA hc
    refine ⟨by omega, (fun h => absurd h (by simp)), (fun ad hA _ => ?_)⟩
    injection hA with hA
    subst hA
    refine ⟨g, 0, rfl, (Array.getElem?_eq_some_iff.1 hh).1, fun j x hx => ?_⟩
    have hj := (List.getElem?_eq_some_iff.1 hx).1
    have h5 : (cur.toList.take (n * 1))[j]? = some (.int .i64 x) := by rw [h4, List.getElem?_map, hx]; rfl
    rw [List.getElem?_take, if_pos (by omega), Array.getElem?_toList] at h5
    rw [cell_of_row w g (0 + j) cur 3 (0, 0) hh, Nat.zero_add]
    exact h5
theorem iown_form {w : World} {base n : Nat} {v : Value} {xs : List Int} (h : w.ownsRow base 3 1 v n (xs.map (Value.int .i64))) : ∃ A c, v = .slice A xs.length c ∧ Si w A c xs := by
  have hl : xs.length = n := by simpa using h.1
  rcases h.2 with ⟨rfl, h0⟩ | ⟨g, cap, cur, rfl, _, _, hc, _⟩
  · subst h0; exact ⟨none, 0, by rw [hl], Si.of_own h⟩
  · exact ⟨some ⟨g, 0, none⟩, cap, by rw [hl], Si.of_own h⟩
/-- A call hands back the numbers ys in a slice; what lay before lies as before. -/
def RowI (w : World) (e : Ending) (w' : World) (ys : List Int) : Prop :=
  ∃ A c, e = .returned (.slice A ys.length c) ∧ Si w' A c ys ∧ Below w.heap.size w w'
theorem iown_next {w : World} {base k : Nat} {v : Value} {f : Nat → Int} (h : w.ownsRow base 3 1 v (k + 1) ((((List.range k).map f).map (Value.int .i64)) ++ [.int .i64 (f k)])) : w.ownsRow base 3 1 v (k + 1) (((List.range (k + 1)).map f).map (Value.int .i64)) := by
  rw [List.range_succ, List.map_append, List.map_append]; exact h
end Go.Proofs.Ytelkmbhhaopafaa

/- ErrorPositions of package reedsolomon and of the reference, Places and Points of the reference; nothing that lay is changed. Conditions: a supported prime, a polynomial and points over its field, as many as said. -/
namespace Go.Proofs.Ytelkmbhhaopafaa
set_option maxRecDepth 100000
open Go.RowKit PolyMath FieldMath

/-- The error positions among the first k points. -/
def errK (p : Int) (f : List Int) (ps : List (Int × Int)) (k : Nat) : List Int := ((List.range k).filter fun i => pev p f (co (px ps) i) != co (py ps) i).map fun i : Nat => (i : Int)
def errI (p : Int) (f : List Int) (ps : List (Int × Int)) : List Int := (errs p f ps).map fun i : Nat => (i : Int)
theorem errK_all (p : Int) (f : List Int) (ps : List (Int × Int)) : errK p f ps ps.length = errI p f ps := rfl
theorem errK_zero (p : Int) (f : List Int) (ps : List (Int × Int)) : errK p f ps 0 = [] := rfl
theorem errK_yes {p : Int} {f : List Int} {ps : List (Int × Int)} {k : Nat} {x y : Int} (h : ps[k]? = some (x, y)) (e : pev p f x ≠ y) : errK p f ps (k + 1) = errK p f ps k ++ [(k : Int)] := by
  unfold errK
  rw [List.range_succ, List.filter_append, List.map_append]
  congr 1
  rw [List.filter_cons, if_pos (by rw [px_at h, py_at h]; exact bne_iff_ne.2 e)]
  rfl
theorem errK_no {p : Int} {f : List Int} {ps : List (Int × Int)} {k : Nat} {x y : Int} (h : ps[k]? = some (x, y)) (e : pev p f x = y) : errK p f ps (k + 1) = errK p f ps k := by
  unfold errK
  rw [List.range_succ, List.filter_append, List.map_append, List.filter_cons, if_neg (by rw [px_at h, py_at h, e]; simp)]
  simp
theorem errK_len (p : Int) (f : List Int) (ps : List (Int × Int)) (k : Nat) : (errK p f ps k).length ≤ k := by
  unfold errK
  rw [List.length_map]
  exact Nat.le_trans (List.length_filter_le _ _) (by simp)
theorem errI_len (p : Int) (f : List Int) (ps : List (Int × Int)) : (errI p f ps).length = (errs p f ps).length := by unfold errI; rw [List.length_map]

set_option maxHeartbeats 2000000 in
theorem rErrp_row (p : Int) (hp : OkP p) (A B : Option Addr) (c cb : Nat) (f : List Int) (hf : El p f) (hl : f.length ≤ 400) (ps : List (Int × Int)) (hx : El p (px ps)) (hl2 : ps.length ≤ 1000) (w : World) (sf : Sl w A c f) (sp : Pt w B cb ps) :
    Calls Try.prog 18 #[.int .u64 p, .slice A f.length c, .slice B ps.length cb] w fun e w' => RowI w e w' (errI p f ps) := by
  obtain ⟨i0, hi, hz0, hz1, hz2⟩ := info_parts info_int
  have hbd := hp.bd
  go_enter Try.func18, Try.ntmps18
  go_wp2
  go_loopw [7, 8] (fun v i wr => ∃ k : Nat, k ≤ ps.length ∧ i = .int .i64 k ∧ wr.ownsRow w.heap.size 3 1 v (errK p f ps k).length ((errK p f ps k).map (Value.int .i64)) ∧ Below w.heap.size w wr) (fun _ i _ => ps.length - (intOf i).toNat)
  case atStart => exact ⟨0, Nat.zero_le _, rfl, World.ownsRow_nil _ _ _ _, Below.refl _ _⟩
  case round =>
    obtain ⟨k, hk, rfl, hrow, hB⟩ := hrel
    have hsz := hB.size
    by_cases hlt : k < ps.length
    · obtain ⟨b, off, x, y, hA, hbl, hxy, hcx, hcy⟩ := (sp.next hB).at_ hlt
      subst hA
      have hxb : 0 ≤ x ∧ x < p := by have := hx.co (p := p) (by omega) k; rwa [px_at hxy] at this
      have hkN : (k : Int) < ps.length := by omega
      have hek := errK_len p f ps k
      have hev : ∀ m, Calls Try.prog 25 #[.int .u64 p, .slice A f.length c, .int .u64 x] (wr.drewN m) fun e w' => e = .returned (.int .u64 (pev p f x)) ∧ ∃ m, w' = wr.drewN m := fun m => (rEval_any p x hp hxb A c f hf hl (wr.drewN m) ((sf.next hB).drewN m)).mono fun _ _ ⟨h1, h2⟩ => ⟨h1, m, h2.symm⟩
      have d1 := fun m => (((sp.next hB).next (below_drewN (Below.refl _ wr) m)).rd _ rfl (fun e => by rw [e] at hlt; simp at hlt))
      have cx : ∀ m, (wr.drewN m).cell? ⟨b, off + k * 2, none⟩ = some (.int .u64 x) := fun m => (below_drewN (Below.refl _ wr) m).cell (p := ⟨b, off + k * 2, none⟩) hbl |>.trans hcx
      have cy : ∀ m, (wr.drewN m).cell? ⟨b, off + k * 2 + 1, none⟩ = some (.int .u64 y) := fun m => (below_drewN (Below.refl _ wr) m).cell (p := ⟨b, off + k * 2 + 1, none⟩) hbl |>.trans hcy
      have hBq := fun m => Lib.hid (below_drewN hB m)
      have hRq := fun m => Lib.hid (own_below hrow (below_drewN (Below.refl _ wr) m))
      clear d1 hcx hcy
      by_cases e : pev p f x = y
      · have hN := Lib.hid (errK_no hxy e)
        rw [e] at hev
        clear hxy e hrow hB
        go_wp2
        go_quiet (exact hev _)
        go_wp2
        go_roundw
        case rel => exact ⟨k + 1, by omega, by simp, by rw [hN.out]; exact (hRq _).out, (hBq _).out⟩
        case measure => simp [intOf]; omega
      · have hN := Lib.hid (errK_yes hxy e)
        have e' : (pev p f x != y) = true := bne_iff_ne.2 e
        generalize pev p f x = z at *
        clear hxy e hrow hB
        go_wp2
        go_quiet (exact hev _)
        obtain ⟨W1, hW1⟩ : ∃ W1, W1 = wr.drewN nq := ⟨_, rfl⟩
        have hrow := (hRq nq).out
        have hB := (hBq nq).out
        rw [← hW1] at hrow hB ⊢
        have hsz := hB.size
        clear hW1 cx cy hRq hBq hev
        go_wp2_with (at_builtin; refine wpList_append_own _ rfl _ _ 29 rfl w.heap.size 3 i0 (.int .i64 0) 1 8 Try.underlying29 hi hz0 hz1 hz2 rfl (by decide) _ _ _ rfl (hrow.alloc _) ⟨W1.heap.size, 0, none⟩ 1 1 [.int .i64 (k : Int)] rfl rfl (cell_one_new _ _ _) (by simp [Value.oneCell']) (by simp only [maxLen]; omega) (by omega) (by simp; omega) ?_; intro v' w2 hown' hgrow _)
        have hB2 : Below w.heap.size w w2 := (hB.alloc hsz _).grown hgrow (by simp; omega) (fun k e => (hrow.lt k e).1)
        go_roundw
        case rel => exact ⟨k + 1, by omega, by simp, by rw [hN.out, List.length_append, List.map_append]; exact hown', hB2⟩
        case measure => simp [intOf]; omega
    · obtain rfl : k = ps.length := by omega
      rw [errK_all] at hrow
      obtain ⟨A2, c2, hv, hs2⟩ := iown_form hrow
      subst hv
      go_wp2
      go_ret
      exact ⟨A2, c2, rfl, hs2, hB⟩

set_option maxHeartbeats 2000000 in
theorem errp_row (p : Int) (hp : OkP p) (A B : Option Addr) (c cb : Nat) (f : List Int) (hf : El p f) (hl : f.length ≤ 400) (ps : List (Int × Int)) (hx : El p (px ps)) (hl2 : ps.length ≤ 1000) (w : World) (sf : Sl w A c f) (sp : Pt w B cb ps) :
    Calls Try.prog 17 #[.int .u64 p, .slice A f.length c, .slice B ps.length cb] w fun e w' => RowI w e w' (errI p f ps) := by
  obtain ⟨i0, hi, hz0, hz1, hz2⟩ := info_parts info_int
  have hbd := hp.bd
  go_enter Try.func17, Try.ntmps17
  go_wp2
  go_loopw [7, 12] (fun v i wr => ∃ k : Nat, k ≤ ps.length ∧ i = .int .i64 k ∧ wr.ownsRow w.heap.size 3 1 v (errK p f ps k).length ((errK p f ps k).map (Value.int .i64)) ∧ Below w.heap.size w wr) (fun _ i _ => ps.length - (intOf i).toNat)
  case atStart => exact ⟨0, Nat.zero_le _, rfl, World.ownsRow_nil _ _ _ _, Below.refl _ _⟩
  case round =>
    obtain ⟨k, hk, rfl, hrow, hB⟩ := hrel
    have hsz := hB.size
    by_cases hlt : k < ps.length
    · obtain ⟨b, off, x, y, hA, hbl, hxy, hcx, hcy⟩ := (sp.next hB).at_ hlt
      subst hA
      have hxb : 0 ≤ x ∧ x < p := by have := hx.co (p := p) (by omega) k; rwa [px_at hxy] at this
      have hkN : (k : Int) < ps.length := by omega
      have hek := errK_len p f ps k
      have hne2 : b ≠ wr.heap.size := by omega
      obtain ⟨w1, hw1⟩ : ∃ w1, w1 = wr.alloc (.cells #[.int .u64 x, .int .u64 y] 49) := ⟨_, rfl⟩
      have hb1 : Below wr.heap.size wr w1 := by rw [hw1]; exact bnew (Below.refl _ wr) _ (Nat.le_refl _)
      have hl1 : wr.heap.size < w1.heap.size := by rw [hw1]; simp
      have hc0 : w1.cell? ⟨wr.heap.size, 0, none⟩ = some (.int .u64 x) := by rw [hw1]; go_simp
      have hc1 : w1.cell? ⟨wr.heap.size, 1, none⟩ = some (.int .u64 y) := by rw [hw1]; go_simp
      have hev := eval_any p x hp hxb A c f hf hl w1.drew ((sf.next hB).next hb1).drew
      have hdr : Below w1.heap.size w1 w1.drew := (Below.refl _ w1).drew
      have hrow1 := own_below hrow hb1
      have hB1 := hB.trans (hb1.mono hsz)
      have HW1 := Lib.hid hw1
      by_cases e : pev p f x = y
      · have hN := Lib.hid (errK_no hxy e)
        rw [e] at hev
        clear hxy e hrow hB hw1
        go_wp2
        rw [← HW1.out]
        go_region_held3 (fun w' => w'.cell? ⟨wr.heap.size, 0, none⟩ = some (.int .u64 x) ∧ w'.cell? ⟨wr.heap.size, 1, none⟩ = some (.int .u64 y))
          (refine ⟨?_, ?_⟩ <;> assumption)
          (first
            | (go_at_call 34; (with_reducible refine hev.mono ?_); rintro e w6 ⟨rfl, hb6⟩; have cx6 := (hb6.cell (p := ⟨wr.heap.size, 0, none⟩) hl1).trans hc0; have cy6 := (hb6.cell (p := ⟨wr.heap.size, 1, none⟩) hl1).trans hc1; have hB6 := hdr.trans (hb6.mono hdr.size); clear hb6 hev))
        all_goals
          go_wp2
          go_roundw
          case rel => exact ⟨k + 1, by omega, by simp, by rw [hN.out]; exact own_below hrow1 hB6, hB1.trans (hB6.mono hB1.size)⟩
          case measure => simp [intOf]; omega
      · have hN := Lib.hid (errK_yes hxy e)
        have e' : (pev p f x != y) = true := bne_iff_ne.2 e
        generalize pev p f x = z at *
        clear hxy e hrow hB hw1
        go_wp2
        rw [← HW1.out]
        go_region_held3 (fun w' => w'.cell? ⟨wr.heap.size, 0, none⟩ = some (.int .u64 x) ∧ w'.cell? ⟨wr.heap.size, 1, none⟩ = some (.int .u64 y))
          (refine ⟨?_, ?_⟩ <;> assumption)
          (first
            | (go_at_call 34; (with_reducible refine hev.mono ?_); rintro e w6 ⟨rfl, hb6⟩; have cx6 := (hb6.cell (p := ⟨wr.heap.size, 0, none⟩) hl1).trans hc0; have cy6 := (hb6.cell (p := ⟨wr.heap.size, 1, none⟩) hl1).trans hc1; have hB6 := hdr.trans (hb6.mono hdr.size); clear hb6 hev))
        all_goals
          have hrow := own_below hrow1 hB6
          have hB := hB1.trans (hB6.mono hB1.size)
          have hsz := hB.size
          clear hrow1 hB1 hB6
          go_wp2_with (at_builtin; refine wpList_append_own _ rfl _ _ 29 rfl w.heap.size 3 i0 (.int .i64 0) 1 8 Try.underlying29 hi hz0 hz1 hz2 rfl (by decide) _ _ _ rfl (hrow.alloc _) ⟨w6.heap.size, 0, none⟩ 1 1 [.int .i64 (k : Int)] rfl rfl (cell_one_new _ _ _) (by simp [Value.oneCell']) (by simp only [maxLen]; omega) (by omega) (by simp; omega) ?_; intro v' w2 hown' hgrow _)
          have hB2 : Below w.heap.size w w2 := (hB.alloc hsz _).grown hgrow (by simp; omega) (fun k e => (hrow.lt k e).1)
          go_roundw
          case rel => exact ⟨k + 1, by omega, by simp, by rw [hN.out, List.length_append, List.map_append]; exact hown', hB2⟩
          case measure => simp [intOf]; omega
    · obtain rfl : k = ps.length := by omega
      rw [errK_all] at hrow
      obtain ⟨A2, c2, hv, hs2⟩ := iown_form hrow
      subst hv
      go_wp2
      go_ret
      exact ⟨A2, c2, rfl, hs2, hB⟩
end Go.Proofs.Ytelkmbhhaopafaa

/- Places, Points and May of the reference, enough and abscissas of package reedsolomon; nothing that lay is changed. Conditions: as many points as said. -/
namespace Go.Proofs.Ytelkmbhhaopafaa
set_option maxRecDepth 100000
open Go.RowKit PolyMath FieldMath

theorem places_is (A A' : Option Addr) (xs : List Int) (c c' : Nat) (w : World) (h : Si w A c xs) (h' : Si w A' c' xs) (hl : xs.length ≤ 1000) :
    Calls Try.prog 15 #[.slice A xs.length c, .slice A' xs.length c'] w fun e w' => e = .returned (.bool true) ∧ Below w.heap.size w w' := by
  have hq := fun m => below_drewN (Below.refl w.heap.size w) m
  go_enter Try.func15, Try.ntmps15
  go_wp2
  go_loopw [5] (fun i wr => ∃ k m : Nat, k ≤ xs.length ∧ i = .int .i64 k ∧ wr = w.drewN m) (fun i _ => xs.length - (intOf i).toNat)
  case atStart => exact ⟨0, 0, Nat.zero_le _, rfl, rfl⟩
  case round =>
    obtain ⟨k, m, hk, rfl, rfl⟩ := hrel
    by_cases hlt : k < xs.length
    · obtain ⟨b, off, x, hA, _, hx, hc⟩ := h.at_ hlt
      obtain ⟨b', off', y, hA', _, hy, hc'⟩ := h'.at_ hlt
      subst hA hA'
      obtain rfl : x = y := by rw [hx] at hy; injection hy
      have hi1 : (k : Int) < xs.length := by omega
      clear hx hy
      go_wp2
      go_quiet (fail)
      go_wp2
      go_roundw
      case rel => exact ⟨k + 1, _, by omega, by simp, by first | rfl | (simp; rfl)⟩
      case measure => simp [intOf]; omega
    · obtain rfl : k = xs.length := by omega
      go_wp2
      go_ret
      exact ⟨rfl, hq m⟩

/-- The parameters' bounds. -/
def Enough (N : Nat) (deg wr : Int) : Prop := 0 ≤ deg ∧ 0 ≤ wr ∧ deg + 1 + 2 * wr ≤ N
instance (N : Nat) (deg wr : Int) : Decidable (Enough N deg wr) := by unfold Enough; infer_instance

set_option maxHeartbeats 1000000 in
theorem enough_any (N : Nat) (hN : N ≤ 1000) (deg wr : Int) (w : World) :
    Calls Try.prog 29 #[.int .i64 N, .int .i64 deg, .int .i64 wr] w fun e w' => e = .returned (.bool (decide (Enough N deg wr))) ∧ w' = w := by
  by_cases h1 : 0 ≤ deg
  · by_cases h2 : 0 ≤ wr
    · by_cases h3 : deg < N
      · have hE : Hid (decide (wr ≤ ((N : Int) - deg - 1).tdiv 2) = decide (Enough N deg wr)) := Lib.hid (by
          rw [decide_eq_decide]
          rw [Int.tdiv_eq_ediv_of_nonneg (by omega)]
          unfold Enough
          omega)
        have wr1 : IntKind.i64.wrap ((N : Int) - deg) = (N : Int) - deg := IntWalk.i64_in _ (by omega)
        have wr2 : IntKind.i64.wrap ((N : Int) - deg - 1) = (N : Int) - deg - 1 := IntWalk.i64_in _ (by omega)
        have hq0 : 0 ≤ ((N : Int) - deg - 1).tdiv 2 ∧ ((N : Int) - deg - 1).tdiv 2 ≤ 1000 := by rw [Int.tdiv_eq_ediv_of_nonneg (by omega)]; omega
        have wr3 : IntKind.i64.wrap (((N : Int) - deg - 1).tdiv 2) = ((N : Int) - deg - 1).tdiv 2 := IntWalk.i64_in _ (by omega)
        rw [← hE.out]
        go_enter Try.func29, Try.ntmps29
        go_wp2
        go_ret
        exact ⟨rfl, rfl⟩
      · have hE : Hid (decide (Enough N deg wr) = false) := Lib.hid (decide_eq_false (by unfold Enough; omega))
        rw [hE.out]
        go_enter Try.func29, Try.ntmps29
        go_wp2
        go_ret
        exact ⟨rfl, rfl⟩
    · have hE : Hid (decide (Enough N deg wr) = false) := Lib.hid (decide_eq_false (by unfold Enough; omega))
      rw [hE.out]
      go_enter Try.func29, Try.ntmps29
      go_wp2
      go_ret
      exact ⟨rfl, rfl⟩
  · have hE : Hid (decide (Enough N deg wr) = false) := Lib.hid (decide_eq_false (by unfold Enough; omega))
    rw [hE.out]
    go_enter Try.func29, Try.ntmps29
    go_wp2
    go_ret
    exact ⟨rfl, rfl⟩

/-- The parameters are valid. -/
def Valid (ps : List (Int × Int)) (deg wr : Int) : Prop := Enough ps.length deg wr ∧ (px ps).Nodup
instance (ps : List (Int × Int)) (deg wr : Int) : Decidable (Valid ps deg wr) := by unfold Valid; infer_instance

set_option maxHeartbeats 2000000 in
theorem may_any (A : Option Addr) (c : Nat) (ps : List (Int × Int)) (hl : ps.length ≤ 1000) (deg wr : Int) (w : World) (h : Pt w A c ps) :
    Calls Try.prog 22 #[.slice A ps.length c, .int .i64 deg, .int .i64 wr] w fun e w' => e = .returned (.bool (decide (Valid ps deg wr))) ∧ ∃ m, w' = w.drewN m := by
  by_cases hE : Enough ps.length deg wr
  · obtain ⟨h1, h2, h3⟩ := hE
    have hV : Hid (decide (Valid ps deg wr) = decide (px ps).Nodup) := Lib.hid (by
      rw [decide_eq_decide]
      exact ⟨fun h => h.2, fun h => ⟨⟨h1, h2, h3⟩, h⟩⟩)
    have wr1 : IntKind.i64.wrap (deg + 1) = deg + 1 := IntWalk.i64_in _ (by omega)
    have wr2 : IntKind.i64.wrap (2 * wr) = 2 * wr := IntWalk.i64_in _ (by omega)
    have wr3 : IntKind.i64.wrap (deg + 1 + 2 * wr) = deg + 1 + 2 * wr := IntWalk.i64_in _ (by omega)
    have hd1 : deg < ps.length := by omega
    have hd2 : wr < ps.length := by omega
    rw [hV.out]
    go_enter Try.func22, Try.ntmps22
    go_wp2
    go_loopw [8] (fun i wr => ∃ k m : Nat, k ≤ ps.length ∧ i = .int .i64 k ∧ wr = w.drewN m ∧ Hid ((px ps).take k).Nodup) (fun i _ => ps.length - (intOf i).toNat)
    case atStart => exact ⟨0, 0, Nat.zero_le _, rfl, rfl, Lib.hid (by simp)⟩
    case round =>
      obtain ⟨k, m, hk, rfl, rfl, hE⟩ := hrel
      by_cases hlt : k < ps.length
      · obtain ⟨b, off, x, y, hA, hbl, hxy, hcx, hcy⟩ := h.at_ hlt
        have hX := Lib.hid (px_get hxy)
        have hi1 : (k : Int) < ps.length := by omega
        clear hxy hcy
        go_wp2
        go_loopw [9] (fun i wr => ∃ j n : Nat, j ≤ k ∧ i = .int .i64 j ∧ wr = w.drewN n ∧ Hid (x ∉ (px ps).take j)) (fun i _ => k - (intOf i).toNat)
        case atStart => exact ⟨0, m, Nat.zero_le _, rfl, rfl, Lib.hid (by simp)⟩
        case round =>
          obtain ⟨j, n, hj, rfl, rfl, hF⟩ := hrel
          by_cases hlt2 : j < k
          · obtain ⟨b', off', x2, y2, hA', _, hxy2, hc', _⟩ := h.at_ (show j < ps.length by omega)
            rw [hA] at hA'
            injection hA' with hA'
            injection hA' with hA1 hA2
            subst hA1 hA2 hA
            have hY := Lib.hid (px_get hxy2)
            have hi2 : (j : Int) < k := by omega
            have hi3 : (j : Int) < ps.length := by omega
            clear hxy2
            by_cases hxy : x = x2
            · subst hxy
              have hN := Lib.hid (show ¬ (px ps).Nodup from fun hn => by
                obtain ⟨h1, e1⟩ := List.getElem?_eq_some_iff.1 hX.out
                obtain ⟨h2, e2⟩ := List.getElem?_eq_some_iff.1 hY.out
                have := nodup_inj hn h1 h2 (e1.trans e2.symm)
                omega)
              go_wp2
              go_quiet (fail)
              go_wp2
              go_ret
              exact ⟨by rw [decide_eq_false hN.out]; rfl, _, by first | rfl | (simp; rfl)⟩
            · have hN := Lib.hid (show x ∉ (px ps).take (j + 1) from fun hm => by
                rw [List.take_add_one, hY.out] at hm
                rcases List.mem_append.1 hm with h1 | h1
                · exact hF.out h1
                · exact hxy (by simpa using h1))
              go_wp2
              go_quiet (fail)
              go_wp2
              go_roundw
              case rel => exact ⟨j + 1, _, by omega, by simp, by first | rfl | (simp; rfl), hN⟩
              case measure => simp [intOf]; omega
          · obtain rfl : j = k := by omega
            have hN := Lib.hid ((nodup_take hX.out).2 ⟨hE.out, hF.out⟩)
            go_wp2
            go_roundw
            case rel => exact ⟨j + 1, n, by omega, by simp, rfl, hN⟩
            case measure => simp [intOf]; omega
      · obtain rfl : k = ps.length := by omega
        have hN := Lib.hid (show (px ps).Nodup by have := hE.out; rwa [← px_len, List.take_length] at this)
        go_wp2
        go_ret
        exact ⟨by rw [decide_eq_true hN.out]; rfl, m, rfl⟩
  · have hV : Hid (decide (Valid ps deg wr) = false) := Lib.hid (decide_eq_false fun h => hE h.1)
    rw [hV.out]
    unfold Enough at hE
    by_cases h1 : deg < 0
    · clear hE
      go_enter Try.func22, Try.ntmps22
      go_wp2
      go_ret
      exact ⟨rfl, 0, rfl⟩
    · by_cases h2 : wr < 0
      · clear hE
        go_enter Try.func22, Try.ntmps22
        go_wp2
        go_ret
        exact ⟨rfl, 0, rfl⟩
      · by_cases h3 : (ps.length : Int) ≤ deg
        · clear hE
          go_enter Try.func22, Try.ntmps22
          go_wp2
          go_ret
          exact ⟨rfl, 0, rfl⟩
        · by_cases h4 : (ps.length : Int) ≤ wr
          · clear hE
            go_enter Try.func22, Try.ntmps22
            go_wp2
            go_ret
            exact ⟨rfl, 0, rfl⟩
          · have wr1 : IntKind.i64.wrap (deg + 1) = deg + 1 := IntWalk.i64_in _ (by omega)
            have wr2 : IntKind.i64.wrap (2 * wr) = 2 * wr := IntWalk.i64_in _ (by omega)
            have wr3 : IntKind.i64.wrap (deg + 1 + 2 * wr) = deg + 1 + 2 * wr := IntWalk.i64_in _ (by omega)
            have h5 : (ps.length : Int) < deg + 1 + 2 * wr := by omega
            clear hE
            go_enter Try.func22, Try.ntmps22
            go_wp2
            go_ret
            exact ⟨rfl, 0, rfl⟩
end Go.Proofs.Ytelkmbhhaopafaa

/- abscissas, scaled and keyEquations of package reedsolomon, Vandermonde of package interpolate in memory of its own: the system of equations; nothing that lay is changed. Conditions: a supported prime, points over its field, as many as said. -/
namespace Go.Proofs.Ytelkmbhhaopafaa
set_option maxRecDepth 100000
open Go.RowKit PolyMath FieldMath MatMath

theorem own_base {w : World} {base base' t size n : Nat} {v : Value} {xs : List Value} (h : w.ownsRow base t size v n xs) (hb : base' ≤ base) : w.ownsRow base' t size v n xs := by
  refine ⟨h.1, h.2.imp id ?_⟩
  rintro ⟨g, cap, cur, hv, h1, r⟩
  exact ⟨g, cap, cur, hv, Nat.le_trans hb h1, r⟩

set_option maxHeartbeats 1000000 in
theorem absc8_row (A : Option Addr) (c : Nat) (ps : List (Int × Int)) (hl : ps.length ≤ 100) (w : World) (h : Pt w A c ps) :
    Calls Try.prog 31 #[.slice A ps.length c] w fun e w' => Row w e w' (px ps) := by
  obtain ⟨i0, hi, hz0, hz1, hz2⟩ := info_parts info_u64
  have hb8 : i0.bytes * ps.length ≤ 281474976710656 := by rw [hz2]; omega
  have hB8 := Lib.hid hb8
  have hD := Lib.hid (show fillL (co (px ps)) ps.length ps.length = px ps from by rw [fillL_done, ← px_len]; exact range_co _)
  clear hb8
  go_enter Try.func31, Try.ntmps31
  go_wp2_with (at_make; refine wpList_make_full _ rfl _ _ 28 rfl w.heap.size 22 i0 (.int .u64 0) 1 Try.underlying28 hi hz0 hz1 .i64 .i64 _ _ ps.length rfl rfl (by omega) (by omega) hB8.out (by simp only [maxLen]; omega) (Nat.le_refl _) ?_; intro w1 hown1 hgrow1)
  have hb1 : Below w.heap.size w w1 := (Below.refl _ w).grown hgrow1 (Nat.le_refl _) (fun k e => by cases e)
  simp only [Value.cells, toList_madeCells_one, Nat.mul_one] at hown1
  have hown2 : OwnAt w1 w.heap.size w.heap.size ps.length ps.length (fillL (co (px ps)) ps.length 0) := by
    unfold OwnAt; rw [fillL_start]; simpa using hown1
  clear hown1 hgrow1
  go_loopw [11] (fun i wr => ∃ k : Nat, k ≤ ps.length ∧ i = .int .i64 k ∧ OwnAt wr w.heap.size w.heap.size ps.length ps.length (fillL (co (px ps)) ps.length k) ∧ Below w.heap.size w wr) (fun i _ => ps.length - (intOf i).toNat)
  case atStart => exact ⟨0, Nat.zero_le _, rfl, hown2, hb1⟩
  case round =>
    obtain ⟨k, hk, rfl, hO, hB⟩ := hrel
    by_cases hlt : k < ps.length
    · obtain ⟨b, off, x, y, hA, hbl, hx, hcx, hcy⟩ := (h.next hB).at_ (by omega)
      subst hA
      have hset := fillL_set (co (px ps)) ps.length k
      rw [px_at hx] at hset
      have hS := Lib.hid hset
      have hcell := hO.cell (fillL_get (co (px ps)) ps.length k k hlt)
      have hfz := hO.frozen k
      have hlt2 := hO.lt
      have hne : w.heap.size ≠ wr.heap.size := by omega
      have hne2 : b ≠ wr.heap.size := by omega
      have hput := Lib.hid ((hO.put k x).push (.cells #[.int .u64 x, .int .u64 y] 49))
      have hbel := Lib.hid (bnew (hB.setCell (p := ⟨w.heap.size, k, none⟩) (Nat.le_refl _) (.int .u64 x)) (.cells #[.int .u64 x, .int .u64 y] 49) (Nat.le_refl _))
      have hkN : (k : Int) < ps.length := by omega
      clear hset hx
      go_wp2
      go_roundw
      case rel => exact ⟨k + 1, by omega, by simp, by rw [← hS.out]; exact hput.out, hbel.out⟩
      case measure => simp [intOf]; omega
    · obtain rfl : k = ps.length := by omega
      rw [hD.out] at hO
      have hs3 := Lib.hid hO.sl
      have hlen := Lib.hid (px_len ps)
      go_wp2
      go_ret
      exact ⟨_, _, by rw [hlen.out]; rfl, hs3.out, hB⟩

/-- scaled: each word times the factor, in memory of the call's own. -/
def scl8 (p u : Int) (ws : List Int) : List Int := ws.map (fmul p u)
theorem scl8_len (p u : Int) (ws : List Int) : (scl8 p u ws).length = ws.length := by unfold scl8; simp
set_option maxHeartbeats 1000000 in
theorem scaled_own (p u : Int) (hp : OkP p) (hu : 0 ≤ u ∧ u < p) (A : Option Addr) (c : Nat) (ws : List Int) (hw : El p ws) (hl : ws.length ≤ 100) (w : World) (h : Sl w A c ws) :
    Calls Try.prog 54 #[.int .u64 p, .int .u64 u, .slice A ws.length c] w fun e w' => e = .returned (.slice (some ⟨w.heap.size, 0, none⟩) ws.length ws.length) ∧ OwnAt w' w.heap.size w.heap.size ws.length ws.length (scl8 p u ws) ∧ Below w.heap.size w w' := by
  obtain ⟨i0, hi, hz0, hz1, hz2⟩ := info_parts info_u64
  have hbd := hp.bd
  have hb8 : i0.bytes * ws.length ≤ 281474976710656 := by rw [hz2]; omega
  have hB8 := Lib.hid hb8
  have hD := Lib.hid (show fillL (fun n => fmul p u (co ws n)) ws.length ws.length = scl8 p u ws from by
    rw [fillL_done]
    unfold scl8
    refine list_ext (by simp) fun i => ?_
    rw [co_map]
    by_cases hi : i < ws.length
    · rw [if_pos hi]
      exact (co_at (by rw [List.getElem?_map, List.getElem?_eq_getElem hi, ← co_get hi]; rfl)).symm
    · rw [if_neg hi, co_fin _ _ (by simp; omega)])
  clear hb8
  go_enter Try.func54, Try.ntmps54
  go_wp2_with (at_make; refine wpList_make_full _ rfl _ _ 28 rfl w.heap.size 22 i0 (.int .u64 0) 1 Try.underlying28 hi hz0 hz1 .i64 .i64 _ _ ws.length rfl rfl (by omega) (by omega) hB8.out (by simp only [maxLen]; omega) (Nat.le_refl _) ?_; intro w1 hown1 hgrow1)
  have hb1 : Below w.heap.size w w1 := (Below.refl _ w).grown hgrow1 (Nat.le_refl _) (fun k e => by cases e)
  simp only [Value.cells, toList_madeCells_one, Nat.mul_one] at hown1
  have hown2 : OwnAt w1 w.heap.size w.heap.size ws.length ws.length (fillL (fun n => fmul p u (co ws n)) ws.length 0) := by
    unfold OwnAt; rw [fillL_start]; simpa using hown1
  clear hown1 hgrow1
  go_loopw [15] (fun i wr => ∃ k : Nat, k ≤ ws.length ∧ i = .int .i64 k ∧ OwnAt wr w.heap.size w.heap.size ws.length ws.length (fillL (fun n => fmul p u (co ws n)) ws.length k) ∧ Below w.heap.size w wr) (fun i _ => ws.length - (intOf i).toNat)
  case atStart => exact ⟨0, Nat.zero_le _, rfl, hown2, hb1⟩
  case round =>
    obtain ⟨k, hk, rfl, hO, hB⟩ := hrel
    by_cases hlt : k < ws.length
    · obtain ⟨b, off, x, hA, hbl, hx, hcx⟩ := (h.next hB).at_ hlt
      subst hA
      have hset := fillL_set (fun n => fmul p u (co ws n)) ws.length k
      simp only [co_at hx] at hset
      have hxb := hw x (List.mem_of_getElem? hx)
      have hS := Lib.hid hset
      have hcell := hO.cell (fillL_get (fun n => fmul p u (co ws n)) ws.length k k hlt)
      have hfz := hO.frozen k
      have hput := Lib.hid (hO.put k (fmul p u x))
      have hbel := Lib.hid (hB.setCell (p := ⟨w.heap.size, k, none⟩) (Nat.le_refl _) (.int .u64 (fmul p u x)))
      have hkN : (k : Int) < ws.length := by omega
      clear hset hx
      go_wp2_with (go_at_call 49; refine (mul_any _ _ _ hp hu.1 hu.2 hxb.1 hxb.2 _).mono ?_; rintro e w' ⟨rfl, rfl⟩)
      go_roundw
      case rel => exact ⟨k + 1, by omega, by simp, by rw [← hS.out]; exact hput.out, hbel.out⟩
      case measure => simp [intOf]; omega
    · obtain rfl : k = ws.length := by omega
      rw [hD.out] at hO
      have hs3 := Lib.hid hO
      go_wp2
      go_ret
      exact ⟨rfl, hs3.out, hB⟩

set_option maxHeartbeats 1000000 in
theorem pows_own8 (p x : Int) (hp : OkP p) (hx : 0 ≤ x ∧ x < p) (N : Nat) (hN : N ≤ 100) (w : World) :
    Calls Try.prog 79 #[.int .u64 p, .int .u64 x, .int .i64 N] w fun e w' => e = .returned (.slice (some ⟨w.heap.size, 0, none⟩) N N) ∧ OwnAt w' w.heap.size w.heap.size N N (pows p x N) ∧ Below w.heap.size w w' := by
  obtain ⟨i0, hi, hz0, hz1, hz2⟩ := info_parts info_u64
  have hbd := hp.bd
  have hb8 : i0.bytes * N ≤ 281474976710656 := by rw [hz2]; omega
  have hB8 := Lib.hid hb8
  have hD := Lib.hid (show fillL (fun n => x ^ n % p) N N = pows p x N from fillL_done _ _)
  clear hb8
  go_enter Try.func79, Try.ntmps79
  go_wp2_with (at_make; refine wpList_make_full _ rfl _ _ 28 rfl w.heap.size 22 i0 (.int .u64 0) 1 Try.underlying28 hi hz0 hz1 .i64 .i64 _ _ N rfl rfl (by omega) (by omega) hB8.out (by simp only [maxLen]; omega) (Nat.le_refl _) ?_; intro w1 hown1 hgrow1)
  have hb1 : Below w.heap.size w w1 := (Below.refl _ w).grown hgrow1 (Nat.le_refl _) (fun k e => by cases e)
  simp only [Value.cells, toList_madeCells_one, Nat.mul_one] at hown1
  have hown2 : OwnAt w1 w.heap.size w.heap.size N N (fillL (fun n => x ^ n % p) N 0) := by
    unfold OwnAt; rw [fillL_start]; simpa using hown1
  clear hown1 hgrow1
  go_loopw [8, 14] (fun q i wr => ∃ (k : Nat) (P : Int), k ≤ N ∧ i = .int .i64 k ∧ q = .int .u64 P ∧ 0 ≤ P ∧ P < p ∧ Hid (x ^ k % p = P) ∧ OwnAt wr w.heap.size w.heap.size N N (fillL (fun n => x ^ n % p) N k) ∧ Below w.heap.size w wr) (fun _ i _ => N - (intOf i).toNat)
  case atStart => exact ⟨0, 1, Nat.zero_le _, rfl, rfl, by omega, by omega, Lib.hid (show x ^ 0 % p = 1 from by rw [Int.pow_zero]; exact small (by omega) (by omega)), hown2, hb1⟩
  case round =>
    obtain ⟨k, P, hk, rfl, rfl, hP0, hP, hQ, hO, hB⟩ := hrel
    by_cases hlt : k < N
    · have hset := fillL_set (fun n => x ^ n % p) N k
      simp only [hQ.out] at hset
      have hn2 := pow_next p x k
      rw [hQ.out] at hn2
      have hS := Lib.hid hset
      have hN2 := Lib.hid hn2.symm
      have hm2 := fmul_bd p P x (by omega)
      have hcell := hO.cell (fillL_get (fun n => x ^ n % p) N k k hlt)
      have hfz := hO.frozen k
      have hput := Lib.hid (hO.put k P)
      have hbel := Lib.hid (hB.setCell (p := ⟨w.heap.size, k, none⟩) (Nat.le_refl _) (.int .u64 P))
      have hkN : (k : Int) < N := by omega
      clear hset hn2
      go_wp2_with (go_at_call 49; refine (mul_any _ _ _ hp (by omega) (by omega) (by omega) (by omega) _).mono ?_; rintro e w' ⟨rfl, rfl⟩)
      go_roundw
      case rel => exact ⟨k + 1, _, by omega, by simp, rfl, hm2.1, hm2.2, hN2, by rw [← hS.out]; exact hput.out, hbel.out⟩
      case measure => simp [intOf]; omega
    · obtain rfl : k = N := by omega
      rw [hD.out] at hO
      have hs3 := Lib.hid hO
      go_wp2
      go_ret
      exact ⟨rfl, hs3.out, hB⟩

/-- The rows made so far. -/
def vmK (p : Int) (xs : List Int) (N k : Nat) : List (List Int) := (List.range xs.length).map fun i => if i < k then pows p (co xs i) N else []
theorem vmK_len (p : Int) (xs : List Int) (N k : Nat) : (vmK p xs N k).length = xs.length := by unfold vmK; simp
theorem vmK_ro (p : Int) (xs : List Int) (N k : Nat) {i : Nat} (h : i < xs.length) : ro (vmK p xs N k) i = if i < k then pows p (co xs i) N else [] := ro_at (by
  unfold vmK; rw [List.getElem?_map, List.getElem?_range h]; rfl)
theorem vmK_next (p : Int) (xs : List Int) (N : Nat) {k : Nat} (h : k < xs.length) : (vmK p xs N k).set k (pows p (co xs k) N) = vmK p xs N (k + 1) :=
  rows_ext (by rw [List.length_set, vmK_len, vmK_len]) fun i hi => by
    rw [List.length_set, vmK_len] at hi
    rw [ro_set (by rw [vmK_len]; exact h), vmK_ro p xs N k hi, vmK_ro p xs N (k + 1) hi]
    by_cases e : i = k
    · subst e; rw [if_pos rfl, if_pos (by omega)]
    · rw [if_neg e]
      by_cases e2 : i < k
      · rw [if_pos e2, if_pos (by omega)]
      · rw [if_neg e2, if_neg (by omega)]

set_option maxHeartbeats 2000000 in
theorem vand_own (p cols : Int) (hp : OkP p) (N : Nat) (hN : N ≤ 100) (hc : cols = (N : Int)) (A : Option Addr) (c : Nat) (xs : List Int) (hxs : El p xs) (hl : xs.length ≤ 100) (w : World) (h : Sl w A c xs) :
    Calls Try.prog 53 #[.int .u64 p, .slice A xs.length c, .int .i64 cols] w fun e w' => ∃ (vs : List Value), e = .returned (.slice (some ⟨w.heap.size, 0, none⟩) xs.length xs.length) ∧ MP w.heap.size w' (.slice (some ⟨w.heap.size, 0, none⟩) xs.length xs.length) xs.length xs.length vs (vmK p xs N xs.length) ∧ Below w.heap.size w w' := by
  obtain ⟨i0, hi, hz0, hz1, hz2⟩ := info_parts info_sl
  have hbd := hp.bd
  have hb8 : i0.bytes * xs.length ≤ 281474976710656 := by rw [hz2]; omega
  have hB8 := Lib.hid hb8
  have hpw := fun (x : Int) (hx : 0 ≤ x ∧ x < p) W => pows_own8 p x hp hx N hN W
  subst hc
  clear hb8
  have hN0 : (0 : Int) ≤ N := by omega
  generalize hNI : (N : Int) = n at *
  have hNI' := Lib.hid hNI
  clear hNI
  go_enter Try.func53, Try.ntmps53
  go_wp2_with (at_make; refine wpList_make_full _ rfl _ _ 73 rfl w.heap.size 28 i0 (.slice none 0 0) 1 Try.underlying73 hi hz0 hz1 .i64 .i64 _ _ xs.length rfl rfl (by omega) (by omega) hB8.out (by simp only [maxLen]; omega) (Nat.le_refl _) ?_; intro w1 hown1 hgrow1)
  have hb1 : Below w.heap.size w w1 := (Below.refl _ w).grown hgrow1 (Nat.le_refl _) (fun k e => by cases e)
  have hown2 : MP w.heap.size w1 (.slice (some ⟨w.heap.size, 0, none⟩) xs.length xs.length) xs.length 0 _ (vmK p xs N 0) := ⟨hown1, vmK_len _ _ _ _, Nat.zero_le _, fun i hi => absurd hi (Nat.not_lt_zero _), fun i j u x e hi => absurd hi (Nat.not_lt_zero _)⟩
  clear hown1 hgrow1
  go_loopw [15] (fun i wr => ∃ (k : Nat) (vs : List Value), k ≤ xs.length ∧ i = .int .i64 k ∧ MP w.heap.size wr (.slice (some ⟨w.heap.size, 0, none⟩) xs.length xs.length) xs.length k vs (vmK p xs N k) ∧ Below w.heap.size w wr) (fun i _ => xs.length - (intOf i).toNat)
  case atStart => exact ⟨0, _, Nat.zero_le _, rfl, hown2, hb1⟩
  case round =>
    obtain ⟨k, vs, hk, rfl, hR, hB⟩ := hrel
    by_cases hlt : k < xs.length
    · obtain ⟨b, off, x, hA, _, hx, hcx⟩ := (h.next hB).at_ hlt
      subst hA
      have hxb := hxs x (List.mem_of_getElem? hx)
      have hX := Lib.hid (co_at hx)
      have hpx := hpw x hxb wr
      have hkN : (k : Int) < xs.length := by omega
      have hvl := hR.vlen
      obtain ⟨u, hu⟩ : ∃ u, vs[k]? = some u := ⟨_, List.getElem?_eq_getElem (by omega)⟩
      have hU := Lib.hid hu
      have hV := Lib.hid hvl
      have hsz := (World.ownsRow.lt hR.head w.heap.size rfl).2
      clear hx hu hvl
      go_wp2_with (go_at_call 79; refine hpx.mono ?_; clear hpx; rintro e w2 ⟨rfl, hs2, hb2⟩; have hR2 := hR.next hb2; have hcell := hR2.cell hlt hU.out; have hfz := World.ownsRow.frozenAt hR2.head k)
      have hs3 : w2.ownsRow w.heap.size 22 1 (.slice (some ⟨wr.heap.size, 0, none⟩) N N) (pows p x N).length ((pows p x N).map (Value.int .u64)) := by
        rw [pows_len]
        exact own_base hs2 (Nat.le_of_lt hsz)
      have hR3 := Lib.hid (hR.lay (w' := w2) (i := k) (k' := k + 1) (u := .slice (some ⟨wr.heap.size, 0, none⟩) N N) (r := pows p x N) (row := none) (Nat.le_refl _) hlt (by omega) (grown_of hb2 none) (fun b e => by cases e) hs3 (fun b e => .inl (Nat.le_of_eq (by simpa [Value.ownBlock] using e))))
      have hB3 := Lib.hid ((hB.trans (hb2.mono hB.size)).setCell (p := ⟨w.heap.size, k, none⟩) (Nat.le_refl _) (.slice (some ⟨wr.heap.size, 0, none⟩) N N))
      clear hR2
      go_roundw
      case rel => exact ⟨k + 1, _, by omega, by simp, by rw [← vmK_next p xs N hlt, hX.out]; exact hR3.out, hB3.out⟩
      case measure => simp [intOf]; omega
    · obtain rfl : k = xs.length := by omega
      have HR := Lib.hid hR
      clear hR
      go_wp2
      go_ret
      exact ⟨vs, rfl, HR.out, hB⟩

section
variable {P : Program} (w : World)
/-- A step of a region that draws its order: append of nothing. -/
theorem step_append_none {ops : Array Oper} {o : Oper} {a : Act} {K : Act → World → Prop} {Q : Exit → Act → World → Prop} {E : Prop} (hgd : o.guard = none) (s x : Operand) (t : TypeId)
    (ho : o.op = .call { callee := .builtin .append, args := #[s, x], argTypes := #[t, t] }) (e : TypeId) (i : TypeInfo) (ht : P.underlying t = some (.slice e)) (hi : P.info? e = some i)
    (b : Option Addr) (n cap : Nat) (hn : n ≤ cap) (ad : Addr) (m c : Nat) (hm : m = 0) (hs : a.eval s = .slice b n cap) (hx : a.eval x = .slice (some ad) m c) (h : K (a.put o.dst (.slice b n cap)) w) :
    if Region.wanted o (yielded ops a.tmps) = true then Oper.wp P o a w K Q else E := by
  subst hm
  have hw : Region.wanted o (yielded ops a.tmps) = true := by simp [Region.wanted, hgd]
  rw [if_pos hw]
  have hr := run_append_nothing (P := P) w t t o.type e i ht hi b n cap hn (.slice (some ad) 0 c) (Src.ofSlice w ht ad 0 c [] (by simp) (fun j u h => by simp at h) (fun u h => by cases h))
  unfold Oper.wp execOp
  simp only [ho, resolve, invoke, builtin, Sem.run_bind, Sem.run_pure, Result.andThen_ok, List.map_toArray, List.map_cons, List.map_nil, hs, hx, hr]
  exact h
end

/-- The equations' rows made so far; the right sides. -/
def kMK (p : Int) (ps : List (Int × Int)) (N wr k : Nat) : List (List Int) := (List.range ps.length).map fun i => if i < k then kRow p N wr (co (px ps) i) (co (py ps) i) else pows p (co (px ps) i) N
theorem kMK_len (p : Int) (ps : List (Int × Int)) (N wr k : Nat) : (kMK p ps N wr k).length = ps.length := by unfold kMK; simp
theorem kMK_ro (p : Int) (ps : List (Int × Int)) (N wr k : Nat) {i : Nat} (h : i < ps.length) : ro (kMK p ps N wr k) i = if i < k then kRow p N wr (co (px ps) i) (co (py ps) i) else pows p (co (px ps) i) N := ro_at (by
  unfold kMK; rw [List.getElem?_map, List.getElem?_range h]; rfl)
theorem kMK_zero (p : Int) (ps : List (Int × Int)) (N wr : Nat) : vmK p (px ps) N ps.length = kMK p ps N wr 0 := rows_ext (by rw [vmK_len, kMK_len, px_len]) fun i hi => by
  rw [vmK_len] at hi
  rw [vmK_ro _ _ _ _ hi, kMK_ro _ _ _ _ _ (by rw [← px_len]; exact hi), if_pos (by rw [← px_len]; exact hi), if_neg (by omega)]
theorem kMK_done (p : Int) (ps : List (Int × Int)) (N wr : Nat) : kMK p ps N wr ps.length = kMat p ps N wr := rows_ext (by rw [kMK_len, kMat_len]) fun i hi => by
  rw [kMK_len] at hi
  rw [kMK_ro _ _ _ _ _ hi, kMat_ro _ _ hi, if_pos hi]
theorem kMK_next (p : Int) (ps : List (Int × Int)) (N wr : Nat) {k : Nat} (h : k < ps.length) : (kMK p ps N wr k).set k (kRow p N wr (co (px ps) k) (co (py ps) k)) = kMK p ps N wr (k + 1) :=
  rows_ext (by rw [List.length_set, kMK_len, kMK_len]) fun i hi => by
    rw [List.length_set, kMK_len] at hi
    rw [ro_set (by rw [kMK_len]; exact h), kMK_ro p ps N wr k hi, kMK_ro p ps N wr (k + 1) hi]
    by_cases e : i = k
    · subst e; rw [if_pos rfl, if_pos (by omega)]
    · rw [if_neg e]
      by_cases e2 : i < k
      · rw [if_pos e2, if_pos (by omega)]
      · rw [if_neg e2, if_neg (by omega)]
theorem kVal_fill (p : Int) (ps : List (Int × Int)) (wr : Nat) : fillL (fun i => kVl p wr (co (px ps) i) (co (py ps) i)) ps.length ps.length = kVal p ps wr := by
  rw [fillL_done]
  refine list_ext (by rw [kVal_len]; simp) fun i => ?_
  rw [co_map]
  by_cases hi : i < ps.length
  · rw [if_pos hi, kVal_co wr hi]
  · rw [if_neg hi, co_fin _ _ (by rw [kVal_len]; omega)]
theorem pows_el {p : Int} (hp : 0 < p) (x : Int) (n : Nat) : El p (pows p x n) := fun z hz => by
  unfold pows at hz
  obtain ⟨j, _, rfl⟩ := List.mem_map.1 hz
  exact ⟨Int.emod_nonneg _ (by omega), Int.emod_lt_of_pos _ hp⟩
theorem pows_take (p x : Int) {n m : Nat} (h : m ≤ n) : (pows p x n).take m = pows p x m := by
  unfold pows
  rw [← List.map_take, List.take_range, Nat.min_eq_left h]
end Go.Proofs.Ytelkmbhhaopafaa
