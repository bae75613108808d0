/- Texts joined: GRows, GElim, RMem, RBase, RAdd, RClone, RClear, RElim, RDet, RMul, RMulM, RSolve, RInv. Each says its own conditions. -/
import Derived.Test.YtkhiiiggmhncbaaGreatMA
import Derived.Test.YtkhiiiggmhncbaaGreatMB
import Derived.Test.YtkhiiiggmhncbaaGreatMC
import Derived.Deep.RegionHeld3
import Derived.Deep.AppendLies
import Derived.Deep.Upon
import Derived.RangeFuncBox
import Derived.IntWalk
import Derived.Deep.RegionLaw
/- No Go: lists of rows as matrices; a row divided, a multiple of a row subtracted, two rows exchanged, as row operations. No conditions. -/
namespace MatMath
open FieldMath PolyMath

/-- The entries of a list of rows. -/
def mx (rows : List (List Int)) (r c : Nat) : Int := co (rows[r]?.getD []) c
theorem mx_at {rows : List (List Int)} {i : Nat} {r : List Int} (h : rows[i]? = some r) (c : Nat) : mx rows i c = co r c := by unfold mx; rw [h]; rfl
theorem mx_set {rows : List (List Int)} {i : Nat} (hi : i < rows.length) (s : List Int) : mx (rows.set i s) = upd (mx rows) i (co s) := by
  funext r c
  unfold mx upd
  by_cases e : r = i
  · subst e; rw [List.getElem?_set_self hi, if_pos rfl]; rfl
  · rw [List.getElem?_set_ne (fun q => e q.symm), if_neg e]

/-- A row times k. -/
def sclR (p k : Int) (r : List Int) : List Int := r.map fun x => fmul p x k
theorem sclR_len (p k : Int) (r : List Int) : (sclR p k r).length = r.length := by unfold sclR; simp
theorem co_sclR (p k : Int) (r : List Int) (c : Nat) : co (sclR p k r) c = fmul p (co r c) k := by
  unfold sclR co
  rw [List.getElem?_map]
  cases r[c]? with
  | none => show (0 : Int) = fmul p 0 k; unfold fmul; rw [Int.zero_mul, Int.zero_emod]
  | some x => rfl
/-- A row less f times another. -/
def subR (p f : Int) (r s : List Int) : List Int := (List.range r.length).map fun c => fsub p (co r c) (fmul p f (co s c))
theorem subR_len (p f : Int) (r s : List Int) : (subR p f r s).length = r.length := by unfold subR; simp
theorem co_subR (p f : Int) {r s : List Int} (h : r.length = s.length) (c : Nat) : co (subR p f r s) c = fsub p (co r c) (fmul p f (co s c)) := by
  unfold subR
  rw [co_map]
  by_cases e : c < r.length
  · rw [if_pos e]
  · rw [if_neg e, co_fin r c (by omega), co_fin s c (by omega)]
    unfold fsub fmul
    rw [Int.mul_zero, Int.zero_emod, Int.sub_self, Int.zero_emod]

theorem RE.one {p : Int} {m : Nat} {d : Int} {A B C : Nat → Nat → Int} (h : RE p m d A B) (e : ∀ r c, r < m → B r c % p = C r c % p) : RE p m d A C := by
  have := RE.trans h (.same e)
  rwa [Int.one_mul] at this
theorem re_scale {p k k' : Int} {rows : List (List Int)} {i : Nat} {r : List Int} (h : rows[i]? = some r) (hk : k' * k % p = 1) : RE p rows.length k (mx rows) (mx (rows.set i (sclR p k r))) := by
  have hi := (List.getElem?_eq_some_iff.1 h).1
  refine RE.one (.scale (k := k) (k' := k') hi hk) fun q c _ => ?_
  rw [mx_set hi]
  unfold upd
  by_cases e : q = i
  · rw [if_pos e, if_pos e, co_sclR]
    show k * mx rows i c % p = _
    rw [mx_at h]
    unfold fmul
    rw [mdd, Int.mul_comm]
  · rw [if_neg e, if_neg e]
theorem re_sub {p f : Int} {rows : List (List Int)} {i q : Nat} {r s : List Int} (hr : rows[i]? = some r) (hs : rows[q]? = some s) (hl : r.length = s.length) (hne : q ≠ i) : RE p rows.length 1 (mx rows) (mx (rows.set i (subR p f r s))) := by
  have hi := (List.getElem?_eq_some_iff.1 hr).1
  have hq := (List.getElem?_eq_some_iff.1 hs).1
  refine RE.one (.add (r := q) (s := i) (k := -f) hq hi hne) fun t c _ => ?_
  rw [mx_set hi]
  unfold upd
  by_cases e : t = i
  · rw [if_pos e, if_pos e, co_subR p f hl]
    show (mx rows i c + -f * mx rows q c) % p = _
    rw [mx_at hr, mx_at hs]
    unfold fsub fmul
    rw [mdd, Int.neg_mul, ms (a := co r c) rfl (mdd p (f * co s c))]
    rfl
  · rw [if_neg e, if_neg e]
theorem mx_swap {rows : List (List Int)} {i k : Nat} {r s : List Int} (hr : rows[i]? = some r) (hs : rows[k]? = some s) : mx ((rows.set i s).set k r) = upd (upd (mx rows) i (mx rows k)) k (mx rows i) := by
  have hi := (List.getElem?_eq_some_iff.1 hr).1
  have hk := (List.getElem?_eq_some_iff.1 hs).1
  rw [mx_set (by rw [List.length_set]; exact hk), mx_set hi]
  have e1 : mx rows k = co s := by funext c; exact mx_at hs c
  have e2 : mx rows i = co r := by funext c; exact mx_at hr c
  rw [e1, e2]
theorem re_swap {p : Int} {rows : List (List Int)} {i k : Nat} {r s : List Int} (hr : rows[i]? = some r) (hs : rows[k]? = some s) (hne : i ≠ k) : RE p rows.length (-1) (mx rows) (mx ((rows.set i s).set k r)) := by
  rw [mx_swap hr hs]
  exact .swap (List.getElem?_eq_some_iff.1 hr).1 (List.getElem?_eq_some_iff.1 hs).1 hne
end MatMath

/- No Go: elimination on lists of rows, column by column, as a function; what it keeps (row operations, the determinant's factor, the reduced form). Conditions: a supported prime, rows of one length with words of its field, where said. -/
namespace MatMath
open FieldMath PolyMath

/-- A row. -/
def ro (R : List (List Int)) (i : Nat) : List Int := R[i]?.getD []
theorem ro_at {R : List (List Int)} {i : Nat} {r : List Int} (h : R[i]? = some r) : ro R i = r := by unfold ro; rw [h]; rfl
theorem ro_get {R : List (List Int)} {i : Nat} (h : i < R.length) : R[i]? = some (ro R i) := by unfold ro; rw [List.getElem?_eq_getElem h]; rfl
theorem mx_ro (R : List (List Int)) (i c : Nat) : mx R i c = co (ro R i) c := rfl
theorem ro_map (f : Nat → List Int) {N i : Nat} (h : i < N) : ro ((List.range N).map f) i = f i := ro_at (by rw [List.getElem?_map, List.getElem?_range h]; rfl)
theorem rows_ext {R S : List (List Int)} (hl : R.length = S.length) (h : ∀ i, i < R.length → ro R i = ro S i) : R = S := by
  refine List.ext_getElem? fun i => ?_
  by_cases hi : i < R.length
  · rw [ro_get hi, ro_get (by omega), h i hi]
  · rw [List.getElem?_eq_none (by omega), List.getElem?_eq_none (by omega)]
theorem ro_set {R : List (List Int)} {i : Nat} (hi : i < R.length) (s : List Int) (j : Nat) : ro (R.set i s) j = if j = i then s else ro R j := by
  unfold ro
  by_cases e : j = i
  · subst e; rw [List.getElem?_set_self hi, if_pos rfl]; rfl
  · rw [List.getElem?_set_ne (fun q => e q.symm), if_neg e]

/-- N rows of L words of the field. -/
structure Mat (p : Int) (N L : Nat) (R : List (List Int)) : Prop where
  rows : R.length = N
  row : ∀ r ∈ R, r.length = L ∧ El p r
theorem Mat.ro {p : Int} {N L : Nat} {R : List (List Int)} (h : Mat p N L R) {i : Nat} (hi : i < N) : (ro R i).length = L ∧ El p (ro R i) :=
  h.row _ (List.mem_of_getElem? (ro_get (by rw [h.rows]; exact hi)))
theorem Mat.bd {p : Int} {N L : Nat} {R : List (List Int)} (h : Mat p N L R) (hp : 0 < p) (i c : Nat) : 0 ≤ mx R i c ∧ mx R i c < p := by
  unfold mx
  cases e : R[i]? with
  | none => show 0 ≤ co [] c ∧ co [] c < p; rw [co_nil]; exact ⟨Int.le_refl _, hp⟩
  | some r => exact (h.row r (List.mem_of_getElem? e)).2.co hp c
theorem Mat.of {p : Int} {N L : Nat} {R : List (List Int)} (h1 : R.length = N) (h2 : ∀ i, i < N → (MatMath.ro R i).length = L ∧ El p (MatMath.ro R i)) : Mat p N L R :=
  ⟨h1, fun r hr => by
    obtain ⟨i, hi, e⟩ := List.getElem_of_mem hr
    have := h2 i (by omega)
    rw [ro_at (List.getElem?_eq_getElem hi), e] at this
    exact this⟩
theorem Mat.set {p : Int} {N L : Nat} {R : List (List Int)} (h : Mat p N L R) {i : Nat} {s : List Int} (hs : s.length = L ∧ El p s) : Mat p N L (R.set i s) :=
  ⟨by rw [List.length_set]; exact h.rows, fun r hr => by
    rcases List.mem_or_eq_of_mem_set hr with h1 | h1
    · exact h.row r h1
    · subst h1; exact hs⟩

/-- Two rows exchanged. -/
def swR (R : List (List Int)) (i k : Nat) : List (List Int) := (R.set i (ro R k)).set k (ro R i)
theorem swR_len (R : List (List Int)) (i k : Nat) : (swR R i k).length = R.length := by unfold swR; rw [List.length_set, List.length_set]
theorem Mat.sw {p : Int} {N L : Nat} {R : List (List Int)} (h : Mat p N L R) {i k : Nat} (hi : i < N) (hk : k < N) : Mat p N L (swR R i k) := (h.set (h.ro hk)).set (h.ro hi)
/-- The inverse of an element. -/
def vinv (p a : Int) : Int := fpow p a (p - 2)
/-- Row q divided by its entry in column k. -/
def top (p : Int) (R : List (List Int)) (q k : Nat) : List Int := sclR p (vinv p (mx R q k)) (ro R q)
/-- .. and taken away from the rows ahead of j. -/
def clrK (p : Int) (R : List (List Int)) (q k j : Nat) : List (List Int) := (List.range R.length).map fun i => if i = q then top p R q k else if i < j then subR p (mx R i k) (ro R i) (top p R q k) else ro R i
def clr (p : Int) (R : List (List Int)) (q k : Nat) : List (List Int) := clrK p R q k R.length
theorem clrK_len (p : Int) (R : List (List Int)) (q k j : Nat) : (clrK p R q k j).length = R.length := by unfold clrK; simp
theorem clrK_ro (p : Int) {R : List (List Int)} (q k j : Nat) {i : Nat} (hi : i < R.length) : ro (clrK p R q k j) i = if i = q then top p R q k else if i < j then subR p (mx R i k) (ro R i) (top p R q k) else ro R i := ro_map _ hi
theorem clrK_start (p : Int) {R : List (List Int)} {q : Nat} (k : Nat) (hq : q < R.length) : clrK p R q k 0 = R.set q (top p R q k) :=
  rows_ext (by rw [clrK_len, List.length_set]) fun i hi => by
    rw [clrK_len] at hi
    rw [clrK_ro p q k 0 hi, ro_set hq]
    by_cases e : i = q
    · rw [if_pos e, if_pos e]
    · rw [if_neg e, if_neg e, if_neg (by omega)]
theorem clrK_here (p : Int) (R : List (List Int)) (q k : Nat) : clrK p R q k (q + 1) = clrK p R q k q :=
  rows_ext (by rw [clrK_len, clrK_len]) fun i hi => by
    rw [clrK_len] at hi
    rw [clrK_ro p q k _ hi, clrK_ro p q k _ hi]
    by_cases e : i = q
    · rw [if_pos e, if_pos e]
    · rw [if_neg e, if_neg e]
      by_cases h : i < q
      · rw [if_pos h, if_pos (by omega)]
      · rw [if_neg h, if_neg (by omega)]
theorem clrK_next (p : Int) {R : List (List Int)} {q j : Nat} (k : Nat) (hj : j < R.length) (hne : j ≠ q) : (clrK p R q k j).set j (subR p (mx R j k) (ro R j) (top p R q k)) = clrK p R q k (j + 1) :=
  rows_ext (by rw [List.length_set, clrK_len, clrK_len]) fun i hi => by
    rw [List.length_set, clrK_len] at hi
    rw [ro_set (by rw [clrK_len]; exact hj), clrK_ro p q k _ hi, clrK_ro p q k _ hi]
    by_cases e : i = j
    · rw [if_pos e, e, if_neg hne, if_pos (by omega)]
    · rw [if_neg e]
      by_cases e2 : i = q
      · rw [if_pos e2, if_pos e2]
      · rw [if_neg e2, if_neg e2]
        by_cases h : i < j
        · rw [if_pos h, if_pos (by omega)]
        · rw [if_neg h, if_neg (by omega)]
theorem clrK_at (p : Int) {R : List (List Int)} {q k j : Nat} (hj : j < R.length) (hne : j ≠ q) : ro (clrK p R q k j) j = ro R j := by
  rw [clrK_ro p q k j hj, if_neg hne, if_neg (by omega)]
theorem clrK_top (p : Int) {R : List (List Int)} {q : Nat} (k j : Nat) (hq : q < R.length) : ro (clrK p R q k j) q = top p R q k := by
  rw [clrK_ro p q k j hq, if_pos rfl]
theorem sclR_el {p : Int} (hp : 0 < p) (k : Int) (r : List Int) : El p (sclR p k r) := fun x hx => by
  unfold sclR at hx
  obtain ⟨y, _, rfl⟩ := List.mem_map.1 hx
  exact fmul_bd p y k hp
theorem subR_el {p : Int} (hp : 0 < p) (f : Int) (r s : List Int) : El p (subR p f r s) := fun x hx => by
  unfold subR at hx
  obtain ⟨y, _, rfl⟩ := List.mem_map.1 hx
  exact fsub_bd p _ _ hp
theorem Mat.top {p : Int} {N L : Nat} {R : List (List Int)} (h : Mat p N L R) (hp : 0 < p) {q : Nat} (hq : q < N) (k : Nat) : (MatMath.top p R q k).length = L ∧ El p (MatMath.top p R q k) :=
  ⟨by unfold MatMath.top; rw [sclR_len]; exact (h.ro hq).1, sclR_el hp _ _⟩
theorem Mat.clrK {p : Int} {N L : Nat} {R : List (List Int)} (h : Mat p N L R) (hp : 0 < p) {q : Nat} (hq : q < N) (k j : Nat) : Mat p N L (MatMath.clrK p R q k j) :=
  .of (by rw [clrK_len]; exact h.rows) fun i hi => by
    rw [clrK_ro p q k j (by rw [h.rows]; exact hi)]
    split
    · exact h.top hp hq k
    · split
      · exact ⟨by rw [subR_len]; exact (h.ro hi).1, subR_el hp _ _ _⟩
      · exact h.ro hi

/-- The state of the elimination: the rows, the pivots' columns, the product of the pivots with its sign. -/
structure ES where
  R : List (List Int)
  pv : List Nat
  d : Int
/-- How far below row q the first row lies that has an entry in column k. -/
def fnd (R : List (List Int)) (q k : Nat) : Option Nat := (R.drop q).findIdx? fun r => co r k != 0
theorem fnd_none {R : List (List Int)} {q k : Nat} : fnd R q k = none ↔ ∀ i, q ≤ i → i < R.length → mx R i k = 0 := by
  unfold fnd
  rw [List.findIdx?_eq_none_iff]
  constructor
  · intro h i h1 h2
    have h3 := h (ro R i) (List.mem_iff_getElem?.2 ⟨i - q, by rw [List.getElem?_drop, show q + (i - q) = i by omega]; exact ro_get h2⟩)
    rw [mx_ro]
    simpa using h3
  · intro h r hr
    obtain ⟨j, hj⟩ := List.mem_iff_getElem?.1 hr
    rw [List.getElem?_drop] at hj
    have h3 := h (q + j) (by omega) (List.getElem?_eq_some_iff.1 hj).1
    rw [mx_at hj] at h3
    simpa using h3
theorem fnd_some {R : List (List Int)} {q k b : Nat} : fnd R q k = some b ↔ q + b < R.length ∧ mx R (q + b) k ≠ 0 ∧ ∀ j, j < b → mx R (q + j) k = 0 := by
  unfold fnd
  rw [List.findIdx?_eq_some_iff_getElem]
  constructor
  · rintro ⟨h, h1, h2⟩
    have hl : q + b < R.length := by rw [List.length_drop] at h; omega
    refine ⟨hl, ?_, fun j hj => ?_⟩
    · rw [List.getElem_drop] at h1
      rw [mx_at (List.getElem?_eq_getElem hl)]
      simpa using h1
    · have h3 := h2 j hj
      rw [List.getElem_drop] at h3
      rw [mx_at (List.getElem?_eq_getElem (show q + j < R.length by omega))]
      simpa using h3
  · rintro ⟨h, h1, h2⟩
    refine ⟨by rw [List.length_drop]; omega, ?_, fun j hj => ?_⟩
    · rw [List.getElem_drop]
      rw [mx_at (List.getElem?_eq_getElem h)] at h1
      simpa using h1
    · rw [List.getElem_drop]
      have h3 := h2 j hj
      rw [mx_at (List.getElem?_eq_getElem (show q + j < R.length by omega))] at h3
      simpa using h3
/-- The rows with the pivot's row in its place. -/
def plc (R : List (List Int)) (q b : Nat) : List (List Int) := if b = 0 then R else swR R q (q + b)
def stp (p : Int) (k : Nat) (S : ES) : ES :=
  match fnd S.R S.pv.length k with
  | none => S
  | some b => ⟨clr p (plc S.R S.pv.length b) S.pv.length k, S.pv ++ [k], fmul p (if b = 0 then S.d else fneg p S.d) (mx (plc S.R S.pv.length b) S.pv.length k)⟩
def elim (p : Int) (R : List (List Int)) : Nat → ES
  | 0 => ⟨R, [], 1⟩
  | k + 1 => stp p k (elim p R k)
theorem elim_skip {p : Int} {R : List (List Int)} {k : Nat} (h : fnd (elim p R k).R (elim p R k).pv.length k = none) : elim p R (k + 1) = elim p R k := by
  show stp p k (elim p R k) = _
  unfold stp; rw [h]
theorem elim_step {p : Int} {R : List (List Int)} {k b : Nat} (h : fnd (elim p R k).R (elim p R k).pv.length k = some b) :
    elim p R (k + 1) = ⟨clr p (plc (elim p R k).R (elim p R k).pv.length b) (elim p R k).pv.length k, (elim p R k).pv ++ [k], fmul p (if b = 0 then (elim p R k).d else fneg p (elim p R k).d) (mx (plc (elim p R k).R (elim p R k).pv.length b) (elim p R k).pv.length k)⟩ := by
  show stp p k (elim p R k) = _
  unfold stp; rw [h]

/-- What the elimination keeps. -/
structure Elf (p : Int) (A : List (List Int)) (N L k : Nat) (S : ES) : Prop where
  mat : Mat p N L S.R
  re : ∃ e, RE p N e (mx A) (mx S.R) ∧ e * S.d % p = 1
  ech : Ech p N k (mx S.R) S.pv.length (fun i => S.pv.getD i 0)
  db : 0 ≤ S.d ∧ S.d < p

theorem Ech.cong {p : Int} {m n s : Nat} {B C : Nat → Nat → Int} {pv pw : Nat → Nat} (h : Ech p m n B s pv) (e : ∀ r c, r < m → C r c % p = B r c % p) (e2 : ∀ i, i < s → pw i = pv i) : Ech p m n C s pw :=
  ⟨h.len, fun i hi => by rw [e2 i hi]; exact h.lt i hi, fun i j h1 h2 => by rw [e2 i (by omega), e2 j h2]; exact h.inc i j h1 h2, fun i r hi hr => by rw [e2 i hi, e r _ hr]; exact h.unit i r hi hr,
    fun i r c hi hir hr hc => by rw [e2 i hi] at hc; rw [e r c hr]; exact h.low i r c hi hir hr hc, fun r c h1 h2 h3 => by rw [e r c h2]; exact h.rest r c h1 h2 h3⟩
/-- The list's clearing is the matrix's. -/
theorem clr_elm {p : Int} {N L : Nat} {R : List (List Int)} (h : Mat p N L R) {q : Nat} (hq : q < N) (k : Nat) {r : Nat} (hr : r < N) (c : Nat) : mx (clr p R q k) r c % p = elm (mx R) q k (vinv p (mx R q k)) N r c % p := by
  rw [mx_ro]; unfold clr
  rw [clrK_ro p q k _ (by rw [h.rows]; exact hr)]
  unfold elm
  by_cases e : r = q
  · rw [if_pos e, if_pos e]; unfold top
    rw [co_sclR, ← mx_ro]; unfold fmul; rw [mdd, Int.mul_comm]
  · rw [if_neg e, if_neg e, if_pos (by rw [h.rows]; exact hr), if_pos hr]
    rw [co_subR p _ (by rw [(h.ro hr).1]; unfold top; rw [sclR_len, (h.ro hq).1])]
    unfold top
    rw [co_sclR, ← mx_ro, ← mx_ro]
    unfold fsub fmul
    rw [mdd, ms (a := mx R r c) rfl (mdd p _)]
    exact ms rfl (mm rfl ((mdd p _).trans (by rw [Int.mul_comm])))
theorem getD_snoc (l : List Nat) (k i : Nat) (h : i < l.length + 1) : (l ++ [k]).getD i 0 = if i = l.length then k else l.getD i 0 := by
  rw [List.getD_eq_getElem?_getD]
  by_cases e : i = l.length
  · subst e; simp
  · rw [if_neg e, List.getElem?_append_left (by omega), List.getD_eq_getElem?_getD]
theorem vinv_mul {p a : Int} (hg : GoodI p) (h0 : 0 ≤ a) (h1 : a < p) (h2 : a ≠ 0) : vinv p a * a % p = 1 := by
  have := hg.inv (a := a) (by omega) h1
  unfold fmul at this
  unfold vinv
  rw [Int.mul_comm]; exact this
theorem Elf.next {p : Int} (hg : GoodI p) {A : List (List Int)} {N L k b : Nat} {S : ES} (h : Elf p A N L k S) (hf : fnd S.R S.pv.length k = some b) :
    Elf p A N L (k + 1) ⟨clr p (plc S.R S.pv.length b) S.pv.length k, S.pv ++ [k], fmul p (if b = 0 then S.d else fneg p S.d) (mx (plc S.R S.pv.length b) S.pv.length k)⟩ := by
  have hp := hg.two
  obtain ⟨h1, h2, h3⟩ := fnd_some.1 hf
  have hN := h.mat.rows
  have hq : S.pv.length < N := by omega
  obtain ⟨e, hre, hed⟩ := h.re
  -- the rows with the pivot's row in its place
  have key : ∃ e', RE p N e' (mx A) (mx (plc S.R S.pv.length b)) ∧ e' * (if b = 0 then S.d else fneg p S.d) % p = 1 ∧ Ech p N k (mx (plc S.R S.pv.length b)) S.pv.length (fun i => S.pv.getD i 0) ∧ Mat p N L (plc S.R S.pv.length b) ∧ mx (plc S.R S.pv.length b) S.pv.length k ≠ 0 := by
    unfold plc
    by_cases hb : b = 0
    · subst hb
      simp only [if_pos]
      exact ⟨e, hre, hed, h.ech, h.mat, h2⟩
    · simp only [if_neg hb]
      have hra : S.R[S.pv.length]? = some (ro S.R S.pv.length) := ro_get (by omega)
      have hrb : S.R[S.pv.length + b]? = some (ro S.R (S.pv.length + b)) := ro_get h1
      have hsw := re_swap (p := p) hra hrb (by omega)
      have hmx := mx_swap hra hrb
      rw [hN] at hsw
      refine ⟨_, hre.trans hsw, ?_, ?_, h.mat.sw hq (by omega), ?_⟩
      · unfold fneg
        rw [Int.neg_mul, Int.one_mul, Int.mul_emod, mdd, ← Int.mul_emod, Int.neg_mul_neg]
        exact hed
      · unfold swR; rw [hmx]
        exact h.ech.swap (by omega) (by omega)
      · unfold swR; rw [hmx]
        show (if S.pv.length = S.pv.length + b then _ else if S.pv.length = S.pv.length then mx S.R (S.pv.length + b) k else _) ≠ 0
        rw [if_neg (by omega), if_pos rfl]; exact h2
  obtain ⟨e', hre', hed', hech', hmat', hne'⟩ := key
  generalize plc S.R S.pv.length b = R at *
  generalize (if b = 0 then S.d else fneg p S.d) = d at *
  have hbd := hmat'.bd (by omega) S.pv.length k
  have hv := vinv_mul hg hbd.1 hbd.2 hne'
  have hcl := fun r c (hr : r < N) => clr_elm hmat' hq k hr c
  refine ⟨hmat'.clrK (by omega) hq k _, ⟨_, (hre'.trans (elm_re (mx R) (q := S.pv.length) (k := k) hq (v' := mx R S.pv.length k) (by rw [Int.mul_comm]; exact hv) N (Nat.le_refl _))).one fun r c hr => (hcl r c hr).symm, ?_⟩, ?_, fmul_bd _ _ _ (by omega)⟩
  · show vinv p (mx R S.pv.length k) * e' * (d * mx R S.pv.length k % p) % p = 1
    rw [Int.mul_emod, mdd, ← Int.mul_emod, show vinv p (mx R S.pv.length k) * e' * (d * mx R S.pv.length k) = (vinv p (mx R S.pv.length k) * mx R S.pv.length k) * (e' * d) by ac_rfl, Int.mul_emod, hv, hed']
    exact small (by omega) (by omega)
  · have h5 := hech'.pivot (v := vinv p (mx R S.pv.length k)) hq (by rw [hv]; exact (small (by omega) (by omega)).symm)
    show Ech p N (k + 1) (mx (clr p R S.pv.length k)) (S.pv ++ [k]).length _
    rw [List.length_append, List.length_singleton]
    exact h5.cong (fun r c hr => hcl r c hr) fun i hi => getD_snoc S.pv k i hi
theorem elim_ok {p : Int} (hg : GoodI p) {A : List (List Int)} {N L : Nat} (hA : Mat p N L A) : ∀ k, Elf p A N L k (elim p A k)
  | 0 => ⟨hA, ⟨1, RE.refl p N _, by have := hg.two; show (1 : Int) * 1 % p = 1; exact small (by omega) (by omega)⟩, (Ech.none p N (mx A)).cong (fun _ _ _ => rfl) (fun i hi => absurd hi (by show ¬ i < 0; omega)), by have := hg.two; exact ⟨by show (0:Int) ≤ 1; omega, by show (1:Int) < p; omega⟩⟩
  | k + 1 => by
    have ih := elim_ok hg hA k
    have hp := hg.two
    cases hf : fnd (elim p A k).R (elim p A k).pv.length k with
    | none =>
      rw [elim_skip hf]
      refine ⟨ih.mat, ih.re, ih.ech.skip fun r h1 h2 => ?_, ih.db⟩
      rw [fnd_none.1 hf r h1 (by rw [ih.mat.rows]; exact h2), Int.zero_emod]
    | some b => rw [elim_step hf]; exact ih.next hg hf
/-- The row that gets the pivot is nought ahead of it. -/
theorem Elf.zero {p : Int} (hp : 0 < p) {A : List (List Int)} {N L k : Nat} {S : ES} (h : Elf p A N L k S) {r c : Nat} (h1 : S.pv.length ≤ r) (h2 : r < N) (h3 : c < k) : mx S.R r c = 0 := by
  have h4 := h.ech.rest r c h1 h2 h3
  have h5 := h.mat.bd hp r c
  rw [small h5.1 h5.2] at h4
  exact h4

/-! ### What the code does from column k on is the same as from the first on -/
/-- Entries from o on, n of them, replaced. -/
def mixO (f : Nat → Int) (o n : Nat) (xs : List Int) : List Int := (List.range xs.length).map fun c => if o ≤ c ∧ c < o + n then f c else co xs c
theorem mixO_len (f : Nat → Int) (o n : Nat) (xs : List Int) : (mixO f o n xs).length = xs.length := by unfold mixO; simp
theorem mixO_zero (f : Nat → Int) (o : Nat) (xs : List Int) : mixO f o 0 xs = xs := list_ext (by rw [mixO_len]) fun i => by
  unfold mixO; rw [co_map]
  by_cases h : i < xs.length
  · rw [if_pos h, if_neg (by omega)]
  · rw [if_neg h, co_fin xs i (by omega)]
theorem mixO_get (f : Nat → Int) (o n : Nat) (xs : List Int) {c : Nat} (h : c < xs.length) : (mixO f o n xs)[c]? = some (if o ≤ c ∧ c < o + n then f c else co xs c) := map_get (fun c => if o ≤ c ∧ c < o + n then f c else co xs c) h
theorem mixO_set (f : Nat → Int) (o n : Nat) (xs : List Int) : (mixO f o n xs).set (o + n) (f (o + n)) = mixO f o (n + 1) xs :=
  map_set xs.length (o + n) (by rw [if_pos (by omega)]) fun c hc => by
    by_cases h : o ≤ c ∧ c < o + n
    · rw [if_pos h, if_pos (by omega)]
    · rw [if_neg h, if_neg (by omega)]
theorem mixO_el {p : Int} (f : Nat → Int) (o n : Nat) {xs : List Int} (hx : El p xs) (hp : 0 < p) (hf : ∀ c, o ≤ c → c < o + n → 0 ≤ f c ∧ f c < p) : El p (mixO f o n xs) := fun x hm => by
  unfold mixO at hm
  obtain ⟨c, _, rfl⟩ := List.mem_map.1 hm
  split
  · rename_i h; exact hf c h.1 h.2
  · exact hx.co hp c
theorem mixO_scl {p v : Int} {k n : Nat} {r : List Int} (hl : r.length = k + n) (h0 : ∀ c, c < k → co r c = 0) : mixO (fun c => fmul p (co r c) v) k n r = sclR p v r := list_ext (by rw [mixO_len, sclR_len]) fun i => by
  rw [co_sclR]; unfold mixO; rw [co_map]
  by_cases h : i < r.length
  · rw [if_pos h]
    by_cases h2 : k ≤ i
    · rw [if_pos ⟨h2, by omega⟩]
    · rw [if_neg (by omega), h0 i (by omega)]; unfold fmul; rw [Int.zero_mul, Int.zero_emod]
  · rw [if_neg h, co_fin r i (by omega)]; unfold fmul; rw [Int.zero_mul, Int.zero_emod]
theorem mixO_sub {p f : Int} {k n : Nat} {r t : List Int} (hp : 0 < p) (hr : El p r) (hl : r.length = k + n) (ht : t.length = r.length) (h0 : ∀ c, c < k → co t c = 0) : mixO (fun c => fadd p (co r c) (fmul p (fneg p f) (co t c))) k n r = subR p f r t := list_ext (by rw [mixO_len, subR_len]) fun i => by
  rw [co_subR p f ht.symm]; unfold mixO; rw [co_map]
  by_cases h : i < r.length
  · rw [if_pos h]
    by_cases h2 : k ≤ i
    · rw [if_pos ⟨h2, by omega⟩]
      show fadd p (co r i) (fmul p (fneg p f) (co t i)) = _
      unfold fadd fsub fmul fneg
      rw [Int.add_emod, mdd, ← Int.add_emod, Int.sub_emod, mdd, ← Int.sub_emod]
      rw [ma (a := co r i) rfl (show -f % p * co t i % p = -f * co t i % p from mm (mdd p (-f)) rfl), Int.neg_mul]; rfl
    · rw [if_neg (by omega), h0 i (by omega)]
      unfold fsub fmul
      rw [Int.mul_zero, Int.zero_emod, Int.sub_zero]; exact (hr.cm hp i).symm
  · rw [if_neg h, co_fin r i (by omega), co_fin t i (by omega)]; unfold fsub fmul; rw [Int.mul_zero, Int.zero_emod, Int.sub_zero, Int.zero_emod]
/-- Nothing is added where the factor is nought. -/
theorem mixO_none {p : Int} (hp : 0 < p) (o n : Nat) {r : List Int} (g : Nat → Int) (hr : El p r) : mixO (fun c => fadd p (co r c) (fmul p 0 (g c))) o n r = r := list_ext (by rw [mixO_len]) fun i => by
  unfold mixO; rw [co_map]
  by_cases h : i < r.length
  · rw [if_pos h]
    split
    · show fadd p (co r i) (fmul p 0 (g i)) = _
      unfold fadd fmul; rw [Int.zero_mul, Int.zero_emod, Int.add_zero]; exact hr.cm hp i
    · rfl
  · rw [if_neg h, co_fin r i (by omega)]
end MatMath

/- Slices of slices of words: a matrix that came in reads as a list of rows; a matrix of the call's own, row by row, that may be written: a row changed, a header laid anew, two rows exchanged. Calls that make new memory leave it as it is. No conditions. -/
namespace Go.Proofs.YtkhiiiggmhncbaaGreat
set_option maxRecDepth 100000
open Go.RowKit PolyMath FieldMath MatMath

theorem info_int : (Tryz.prog.info? 3).map (fun i => (i.zero, i.size, i.bytes)) = some (some (.int .i64 0), 1, 8) := by kernel_rfl
theorem grown_of {w w' : World} (h : Below w.heap.size w w') (row : Option Nat) : w.grownBy w' row := ⟨h.os, h.tape, h.output, h.size, fun b hb _ => h.block b hb⟩

section
variable {w w' : World} {A : Option Addr} {c : Nat} {rows : List (List Int)}
end
section
variable {P : Program} (w : World)
end

theorem Sll.rowAt {w : World} {A : Option Addr} {c : Nat} {rows : List (List Int)} (h : Sll w A c rows) {i L : Nat} (hi : i < rows.length) (hl : (ro rows i).length = L) :
    ∃ b off A' c', A = some ⟨b, off, none⟩ ∧ b < w.heap.size ∧ w.cell? ⟨b, off + i, none⟩ = some (.slice A' L c') ∧ Sl w A' c' (ro rows i) := by
  obtain ⟨b, off, r, A', c', e, h1, h2, h3, h4⟩ := h.at_ hi
  rw [ro_at h2] at hl ⊢
  subst hl
  exact ⟨b, off, A', c', e, h1, h3, h4⟩
theorem Sll.drew {w : World} {A : Option Addr} {c : Nat} {rows : List (List Int)} (h : Sll w A c rows) : Sll w.drew A c rows := h.next (Below.refl _ w).drew
/-- v holds the headers vs of N rows; the first k of them hold the lists rows; all of it is the call's own, and no two rows share a block. -/
structure MP (base : Nat) (w : World) (v : Value) (N k : Nat) (vs : List Value) (rows : List (List Int)) : Prop where
  head : w.ownsRow base 23 1 v N vs
  len : rows.length = N
  le : k ≤ N
  row : ∀ i, i < k → ∃ u, vs[i]? = some u ∧ w.ownsRow base 22 1 u (ro rows i).length ((ro rows i).map (Value.int .u64))
  apart : ∀ (i j : Nat) (u x : Value) (e : Nat), i < k → j < k → vs[i]? = some u → vs[j]? = some x → u.ownBlock = some e → x.ownBlock = some e → i = j

section
variable {base N k : Nat} {w w' : World} {v : Value} {vs : List Value} {rows : List (List Int)}
theorem MP.vlen (h : MP base w v N k vs rows) : vs.length = N := by have := h.head.1; omega
theorem MP.next (h : MP base w v N k vs rows) (hb : Below w.heap.size w w') : MP base w' v N k vs rows :=
  ⟨own_belowN h.head hb, h.len, h.le, fun i hi => by obtain ⟨u, h1, h2⟩ := h.row i hi; exact ⟨u, h1, own_belowN h2 hb⟩, h.apart⟩
theorem MP.own (h : MP base w v N k vs rows) {i : Nat} {u : Value} (hi : i < k) (hu : vs[i]? = some u) : w.ownsRow base 22 1 u (ro rows i).length ((ro rows i).map (Value.int .u64)) := by
  obtain ⟨u', h1, h2⟩ := h.row i hi
  rw [hu] at h1
  injection h1 with h1
  subst h1
  exact h2
/-- A row's block is not the block of the headers. -/
theorem MP.far (h : MP base w v N k vs rows) {i b : Nat} {u : Value} (hi : i < k) (hu : vs[i]? = some u) (hb : u.ownBlock = some b) : v.ownBlock ≠ some b := fun e => by
  obtain ⟨c1, f1, t1⟩ := own_tag (h.own hi hu) b hb
  obtain ⟨c2, f2, t2⟩ := own_tag h.head b e
  rw [t1] at t2
  cases t2
/-- What is read of a row's header. -/
theorem MP.hd {g c : Nat} (h : MP base w (.slice (some ⟨g, 0, none⟩) N c) N k vs rows) {i L : Nat} (hi : i < k) (hl : (ro rows i).length = L) (hL : 0 < L) :
    ∃ b cb, vs[i]? = some (.slice (some ⟨b, 0, none⟩) L cb) ∧ w.cell? ⟨g, i, none⟩ = some (.slice (some ⟨b, 0, none⟩) L cb) ∧ OwnAt w base b L cb (ro rows i) ∧ b ≠ g ∧ L ≤ cb := by
  obtain ⟨u, h1, h2⟩ := h.row i hi
  rw [hl] at h2
  obtain ⟨b, cb, rfl, hb, hlt⟩ := World.ownsRow.form h2 (by omega)
  refine ⟨b, cb, h1, (World.ownsRow.cellAt h.head i (by have := h.le; omega)).trans h1, h2, fun e => ?_, ?_⟩
  · exact h.far hi h1 rfl (by rw [e]; rfl)
  · have := Sl.of_own h2
    have h3 := this.cap
    omega
theorem MP.cell {g c : Nat} (h : MP base w (.slice (some ⟨g, 0, none⟩) N c) N k vs rows) {i : Nat} {u : Value} (hi : i < N) (hu : vs[i]? = some u) : w.cell? ⟨g, i, none⟩ = some u :=
  (World.ownsRow.cellAt h.head i (by omega)).trans hu
/-- A row is written. -/
theorem MP.change (h : MP base w v N k vs rows) {i L b cb : Nat} {r : List Int} (hi : i < k) (hv : vs[i]? = some (.slice (some ⟨b, 0, none⟩) L cb)) (ho : OwnAt w' base b L cb r) (hg : w.grownBy w' (some b)) : MP base w' v N k vs (rows.set i r) := by
  have hle := h.le
  have hN : i < rows.length := by rw [h.len]; omega
  refine ⟨World.ownsRow.kept h.head hg ?_, by rw [List.length_set]; exact h.len, h.le, fun j hj => ?_, h.apart⟩
  · exact .inr (h.far hi hv rfl)
  · rw [ro_set hN]
    by_cases e : j = i
    · subst e
      rw [if_pos rfl]
      exact ⟨_, hv, by rw [ho.len]; exact ho⟩
    · rw [if_neg e]
      obtain ⟨u, u1, u2⟩ := h.row j hj
      refine ⟨u, u1, World.ownsRow.kept u2 hg ?_⟩
      cases hu : u.ownBlock with
      | none => exact .inl rfl
      | some q => exact .inr fun e2 => e (h.apart j i u _ q hj hi u1 hv hu e2.symm)
/-- A header is laid anew: its row is the old one grown, or new. -/
theorem MP.lay {g c : Nat} (h : MP base w (.slice (some ⟨g, 0, none⟩) N c) N k vs rows) {i k' : Nat} {u : Value} {r : List Int} {row : Option Nat} (hik : i ≤ k) (hiN : i < N) (hk' : k' = max k (i + 1))
    (hg : w.grownBy w' row) (hrow : ∀ b, row = some b → i < k ∧ ∃ x, vs[i]? = some x ∧ x.ownBlock = some b) (ho : w'.ownsRow base 22 1 u r.length (r.map (Value.int .u64)))
    (hnew : ∀ b, u.ownBlock = some b → w.heap.size ≤ b ∨ row = some b) : MP base (w'.setCell ⟨g, i, none⟩ u) (.slice (some ⟨g, 0, none⟩) N c) N k' (vs.set i u) (rows.set i r) := by
  have hle := h.le
  have hvl := h.vlen
  have hN : i < rows.length := by rw [h.len]; omega
  have hfar : row ≠ some g := fun e => by
    obtain ⟨h1, x, h2, h3⟩ := hrow g e
    exact h.far h1 h2 h3 rfl
  have hhead : w'.ownsRow base 23 1 (.slice (some ⟨g, 0, none⟩) N c) N vs := World.ownsRow.kept h.head hg (.inr fun e => hfar e.symm)
  have hst := World.ownsRow.stored hhead i u
  have hglt := World.ownsRow.lt h.head g rfl
  -- words are kept by the store of the header
  have keep : ∀ {x : Value} {n : Nat} {xs : List Int}, w'.ownsRow base 22 1 x n (xs.map (Value.int .u64)) → (w'.setCell ⟨g, i, none⟩ u).ownsRow base 22 1 x n (xs.map (Value.int .u64)) := fun {x n xs} hx =>
    World.ownsRow.kept hx hst.2 (by
      cases hq : x.ownBlock with
      | none => exact .inl rfl
      | some b =>
        refine .inr fun e => ?_
        obtain ⟨c1, f1, t1⟩ := own_tag hx b hq
        obtain ⟨c2, f2, t2⟩ := own_tag hhead g rfl
        have : b = g := by simpa using e
        subst this
        rw [t1] at t2
        cases t2)
  -- the other rows
  have other : ∀ j, j < k → j ≠ i → ∃ x, vs[j]? = some x ∧ w'.ownsRow base 22 1 x (ro rows j).length ((ro rows j).map (Value.int .u64)) ∧ ∀ b, x.ownBlock = some b → b < w.heap.size ∧ row ≠ some b := fun j hj hne => by
    obtain ⟨x, h1, h2⟩ := h.row j hj
    have hno : ∀ b, x.ownBlock = some b → row ≠ some b := fun b hb e => by
      obtain ⟨h3, y, h4, h5⟩ := hrow b e
      exact hne (h.apart j i x y b hj h3 h1 h4 hb h5)
    refine ⟨x, h1, World.ownsRow.kept h2 hg ?_, fun b hb => ⟨(World.ownsRow.lt h2 b hb).2, hno b hb⟩⟩
    cases hx : x.ownBlock with
    | none => exact .inl rfl
    | some b => exact .inr fun e => hno b hx e.symm
  refine ⟨hst.1, by rw [List.length_set]; exact h.len, by omega, fun j hj => ?_, fun j j' x x' e hj hj' hx hx' he he' => ?_⟩
  · rw [ro_set hN]
    by_cases e : j = i
    · subst e
      rw [if_pos rfl]
      exact ⟨u, List.getElem?_set_self (by omega), keep ho⟩
    · rw [if_neg e]
      obtain ⟨x, h1, h2, _⟩ := other j (by omega) e
      exact ⟨x, by rw [List.getElem?_set_ne (fun q => e q.symm)]; exact h1, keep h2⟩
  · have new : ∀ j x, j < k' → j ≠ i → (vs.set i u)[j]? = some x → x.ownBlock = some e → u.ownBlock ≠ some e := fun j x hj hne hx he hu => by
      rw [List.getElem?_set_ne (fun q => hne q.symm)] at hx
      obtain ⟨y, h1, _, h3⟩ := other j (by omega) hne
      rw [hx] at h1
      injection h1 with h1
      subst h1
      have h4 := h3 e he
      rcases hnew e hu with h5 | h5
      · omega
      · exact h4.2 h5
    by_cases e1 : j = i
    · by_cases e2 : j' = i
      · omega
      · subst e1
        rw [List.getElem?_set_self (by omega)] at hx
        injection hx with hx
        subst hx
        exact absurd he (new j' x' hj' e2 hx' he')
    · by_cases e2 : j' = i
      · subst e2
        rw [List.getElem?_set_self (by omega)] at hx'
        injection hx' with hx'
        subst hx'
        exact absurd he' (new j x hj e1 hx he)
      · rw [List.getElem?_set_ne (fun q => e1 q.symm)] at hx
        rw [List.getElem?_set_ne (fun q => e2 q.symm)] at hx'
        exact h.apart j j' x x' e (by omega) (by omega) hx hx' he he'
/-- Two rows are exchanged. -/
theorem MP.swap {g c : Nat} (h : MP base w (.slice (some ⟨g, 0, none⟩) N c) N N vs rows) {i j : Nat} {u x : Value} (hi : i < N) (hj : j < N) (hne : i ≠ j) (hu : vs[i]? = some u) (hx : vs[j]? = some x) :
    MP base ((w.setCell ⟨g, i, none⟩ x).setCell ⟨g, j, none⟩ u) (.slice (some ⟨g, 0, none⟩) N c) N N ((vs.set i x).set j u) (swR rows i j) := by
  have hvl := h.vlen
  have hl := h.len
  have s1 := World.ownsRow.stored h.head i x
  have s2 := World.ownsRow.stored s1.1 j u
  have hg := grown_trans s1.2 s2.2
  have keep : ∀ {q : Nat} {y : Value}, q < N → vs[q]? = some y → ((w.setCell ⟨g, i, none⟩ x).setCell ⟨g, j, none⟩ u).ownsRow base 22 1 y (ro rows q).length ((ro rows q).map (Value.int .u64)) := fun {q y} hq hy =>
    World.ownsRow.kept (h.own hq hy) hg (by
      cases hb : y.ownBlock with
      | none => exact .inl rfl
      | some b => exact .inr fun e => h.far hq hy hb (by simpa [Value.ownBlock] using e.symm))
  have from_ : ∀ (q : Nat) (y : Value), ((vs.set i x).set j u)[q]? = some y → ∃ p, vs[p]? = some y ∧ ((q = j ∧ p = i) ∨ (q ≠ j ∧ q = i ∧ p = j) ∨ (q ≠ j ∧ q ≠ i ∧ p = q)) := fun q y hy => by
    by_cases e1 : q = j
    · subst e1
      rw [List.getElem?_set_self (by rw [List.length_set]; omega)] at hy
      injection hy with hy
      subst hy
      exact ⟨i, hu, .inl ⟨rfl, rfl⟩⟩
    · rw [List.getElem?_set_ne (fun e => e1 e.symm)] at hy
      by_cases e2 : q = i
      · subst e2
        rw [List.getElem?_set_self (by omega)] at hy
        injection hy with hy
        subst hy
        exact ⟨j, hx, .inr (.inl ⟨e1, rfl, rfl⟩)⟩
      · rw [List.getElem?_set_ne (fun e => e2 e.symm)] at hy
        exact ⟨q, hy, .inr (.inr ⟨e1, e2, rfl⟩)⟩
  refine ⟨s2.1, by rw [swR_len]; exact hl, Nat.le_refl _, fun q hq => ?_, fun q q' y y' e hq hq' hy hy' he he' => ?_⟩
  · unfold swR
    rw [ro_set (by rw [List.length_set]; omega)]
    by_cases e1 : q = j
    · subst e1
      rw [if_pos rfl]
      exact ⟨u, List.getElem?_set_self (by rw [List.length_set]; omega), keep hi hu⟩
    · rw [if_neg e1, ro_set (by omega), List.getElem?_set_ne (fun e => e1 e.symm)]
      by_cases e2 : q = i
      · subst e2
        rw [if_pos rfl]
        exact ⟨x, List.getElem?_set_self (by omega), keep hj hx⟩
      · rw [if_neg e2, List.getElem?_set_ne (fun e => e2 e.symm)]
        obtain ⟨y, h1, _⟩ := h.row q hq
        exact ⟨y, h1, keep hq h1⟩
  · obtain ⟨p, h1, c1⟩ := from_ q y hy
    obtain ⟨p', h2, c2⟩ := from_ q' y' hy'
    have := h.apart p p' y y' e (by omega) (by omega) h1 h2 he he'
    omega
/-- It reads as a list of rows. -/
theorem MP.form (h : MP base w v N N vs rows) : ∃ A c, v = .slice A N c ∧ Sll w A c rows := by
  have hvl := h.vlen
  have hl := h.len
  rcases h.head.2 with ⟨rfl, h0⟩ | ⟨g, cap, cur, rfl, _, hh, hc, _, h3, h4⟩
  · have : rows = [] := List.eq_nil_of_length_eq_zero (by omega)
    subst this h0
    exact ⟨_, 0, rfl, Sll.nothing w⟩
  · refine ⟨some ⟨g, 0, .none⟩, cap, rfl, by omega, (fun h => by cases h), fun ad e _ => ?_⟩
    injection e with e
    subst e
    refine ⟨g, 0, rfl, heap_lt hh, fun j l hl' => ?_⟩
    have hj := (List.getElem?_eq_some_iff.1 hl').1
    obtain ⟨u, h5, h6⟩ := h.row j (by omega)
    rw [ro_at hl'] at h6
    obtain ⟨A, c, rfl, h7⟩ := own_form h6
    refine ⟨A, c, ?_, h7⟩
    rw [cell_of_row w g (0 + j) cur 23 (0, 0) hh, Nat.zero_add]
    rw [← h4, List.getElem?_take, if_pos (by omega), Array.getElem?_toList] at h5
    exact h5
/-- The slice that lies at its place. -/
theorem MP.sll {g c : Nat} (h : MP base w (.slice (some ⟨g, 0, none⟩) N c) N N vs rows) : Sll w (some ⟨g, 0, none⟩) c rows := by
  obtain ⟨A, c', e, h1⟩ := h.form
  injection e with e1 e2 e3
  subst e1 e3
  exact h1
theorem Sll.drop {A : Option Addr} {b off c : Nat} (h : Sll w A c rows) (hA : A = some ⟨b, off, none⟩) {q : Nat} (hq : q ≤ rows.length) : Sll w (some ⟨b, off + q, none⟩) (c - q) (rows.drop q) := by
  subst hA
  refine ⟨by rw [List.length_drop]; have := h.cap; omega, (fun e => by cases e), fun ad e hn => ?_⟩
  injection e with e
  subst e
  obtain ⟨b', off', e', hlt, hc⟩ := h.rd _ rfl (fun e => hn (by rw [e]; simp))
  injection e' with e1 e2
  subst e1 e2
  refine ⟨b, off + q, rfl, hlt, fun j r hr => ?_⟩
  rw [List.getElem?_drop] at hr
  obtain ⟨A', c', h1, h2⟩ := hc (q + j) r hr
  exact ⟨A', c', by rw [Nat.add_assoc]; exact h1, h2⟩
end
end Go.Proofs.YtkhiiiggmhncbaaGreat

/- columns, rectangular, square of package matrix (over slices.IndexFunc and ContainsFunc with the code's closures): they only read. Conditions: at most 1000 rows. -/
namespace Go.Proofs.YtkhiiiggmhncbaaGreat
set_option maxRecDepth 100000
open Go.RowKit PolyMath FieldMath MatMath

/-- The columns of the first row. -/
def ncol (R : List (List Int)) : Nat := (ro R 0).length
/-- All rows are as long as the first. -/
def rect (R : List (List Int)) : Bool := !(R.findIdx? fun r => r.length != ncol R).isSome
theorem rect_iff {R : List (List Int)} : rect R = true ↔ ∀ i, i < R.length → (ro R i).length = ncol R := by
  unfold rect
  rw [Bool.not_eq_true', Option.isSome_eq_false_iff, Option.isNone_iff_eq_none, List.findIdx?_eq_none_iff]
  constructor
  · intro h i hi
    have := h _ (List.mem_of_getElem? (ro_get hi))
    simpa using this
  · intro h r hr
    obtain ⟨i, hi⟩ := List.mem_iff_getElem?.1 hr
    have := h i (List.getElem?_eq_some_iff.1 hi).1
    rw [ro_at hi] at this
    simpa using this
def squ (R : List (List Int)) : Bool := decide (0 < R.length) && (R.length == ncol R) && rect R
theorem squ_iff {R : List (List Int)} : squ R = true ↔ 0 < R.length ∧ R.length = ncol R ∧ rect R = true := by
  unfold squ; rw [Bool.and_eq_true, Bool.and_eq_true, decide_eq_true_eq, beq_iff_eq, and_assoc]

/-- What IndexFunc answers. -/
def idxI : Option Nat → Int
  | none => -1
  | some b => b
/-- A function value that says of each row whether P holds. -/
def Tells (F : FuncId) (pt : Value) (P : List Int → Bool) (rows : List (List Int)) (w : World) : Prop :=
  ∀ i A' c', i < rows.length → Sl w A' c' (ro rows i) → Calls Tryz.prog F #[.slice A' (ro rows i).length c', pt] w fun e w' => e = .returned (.bool (P (ro rows i))) ∧ w = w'

end Go.Proofs.YtkhiiiggmhncbaaGreat

/- addMultiple and innerProduct of package matrix: a multiple of a row added to a row of the call's own, from a column on; the sum of products. Conditions: a supported prime, words of its field, rows of at most 1000 words. -/
namespace Go.Proofs.YtkhiiiggmhncbaaGreat
set_option maxRecDepth 100000
open Go.RowKit PolyMath FieldMath MatMath

theorem Sl.grownN {w w' : World} {A : Option Addr} {c : Nat} {xs : List Int} {row : Option Nat} (h : Sl w A c xs) (hg : w.grownBy w' row) (hr : xs ≠ [] → ∀ ad, A = some ad → some ad.block ≠ row) : Sl w' A c xs :=
  ⟨h.cap, h.nil, fun ad hA hn => by
    obtain ⟨b, off, rfl, hb, hc⟩ := h.rd ad hA hn
    exact ⟨b, off, rfl, Nat.lt_of_lt_of_le hb hg.size, fun j x hx => hg.cell (hc j x hx) (hr hn ⟨b, off, none⟩ hA)⟩⟩
/-- What a multiple of ts, laid at place o, makes of a word. -/
def addF (p f : Int) (xs ts : List Int) (o c : Nat) : Int := fadd p (co xs c) (fmul p f (co ts (c - o)))

/-- The sum of products. -/
def dot (p : Int) (a b : List Int) : Int := sg a.length (fun j => co a j * co b j) % p
theorem dot_bd {p : Int} (hp : 0 < p) (a b : List Int) : 0 ≤ dot p a b ∧ dot p a b < p := md _ _ hp

end Go.Proofs.YtkhiiiggmhncbaaGreat

/- cloneRows and unit of package matrix: a matrix of the call's own with the rows of one that came in; a row of the identity. Conditions: at most 1000 rows and columns. -/
namespace Go.Proofs.YtkhiiiggmhncbaaGreat
set_option maxRecDepth 100000
open Go.RowKit PolyMath FieldMath MatMath

/-- The headers that lie in a slice of slices. -/
def HeadsOf (w : World) (vs : List Value) (rows : List (List Int)) : Prop := ∀ j, j < rows.length → ∃ A' c', vs[j]? = some (.slice A' (ro rows j).length c') ∧ Sl w A' c' (ro rows j)
theorem Sll.vals {w : World} {ad : Addr} {c : Nat} {rows : List (List Int)} (h : Sll w (some ad) c rows) : ∃ vs : List Value, vs.length = rows.length ∧ (∀ j u, vs[j]? = some u → w.cell? (ad.add j) = some u) ∧ HeadsOf w vs rows := by
  by_cases h0 : rows = []
  · subst h0
    exact ⟨[], rfl, fun j u h => by simp at h, fun j h => absurd h (Nat.not_lt_zero _)⟩
  · obtain ⟨b, off, rfl, hb, hc⟩ := h.rd ad rfl h0
    have hc' : ∀ j, j < rows.length → ∃ A' c', w.cell? ⟨b, off + j, none⟩ = some (.slice A' (ro rows j).length c') ∧ Sl w A' c' (ro rows j) := fun j hj => hc j _ (ro_get hj)
    have hat : ∀ j, j < rows.length → ((List.range rows.length).map fun j => (w.cell? ⟨b, off + j, none⟩).getD (.slice none 0 0))[j]? = some ((w.cell? ⟨b, off + j, none⟩).getD (.slice none 0 0)) := fun j hj => by
      rw [List.getElem?_map, List.getElem?_range hj]; rfl
    refine ⟨(List.range rows.length).map fun j => (w.cell? ⟨b, off + j, none⟩).getD (.slice none 0 0), by simp, fun j u hu => ?_, fun j hj => ?_⟩
    · have hj : j < rows.length := by have := (List.getElem?_eq_some_iff.1 hu).1; simpa using this
      rw [hat j hj] at hu
      obtain ⟨A', c', h1, _⟩ := hc' j hj
      rw [h1] at hu
      rw [Addr.add_lit, h1]
      exact hu
    · obtain ⟨A', c', h1, h2⟩ := hc' j hj
      exact ⟨A', c', by rw [hat j hj, h1]; rfl, h2⟩
theorem HeadsOf.one {w : World} {vs : List Value} {rows : List (List Int)} (h : HeadsOf w vs rows) (hl : vs.length = rows.length) : ∀ u ∈ vs, u.oneCell' = true := fun u hu => by
  obtain ⟨j, hj⟩ := List.mem_iff_getElem?.1 hu
  obtain ⟨A', c', h1, _⟩ := h j (by have := (List.getElem?_eq_some_iff.1 hj).1; omega)
  rw [hj] at h1
  injection h1 with h1
  subst h1
  rfl
theorem own_litT (w : World) : Hid ((w.alloc (.cells #[] 23)).ownsRow w.heap.size 23 1 (.slice (some ⟨w.heap.size, 0, none⟩) 0 0) 0 []) := Lib.hid
  (by have := World.ownsRow_lit (base := w.heap.size) (e := 23) (size := 1) w #[] 0 (Nat.le_refl _) (by decide) (by simp); simpa using this)

/-- A call hands back a matrix of its own. -/
def MFresh (w : World) (e : Ending) (w' : World) (rows : List (List Int)) : Prop :=
  ∃ v vs, e = .returned v ∧ MP w.heap.size w' v rows.length rows.length vs rows ∧ Below w.heap.size w w'

theorem set_ro (rows : List (List Int)) (i : Nat) : rows.set i (ro rows i) = rows := by
  refine List.ext_getElem? fun j => ?_
  by_cases e : j = i
  · subst e
    by_cases h : j < rows.length
    · rw [List.getElem?_set_self h, ro_get h]
    · rw [List.getElem?_eq_none (by rw [List.length_set]; omega), List.getElem?_eq_none (by omega)]
  · rw [List.getElem?_set_ne (fun q => e q.symm)]

/-- A row of the identity. -/
def unitL (n i : Nat) : List Int := (List.replicate n (0 : Int)).set i 1
theorem unitL_len (n i : Nat) : (unitL n i).length = n := by unfold unitL; simp
end Go.Proofs.YtkhiiiggmhncbaaGreat

/- clearColumn of package matrix: the pivot's row divided by its entry, all other entries of the column made nought, in a matrix of the call's own. Conditions: a supported prime, rows of one length with words of its field, the pivot's row nought ahead of the column; at most 1000 rows and columns. -/
namespace Go.Proofs.YtkhiiiggmhncbaaGreat
set_option maxRecDepth 100000
open Go.RowKit PolyMath FieldMath MatMath

/-- Blocks below base, and blocks that hold no words, stay. -/
structure Kp (base : Nat) (w w' : World) : Prop where
  below : Below base w w'
  other : ∀ (b : Nat) (o : Obj), w.heap[b]? = some o → (∀ cur fz, o ≠ .cells cur 22 fz) → w'.heap[b]? = some o
section
variable {base : Nat} {w w' w'' : World}
theorem Kp.refl (base : Nat) (w : World) : Kp base w w := ⟨Below.refl _ _, fun _ _ h _ => h⟩
theorem Kp.trans (h : Kp base w w') (h' : Kp base w' w'') : Kp base w w'' := ⟨h.below.trans h'.below, fun b o h1 h2 => h'.other b o (h.other b o h1 h2) h2⟩
theorem Kp.of (h : Below w.heap.size w w') (hb : base ≤ w.heap.size) : Kp base w w' := ⟨h.mono hb, fun b o h1 _ => by rw [h.block b (heap_lt h1)]; exact h1⟩
theorem Kp.grown {g L cb : Nat} {xs : List Int} (ho : OwnAt w base g L cb xs) (hg : w.grownBy w' (some g)) (hb : base ≤ w.heap.size) : Kp base w w' :=
  ⟨(Below.refl _ w).grown hg hb (fun k e => by injection e with e; have := ho.lt.1; omega), fun b o h1 h2 => by
    rw [hg.block b (heap_lt h1) (fun e => by
      injection e with e
      subst e
      obtain ⟨cur, fz, h3⟩ := own_tag ho b rfl
      rw [h1] at h3
      injection h3 with h3
      exact h2 cur fz h3)]
    exact h1⟩
theorem Kp.box (h : Kp base w w') {B : Nat} {v : Value} (hb : Boxed w B 3 v) : Boxed w' B 3 v := h.other B _ hb (fun cur fz e => by cases e)
theorem Kp.own (h : Kp base w w') {base' n : Nat} {v : Value} {xs : List Value} (ho : w.ownsRow base' 3 1 v n xs) : w'.ownsRow base' 3 1 v n xs := by
  refine ⟨ho.1, ho.2.imp id ?_⟩
  rintro ⟨g, cap, cur, hv, h1, hh, r⟩
  exact ⟨g, cap, cur, hv, h1, h.other g _ hh (fun cur fz e => by cases e), r⟩
end
theorem Sl.drop {w : World} {b off c : Nat} {xs : List Int} (h : Sl w (some ⟨b, off, none⟩) c xs) (k : Nat) : Sl w (some ⟨b, off + k, none⟩) (c - k) (xs.drop k) := by
  refine ⟨by rw [List.length_drop]; have := h.cap; omega, (fun e => by cases e), fun ad e hn => ?_⟩
  injection e with e
  subst e
  obtain ⟨b', off', e', hlt, hc⟩ := h.rd _ rfl (fun e => hn (by rw [e]; simp))
  injection e' with e1 e2
  subst e1 e2
  refine ⟨b, off + k, rfl, hlt, fun j r hr => ?_⟩
  rw [List.getElem?_drop] at hr
  have := hc (k + j) r hr
  rw [Nat.add_assoc]; exact this
theorem co_drop (xs : List Int) (k c : Nat) : co (xs.drop k) c = co xs (k + c) := by unfold co; rw [List.getElem?_drop]
theorem El_drop {p : Int} {xs : List Int} (h : El p xs) (k : Nat) : El p (xs.drop k) := fun x hx => h x (List.mem_of_mem_drop hx)
theorem mixO_congr {f g : Nat → Int} {o n : Nat} {xs : List Int} (h : ∀ c, o ≤ c → c < o + n → f c = g c) : mixO f o n xs = mixO g o n xs := map_ext fun c _ => by
  by_cases e : o ≤ c ∧ c < o + n
  · rw [if_pos e, if_pos e, h c e.1 e.2]
  · rw [if_neg e, if_neg e]

/-- What clearColumn leaves. -/
def Cleared (base : Nat) (g c N : Nat) (vs : List Value) (R : List (List Int)) (w w' : World) : Prop :=
  MP base w' (.slice (some ⟨g, 0, none⟩) N c) N N vs R ∧ Kp base w w'

end Go.Proofs.YtkhiiiggmhncbaaGreat

/- eliminate of package matrix: elimination in the first columns of a matrix of the call's own. Conditions: a supported prime, rows of one length with words of its field; at most 1000 rows and columns. -/
namespace Go.Proofs.YtkhiiiggmhncbaaGreat
set_option maxRecDepth 100000
open Go.RowKit PolyMath FieldMath MatMath

theorem row_form {w : World} {base t n : Nat} {v : Value} {xs : List Value} (h : w.ownsRow base t 1 v n xs) : ∃ A c, v = .slice A n c := by
  rcases h.2 with ⟨rfl, h0⟩ | ⟨g, cap, cur, rfl, _⟩
  · subst h0; exact ⟨_, _, rfl⟩
  · exact ⟨_, _, rfl⟩
/-- A row of numbers grows: the matrix stays. -/
theorem MP.other {base base' N k n : Nat} {w w' : World} {v u : Value} {vs xs : List Value} {rows : List (List Int)} (h : MP base w v N k vs rows) (ho : w.ownsRow base' 3 1 u n xs) (hg : w.grownBy w' u.ownBlock) : MP base w' v N k vs rows := by
  have far : ∀ {t m : Nat} {x : Value} {ys : List Value}, t ≠ 3 → w.ownsRow base t 1 x m ys → x.ownBlock = none ∨ x.ownBlock ≠ u.ownBlock := fun {t m x ys} ht hx => by
    cases hq : x.ownBlock with
    | none => exact .inl rfl
    | some b =>
      refine .inr fun e => ?_
      obtain ⟨c1, f1, t1⟩ := own_tag hx b hq
      obtain ⟨c2, f2, t2⟩ := own_tag ho b e.symm
      rw [t1] at t2
      injection t2 with t2
      injection t2 with _ t2 _
      exact ht t2
  refine ⟨World.ownsRow.kept h.head hg (far (by decide) h.head), h.len, h.le, fun i hi => ?_, h.apart⟩
  obtain ⟨x, h1, h2⟩ := h.row i hi
  exact ⟨x, h1, World.ownsRow.kept h2 hg (far (by decide) h2)⟩

theorem mx_swR {R : List (List Int)} {i j : Nat} (hi : i < R.length) (hj : j < R.length) (hne : i ≠ j) (c : Nat) : mx (swR R i j) i c = mx R j c := by
  rw [mx_ro, mx_ro]; unfold swR
  rw [ro_set (by rw [List.length_set]; exact hj), if_neg hne, ro_set hi, if_pos rfl]
/-- The pivots as values. -/
def pvs (pv : List Nat) : List Value := pv.map fun n : Nat => Value.int .i64 (n : Int)
theorem pvs_len (pv : List Nat) : (pvs pv).length = pv.length := by unfold pvs; simp
theorem pvs_snoc (pv : List Nat) (k : Nat) : pvs (pv ++ [k]) = pvs pv ++ [.int .i64 (k : Int)] := by unfold pvs; rw [List.map_append]; rfl

/-- What eliminate leaves. -/
def Elimd (p : Int) (base g c N : Nat) (A : List (List Int)) (k : Nat) (w : World) (e : Ending) (w' : World) : Prop :=
  ∃ pvv vs, e = .returned (.tuple #[pvv, .int .u64 (elim p A k).d]) ∧ MP base w' (.slice (some ⟨g, 0, none⟩) N c) N N vs (elim p A k).R ∧ w'.ownsRow base 3 1 pvv (elim p A k).pv.length (pvs (elim p A k).pv) ∧ Below base w w'

theorem plc_bd {p d : Int} (hp : 0 < p) (b : Nat) (h : 0 ≤ d ∧ d < p) : 0 ≤ (if b = 0 then d else fneg p d) ∧ (if b = 0 then d else fneg p d) < p := by
  split
  · exact h
  · exact fneg_bd p d hp

end Go.Proofs.YtkhiiiggmhncbaaGreat

/- Rank and Det of package matrix, by elimination on a clone. Nothing that lay is changed. Conditions: a supported prime, words of its field, at most 100 rows and columns. -/
namespace Go.Proofs.YtkhiiiggmhncbaaGreat
set_option maxRecDepth 100000
open Go.RowKit PolyMath FieldMath MatMath

theorem mat_of {p : Int} {rows : List (List Int)} (hr : rect rows = true) (hE : ∀ r ∈ rows, El p r) : Mat p rows.length (ncol rows) rows :=
  .of rfl fun i hi => ⟨rect_iff.1 hr i hi, hE _ (List.mem_of_getElem? (ro_get hi))⟩
theorem ncol_pos {rows : List (List Int)} (h : 0 < ncol rows) : 0 < rows.length := by
  unfold ncol at h
  cases rows with
  | nil => exact absurd h (Nat.lt_irrefl 0)
  | cons r rs => exact Nat.succ_pos _
/-- At most 100 rows of at most 100 words. -/
def Sized (rows : List (List Int)) : Prop := rows.length ≤ 100 ∧ ∀ i, (ro rows i).length ≤ 100
theorem Sized.of {rows : List (List Int)} (h1 : rows.length ≤ 100) (h2 : ∀ r ∈ rows, r.length ≤ 100) : Sized rows := ⟨h1, fun i => by
  by_cases h : i < rows.length
  · exact h2 _ (List.mem_of_getElem? (ro_get h))
  · unfold ro; rw [List.getElem?_eq_none (by omega)]; exact Nat.zero_le _⟩

/-- The rank. -/
def rnk (p : Int) (rows : List (List Int)) : Nat := (elim p rows (ncol rows)).pv.length

/-- The determinant. -/
def dtm (p : Int) (rows : List (List Int)) : Int := if (elim p rows rows.length).pv.length < rows.length then 0 else (elim p rows rows.length).d

end Go.Proofs.YtkhiiiggmhncbaaGreat

/- Mul and Apply of package matrix. Nothing that lay is changed. Conditions: a supported prime, words of its field, at most 100 rows and columns. -/
namespace Go.Proofs.YtkhiiiggmhncbaaGreat
set_option maxRecDepth 100000
open Go.RowKit PolyMath FieldMath MatMath

theorem mixO_all (f : Nat → Int) (xs : List Int) : mixO f 0 xs.length xs = (List.range xs.length).map f := map_ext fun c hc => by rw [if_pos ⟨Nat.zero_le _, by omega⟩]
theorem mixO_get0 (f : Nat → Int) {n : Nat} (xs : List Int) (h : n < xs.length) : ∃ y, (mixO f 0 n xs)[n]? = some y := ⟨_, mixO_get f 0 n xs h⟩
theorem mixO_set0 (f : Nat → Int) (n : Nat) (xs : List Int) : (mixO f 0 n xs).set n (f n) = mixO f 0 (n + 1) xs := by have := mixO_set f 0 n xs; rwa [Nat.zero_add] at this

/-- A matrix applied to a vector. -/
def app (p : Int) (rows : List (List Int)) (v : List Int) : List Int := (List.range rows.length).map fun i => dot p (ro rows i) v
theorem app_len (p : Int) (rows : List (List Int)) (v : List Int) : (app p rows v).length = rows.length := by unfold app; simp
theorem app_el {p : Int} (hp : 0 < p) (rows : List (List Int)) (v : List Int) : El p (app p rows v) := fun x hx => by
  unfold app at hx
  obtain ⟨i, _, rfl⟩ := List.mem_map.1 hx
  exact dot_bd hp _ _

/-- A call hands back words and no error. -/
def RowE (w : World) (e : Ending) (w' : World) (ys : List Int) : Prop :=
  ∃ A c, e = .returned (.tuple #[.slice A ys.length c, .int .i64 0]) ∧ Sl w' A c ys ∧ Below w.heap.size w w'
/-- .. a matrix and no error. -/
def MatE (w : World) (e : Ending) (w' : World) (ys : List (List Int)) : Prop :=
  ∃ A c, e = .returned (.tuple #[.slice A ys.length c, .int .i64 0]) ∧ Sll w' A c ys ∧ Below w.heap.size w w'

/-- The product. -/
def mulM (p : Int) (A B : List (List Int)) : List (List Int) := (List.range A.length).map fun i => (List.range (ncol B)).map fun c => sg (ro A i).length (fun j => co (ro A i) j * mx B j c) % p
/-- A row of it, made of the first j rows of B. -/
def mulR (p : Int) (a : List Int) (B : List (List Int)) (n j : Nat) : List Int := (List.range n).map fun c => sg j (fun t => co a t * mx B t c) % p
theorem mulM_len (p : Int) (A B : List (List Int)) : (mulM p A B).length = A.length := by unfold mulM; simp
theorem mulM_ro (p : Int) {A : List (List Int)} (B : List (List Int)) {i : Nat} (h : i < A.length) : ro (mulM p A B) i = mulR p (ro A i) B (ncol B) (ro A i).length := ro_map _ h
theorem mulR_len (p : Int) (a : List Int) (B : List (List Int)) (n j : Nat) : (mulR p a B n j).length = n := by unfold mulR; simp
theorem mulR_el {p : Int} (hp : 0 < p) (a : List Int) (B : List (List Int)) (n j : Nat) : El p (mulR p a B n j) := fun x hx => by
  unfold mulR at hx
  obtain ⟨i, _, rfl⟩ := List.mem_map.1 hx
  exact md _ _ hp
theorem mulR_zero (p : Int) (a : List Int) (B : List (List Int)) (n : Nat) : mulR p a B n 0 = List.replicate n 0 := by
  rw [← map_zero p]; rfl
theorem mulR_next (p : Int) (a : List Int) {B : List (List Int)} {n j : Nat} : mixO (addF p (co a j) (mulR p a B n j) (ro B j) 0) 0 n (mulR p a B n j) = mulR p a B n (j + 1) := by
  have hl := mulR_len p a B n j
  have h1 := mixO_all (addF p (co a j) (mulR p a B n j) (ro B j) 0) (mulR p a B n j)
  rw [hl] at h1
  rw [h1]
  refine map_ext fun c hc => ?_
  unfold addF
  have h2 : co (mulR p a B n j) c = sg j (fun t => co a t * mx B t c) % p := by unfold mulR; rw [co_map, if_pos hc]
  rw [h2, fadd_mod, sg_succ, Nat.sub_zero]; rfl
theorem mulM_mat {p : Int} (hp : 0 < p) (A B : List (List Int)) : Mat p A.length (ncol B) (mulM p A B) := .of (mulM_len p A B) fun i hi => by
  rw [mulM_ro p B hi]; exact ⟨mulR_len _ _ _ _ _, mulR_el hp _ _ _ _⟩
/-- The rows made so far. -/
def mulP (p : Int) (A B : List (List Int)) (k : Nat) : List (List Int) := (List.range A.length).map fun i => if i < k then ro (mulM p A B) i else []
theorem mulP_len (p : Int) (A B : List (List Int)) (k : Nat) : (mulP p A B k).length = A.length := by unfold mulP; simp
theorem mulP_next (p : Int) (A B : List (List Int)) {k : Nat} (hk : k < A.length) : (mulP p A B k).set k (ro (mulM p A B) k) = mulP p A B (k + 1) :=
  rows_ext (by rw [List.length_set, mulP_len, mulP_len]) fun i hi => by
    rw [List.length_set, mulP_len] at hi
    rw [ro_set (by rw [mulP_len]; exact hk)]
    unfold mulP
    rw [ro_map _ hi, ro_map _ hi]
    by_cases e : i = k
    · subst e; rw [if_pos rfl, if_pos (by omega)]
    · rw [if_neg e]
      by_cases h : i < k
      · rw [if_pos h, if_pos (by omega)]
      · rw [if_neg h, if_neg (by omega)]
theorem mulP_done (p : Int) (A B : List (List Int)) : mulP p A B A.length = mulM p A B := rows_ext (by rw [mulP_len, mulM_len]) fun i hi => by
  rw [mulP_len] at hi
  unfold mulP
  rw [ro_map _ hi, if_pos hi]
/-- Rows that are all nil. -/
theorem MP.nils {base N : Nat} {w : World} {v : Value} {rows : List (List Int)} (h : w.ownsRow base 23 1 v N (List.replicate N (.slice none 0 0))) (hl : rows.length = N) (hr : ∀ i, ro rows i = []) : MP base w v N N (List.replicate N (.slice none 0 0)) rows := by
  refine ⟨h, hl, Nat.le_refl _, fun i hi => ⟨_, by rw [List.getElem?_replicate, if_pos hi], ?_⟩, fun i j u x e hi hj hu hx he he' => ?_⟩
  · rw [hr i]; exact World.ownsRow_nil _ _ _ _
  · rw [List.getElem?_replicate, if_pos hi] at hu
    injection hu with hu
    subst hu
    cases he
theorem mulP_zero (p : Int) (A B : List (List Int)) (i : Nat) : ro (mulP p A B 0) i = [] := by
  unfold mulP
  by_cases h : i < A.length
  · rw [ro_map _ h, if_neg (by omega)]
  · unfold ro; rw [List.getElem?_eq_none (by simpa using h)]; rfl
end Go.Proofs.YtkhiiiggmhncbaaGreat

/- Mul of package matrix. Nothing that lay is changed. Conditions: a supported prime, words of its field, at most 100 rows and columns. -/
namespace Go.Proofs.YtkhiiiggmhncbaaGreat
set_option maxRecDepth 100000
open Go.RowKit PolyMath FieldMath MatMath

end Go.Proofs.YtkhiiiggmhncbaaGreat

/- Solve of package matrix: the basic solution, by elimination on a clone with one more column. Nothing that lay is changed. Conditions: a supported prime, words of its field, at most 100 rows and columns. -/
namespace Go.Proofs.YtkhiiiggmhncbaaGreat
set_option maxRecDepth 100000
open Go.RowKit PolyMath FieldMath MatMath

/-- The rows with one word more. -/
def augK (A : List (List Int)) (b : List Int) (k : Nat) : List (List Int) := (List.range A.length).map fun i => if i < k then ro A i ++ [co b i] else ro A i
def augL (A : List (List Int)) (b : List Int) : List (List Int) := augK A b A.length
theorem augK_len (A : List (List Int)) (b : List Int) (k : Nat) : (augK A b k).length = A.length := by unfold augK; simp
theorem augK_ro {A : List (List Int)} (b : List Int) (k : Nat) {i : Nat} (h : i < A.length) : ro (augK A b k) i = if i < k then ro A i ++ [co b i] else ro A i := ro_map _ h
theorem augK_zero (A : List (List Int)) (b : List Int) : augK A b 0 = A := rows_ext (augK_len A b 0) fun i hi => by
  rw [augK_len] at hi
  rw [augK_ro b 0 hi, if_neg (by omega)]
theorem augK_next {A : List (List Int)} {b : List Int} {k : Nat} (hk : k < A.length) : (augK A b k).set k (ro A k ++ [co b k]) = augK A b (k + 1) :=
  rows_ext (by rw [List.length_set, augK_len, augK_len]) fun i hi => by
    rw [List.length_set, augK_len] at hi
    rw [ro_set (by rw [augK_len]; exact hk), augK_ro b _ hi, augK_ro b _ hi]
    by_cases e : i = k
    · subst e; rw [if_pos rfl, if_pos (by omega)]
    · rw [if_neg e]
      by_cases h : i < k
      · rw [if_pos h, if_pos (by omega)]
      · rw [if_neg h, if_neg (by omega)]
theorem augL_mat {p : Int} {N L : Nat} {A : List (List Int)} {b : List Int} (hp : 0 < p) (hA : Mat p N L A) (hb : El p b) : Mat p N (L + 1) (augL A b) := .of (by unfold augL; rw [augK_len]; exact hA.rows) fun i hi => by
  have hi' : i < A.length := by rw [hA.rows]; exact hi
  unfold augL
  rw [augK_ro b _ hi', if_pos hi']
  refine ⟨by rw [List.length_append, (hA.ro hi).1]; rfl, fun x hx => ?_⟩
  rcases List.mem_append.1 hx with h | h
  · exact (hA.ro hi).2 x h
  · rw [List.mem_singleton] at h; subst h; exact hb.co hp i
/-- The solution, pivot by pivot. -/
def solF (S : ES) (n : Nat) : Nat → List Int
  | 0 => List.replicate n 0
  | i + 1 => (solF S n i).set (S.pv.getD i 0) (mx S.R i n)
theorem solF_len (S : ES) (n : Nat) : ∀ i, (solF S n i).length = n
  | 0 => List.length_replicate
  | i + 1 => by show ((solF S n i).set _ _).length = n; rw [List.length_set, solF_len S n i]
/-- What Solve hands back. -/
def slv (p : Int) (A : List (List Int)) (b : List Int) : Option (List Int) :=
  if (fnd (elim p (augL A b) (ncol A)).R (elim p (augL A b) (ncol A)).pv.length (ncol A)).isSome = true then none else some (solF (elim p (augL A b) (ncol A)) (ncol A) (elim p (augL A b) (ncol A)).pv.length)

/-- What Solve hands back, in memory. -/
def SolE (p : Int) (A : List (List Int)) (b : List Int) (w : World) (e : Ending) (w' : World) : Prop :=
  (∃ x, slv p A b = some x ∧ RowE w e w' x) ∨ (slv p A b = none ∧ e = .returned (.tuple #[.slice none 0 0, .int .i64 6]) ∧ Below w.heap.size w w')

/-- The numbers in a row of numbers. -/
theorem rowI_cell {w : World} {base q c : Nat} {A : Option Addr} {pv : List Nat} (h : w.ownsRow base 3 1 (.slice A q c) q (pvs pv)) {k : Nat} (hk : k < q) : ∃ g, A = some ⟨g, 0, none⟩ ∧ g < w.heap.size ∧ w.cell? ⟨g, k, none⟩ = some (.int .i64 (pv.getD k 0 : Nat)) := by
  obtain ⟨g, cg, e, _, hlt⟩ := World.ownsRow.form h (by omega)
  injection e with e1 e2 e3
  subst e1 e3
  refine ⟨g, rfl, hlt, (World.ownsRow.cellAt h k (by omega)).trans ?_⟩
  have hl : pv.length = q := by have := h.1; rw [pvs_len] at this; omega
  unfold pvs
  rw [List.getElem?_map, List.getD_eq_getElem?_getD, List.getElem?_eq_getElem (by omega)]; rfl

end Go.Proofs.YtkhiiiggmhncbaaGreat

/- Inverse of package matrix, by elimination on a clone with the identity behind it. Nothing that lay is changed. Conditions: a supported prime, words of its field, at most 100 rows and columns. -/
namespace Go.Proofs.YtkhiiiggmhncbaaGreat
set_option maxRecDepth 100000
open Go.RowKit PolyMath FieldMath MatMath

/-- The rows with the identity behind them. -/
def agiK (A : List (List Int)) (k : Nat) : List (List Int) := (List.range A.length).map fun i => if i < k then ro A i ++ unitL A.length i else ro A i
def agiL (A : List (List Int)) : List (List Int) := agiK A A.length
theorem agiK_len (A : List (List Int)) (k : Nat) : (agiK A k).length = A.length := by unfold agiK; simp
theorem agiK_ro {A : List (List Int)} (k : Nat) {i : Nat} (h : i < A.length) : ro (agiK A k) i = if i < k then ro A i ++ unitL A.length i else ro A i := ro_map _ h
theorem agiK_zero (A : List (List Int)) : agiK A 0 = A := rows_ext (agiK_len A 0) fun i hi => by
  rw [agiK_len] at hi
  rw [agiK_ro 0 hi, if_neg (by omega)]
theorem agiK_next {A : List (List Int)} {k : Nat} (hk : k < A.length) : (agiK A k).set k (ro A k ++ unitL A.length k) = agiK A (k + 1) :=
  rows_ext (by rw [List.length_set, agiK_len, agiK_len]) fun i hi => by
    rw [List.length_set, agiK_len] at hi
    rw [ro_set (by rw [agiK_len]; exact hk), agiK_ro _ hi, agiK_ro _ hi]
    by_cases e : i = k
    · subst e; rw [if_pos rfl, if_pos (by omega)]
    · rw [if_neg e]
      by_cases h : i < k
      · rw [if_pos h, if_pos (by omega)]
      · rw [if_neg h, if_neg (by omega)]
theorem unitL_el {p : Int} (hp : 1 < p) (n i : Nat) : El p (unitL n i) := fun x hx => by
  unfold unitL at hx
  rcases List.mem_or_eq_of_mem_set hx with h | h
  · have := List.eq_of_mem_replicate h; omega
  · omega
theorem agiL_mat {p : Int} {N : Nat} {A : List (List Int)} (hp : 1 < p) (hA : Mat p N N A) : Mat p N (N + N) (agiL A) := .of (by unfold agiL; rw [agiK_len]; exact hA.rows) fun i hi => by
  have hi' : i < A.length := by rw [hA.rows]; exact hi
  unfold agiL
  rw [agiK_ro _ hi', if_pos hi']
  refine ⟨by rw [List.length_append, (hA.ro hi).1, unitL_len, hA.rows], fun x hx => ?_⟩
  rcases List.mem_append.1 hx with h | h
  · exact (hA.ro hi).2 x h
  · exact unitL_el hp _ _ x h
/-- What Inverse hands back. -/
def invM (p : Int) (A : List (List Int)) : Option (List (List Int)) :=
  if (elim p (agiL A) A.length).pv.length < A.length then none else some ((elim p (agiL A) A.length).R.map fun r => r.drop A.length)
def InvE (p : Int) (A : List (List Int)) (w : World) (e : Ending) (w' : World) : Prop :=
  (∃ X, invM p A = some X ∧ MatE w e w' X) ∨ (invM p A = none ∧ e = .returned (.tuple #[.slice none 0 0, .int .i64 8]) ∧ Below w.heap.size w w')

end Go.Proofs.YtkhiiiggmhncbaaGreat
