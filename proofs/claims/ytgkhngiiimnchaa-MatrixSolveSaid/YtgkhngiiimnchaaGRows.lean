/- No Go: lists of rows as matrices; a row divided, a multiple of a row subtracted, two rows exchanged, as row operations. No conditions. -/
import Derived.Test.YtgkhngiiimnchaaGRank
namespace MatMath
open FieldMath PolyMath

/-- The entries of a list of rows. -/
def mx (rows : List (List Int)) (r c : Nat) : Int := co (rows[r]?.getD []) c
theorem mx_at {rows : List (List Int)} {i : Nat} {r : List Int} (h : rows[i]? = some r) (c : Nat) : mx rows i c = co r c := by unfold mx; rw [h]; rfl
theorem mx_set {rows : List (List Int)} {i : Nat} (hi : i < rows.length) (s : List Int) : mx (rows.set i s) = upd (mx rows) i (co s) := by
  funext r c
  unfold mx upd
  by_cases e : r = i
  · subst e; rw [List.getElem?_set_self hi, if_pos rfl]; rfl
  · rw [List.getElem?_set_ne (fun q => e q.symm), if_neg e]

/-- A row times k. -/
def sclR (p k : Int) (r : List Int) : List Int := r.map fun x => fmul p x k
theorem sclR_len (p k : Int) (r : List Int) : (sclR p k r).length = r.length := by unfold sclR; simp
theorem co_sclR (p k : Int) (r : List Int) (c : Nat) : co (sclR p k r) c = fmul p (co r c) k := by
  unfold sclR co
  rw [List.getElem?_map]
  cases r[c]? with
  | none => show (0 : Int) = fmul p 0 k; unfold fmul; rw [Int.zero_mul, Int.zero_emod]
  | some x => rfl
/-- A row less f times another. -/
def subR (p f : Int) (r s : List Int) : List Int := (List.range r.length).map fun c => fsub p (co r c) (fmul p f (co s c))
theorem subR_len (p f : Int) (r s : List Int) : (subR p f r s).length = r.length := by unfold subR; simp
theorem co_subR (p f : Int) {r s : List Int} (h : r.length = s.length) (c : Nat) : co (subR p f r s) c = fsub p (co r c) (fmul p f (co s c)) := by
  unfold subR
  rw [co_map]
  by_cases e : c < r.length
  · rw [if_pos e]
  · rw [if_neg e, co_fin r c (by omega), co_fin s c (by omega)]
    unfold fsub fmul
    rw [Int.mul_zero, Int.zero_emod, Int.sub_self, Int.zero_emod]

theorem RE.one {p : Int} {m : Nat} {d : Int} {A B C : Nat → Nat → Int} (h : RE p m d A B) (e : ∀ r c, r < m → B r c % p = C r c % p) : RE p m d A C := by
  have := RE.trans h (.same e)
  rwa [Int.one_mul] at this
theorem re_scale {p k k' : Int} {rows : List (List Int)} {i : Nat} {r : List Int} (h : rows[i]? = some r) (hk : k' * k % p = 1) : RE p rows.length k (mx rows) (mx (rows.set i (sclR p k r))) := by
  have hi := (List.getElem?_eq_some_iff.1 h).1
  refine RE.one (.scale (k := k) (k' := k') hi hk) fun q c _ => ?_
  rw [mx_set hi]
  unfold upd
  by_cases e : q = i
  · rw [if_pos e, if_pos e, co_sclR]
    show k * mx rows i c % p = _
    rw [mx_at h]
    unfold fmul
    rw [mdd, Int.mul_comm]
  · rw [if_neg e, if_neg e]
theorem re_sub {p f : Int} {rows : List (List Int)} {i q : Nat} {r s : List Int} (hr : rows[i]? = some r) (hs : rows[q]? = some s) (hl : r.length = s.length) (hne : q ≠ i) : RE p rows.length 1 (mx rows) (mx (rows.set i (subR p f r s))) := by
  have hi := (List.getElem?_eq_some_iff.1 hr).1
  have hq := (List.getElem?_eq_some_iff.1 hs).1
  refine RE.one (.add (r := q) (s := i) (k := -f) hq hi hne) fun t c _ => ?_
  rw [mx_set hi]
  unfold upd
  by_cases e : t = i
  · rw [if_pos e, if_pos e, co_subR p f hl]
    show (mx rows i c + -f * mx rows q c) % p = _
    rw [mx_at hr, mx_at hs]
    unfold fsub fmul
    rw [mdd, Int.neg_mul, ms (a := co r c) rfl (mdd p (f * co s c))]
    rfl
  · rw [if_neg e, if_neg e]
theorem mx_swap {rows : List (List Int)} {i k : Nat} {r s : List Int} (hr : rows[i]? = some r) (hs : rows[k]? = some s) : mx ((rows.set i s).set k r) = upd (upd (mx rows) i (mx rows k)) k (mx rows i) := by
  have hi := (List.getElem?_eq_some_iff.1 hr).1
  have hk := (List.getElem?_eq_some_iff.1 hs).1
  rw [mx_set (by rw [List.length_set]; exact hk), mx_set hi]
  have e1 : mx rows k = co s := by funext c; exact mx_at hs c
  have e2 : mx rows i = co r := by funext c; exact mx_at hr c
  rw [e1, e2]
theorem re_swap {p : Int} {rows : List (List Int)} {i k : Nat} {r s : List Int} (hr : rows[i]? = some r) (hs : rows[k]? = some s) (hne : i ≠ k) : RE p rows.length (-1) (mx rows) (mx ((rows.set i s).set k r)) := by
  rw [mx_swap hr hs]
  exact .swap (List.getElem?_eq_some_iff.1 hr).1 (List.getElem?_eq_some_iff.1 hs).1 hne
end MatMath
