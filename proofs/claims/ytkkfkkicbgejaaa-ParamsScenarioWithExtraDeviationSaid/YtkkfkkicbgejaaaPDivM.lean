/- Plain facts for a division that goes over the quotient's places from the top, with no Go in sight. No conditions but those said. -/
import Derived.Test.YtkkfkkicbgejaaaPStep
namespace PolyMath
open FieldMath

/-- The remainder's words while the first k words of b, times c, are being taken away at place i. -/
def remL (p : Int) (rs b : List Int) (c : Int) (i M k : Nat) : List Int := (List.range M).map fun n => remAt (co rs) (co b) c i k n % p
theorem remL_len (p : Int) (rs b : List Int) (c : Int) (i M k : Nat) : (remL p rs b c i M k).length = M := by unfold remL; simp
theorem remL_start {p : Int} (hp : 0 < p) {rs : List Int} (h : El p rs) (b : List Int) (c : Int) (i : Nat) : remL p rs b c i rs.length 0 = rs := by
  conv => rhs; rw [← list_map rs]
  exact map_ext fun n _ => by rw [remAt_zero, h.cm hp]
theorem remL_get (p : Int) (rs b : List Int) (c : Int) (i M k n : Nat) (h : n < M) : (remL p rs b c i M k)[n]? = some (remAt (co rs) (co b) c i k n % p) := map_get (fun n => remAt (co rs) (co b) c i k n % p) h
theorem remL_set (p : Int) (rs b : List Int) (c : Int) (i M k : Nat) : (remL p rs b c i M k).set (i + k) (fsub p (remAt (co rs) (co b) c i k (i + k) % p) (fmul p c (co b k))) = remL p rs b c i M (k + 1) :=
  map_set M (i + k) (by rw [remAt_here, fsub_mod]) fun n hn => by rw [remAt_else _ _ _ _ _ _ hn]
theorem remL_el {p : Int} (hp : 0 < p) (rs b : List Int) (c : Int) (i M k : Nat) : El p (remL p rs b c i M k) := by
  intro x hx
  obtain ⟨n, _, rfl⟩ := List.mem_map.1 hx
  exact md _ _ hp
theorem co_remL (p : Int) (rs b : List Int) (c : Int) (i M k n : Nat) : co (remL p rs b c i M k) n = if n < M then remAt (co rs) (co b) c i k n % p else 0 := co_map _ _ _

theorem co_set (xs : List Int) (i : Nat) (c : Int) (h : i < xs.length) (n : Nat) : co (xs.set i c) n = if n = i then c else co xs n := by
  unfold co
  rw [List.getElem?_set]
  by_cases e : n = i
  · subst e; rw [if_pos rfl, if_pos h, if_pos rfl]; rfl
  · rw [if_neg (fun h => e h.symm), if_neg e]
theorem el_set {p c : Int} {xs : List Int} (h : El p xs) (hc : 0 ≤ c ∧ c < p) (i : Nat) : El p (xs.set i c) := by
  intro x hx
  rcases List.mem_or_eq_of_mem_set hx with h1 | h1
  · exact h x h1
  · rw [h1]; exact hc
theorem el_zeros {p : Int} (hp : 0 < p) (N : Nat) : El p (List.replicate N 0) := by
  intro x hx; have := (List.mem_replicate.1 hx).2; omega
theorem co_zeros (N n : Nat) : co (List.replicate N 0) n = 0 := by
  unfold co; rw [List.getElem?_replicate]; split <;> rfl

/-- The quotient and the remainder behind k rounds; d: the degree of b; N: the number of rounds. -/
structure DivInv (p : Int) (a b : List Int) (N d k : Nat) (qs rs : List Int) : Prop where
  eq : ∀ n, (conv (co qs) (co b) n + co rs n) % p = co a n % p
  low : ∀ n, n < N - k → co qs n = 0
  top : ∀ n, N - k + d ≤ n → co rs n = 0

theorem DivInv.start {p : Int} {a b : List Int} {N d : Nat} (hN : tn a ≤ N + d) : DivInv p a b N d 0 (List.replicate N 0) (trim a) where
  eq := fun n => by
    rw [show co (List.replicate N 0) = fun _ => 0 from funext (co_zeros N), conv_null, Int.zero_add, co_trim]
  low := fun n _ => co_zeros N n
  top := fun n hn => by rw [co_trim]; exact tn_fin a n (by omega)

theorem DivInv.step {p inv : Int} {a b qs rs : List Int} {N d k M : Nat} (hb : tn b = d + 1) (hM : M = N + d) (hk : k < N) (hq : qs.length = N) (hr : rs.length = M)
    (hi : fmul p (co b d) inv = 1) (h : DivInv p a b N d k qs rs) :
    DivInv p a b N d (k + 1) (qs.set (N - 1 - k) (fmul p (co rs (N - 1 - k + d)) inv)) (remL p rs b (fmul p (co rs (N - 1 - k + d)) inv) (N - 1 - k) M (d + 1)) := by
  have fb : Fin (co b) (d + 1) := by rw [← hb]; exact tn_fin b
  obtain ⟨i, hi2⟩ : ∃ i, i = N - 1 - k := ⟨_, rfl⟩
  obtain ⟨c, hc⟩ : ∃ c, c = fmul p (co rs (i + d)) inv := ⟨_, rfl⟩
  rw [← hi2, ← hc]
  have hrr : ∀ n, co (remL p rs b c i M (d + 1)) n = (co rs n - conv (fun j => if j = i then c else 0) (co b) n) % p := by
    intro n
    rw [co_remL, remAt_full fb]
    by_cases hn : n < M
    · rw [if_pos hn]
    · rw [if_neg hn, co_fin rs n (by omega), conv_mono, if_pos (by omega), fb (n - i) (by omega), Int.mul_zero]; simp
  refine ⟨?_, ?_, ?_⟩
  · refine step_f (t := fun j => if j = i then c else 0) h.eq (fun n => ?_) (fun n => by rw [hrr, mdd])
    rw [co_set qs i c (by omega)]
    by_cases e : n = i
    · rw [if_pos e, if_pos e, e, h.low i (by omega), Int.zero_add]
    · rw [if_neg e, if_neg e, Int.add_zero]
  · intro n hn
    rw [co_set qs i c (by omega), if_neg (by omega)]
    exact h.low n (by omega)
  · intro n hn
    rw [hrr, conv_mono, if_pos (by omega)]
    by_cases e : n = i + d
    · subst e
      rw [Nat.add_sub_cancel_left]
      have e2 : c * co b d % p = co rs (i + d) % p := by
        have e3 : fmul p c (co b d) = fmul p (co rs (i + d)) 1 := by rw [hc, fmul_assoc, fmul_comm p inv, hi]
        unfold fmul at e3
        rw [e3, Int.mul_one]
      rw [ms rfl e2, Int.sub_self, Int.zero_emod]
    · rw [h.top n (by omega), fb (n - i) (by omega), Int.mul_zero]; simp

theorem DivInv.done {p : Int} {a b qs rs : List Int} {N d : Nat} (hb : tn b = d + 1) (hq : El p qs) (hr : El p rs) (h : DivInv p a b N d N qs rs) : DM p a b (trim qs) (trim rs) where
  qt := trim_trim _
  rt := trim_trim _
  qe := hq.trim
  re := hr.trim
  lt := by
    rw [trim_length, hb]
    have := tn_fin_le (f := rs) (n := d) (fun n hn => h.top n (by omega))
    omega
  eq := fun n => by rw [conv_ext (co_trim qs) (fun _ => rfl), co_trim]; exact h.eq n
end PolyMath
