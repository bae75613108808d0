/- Plain facts for loops over coefficients, with no Go in sight: the partial sums of a product and of a value, one step of a division, counting zeros. No conditions but those said. -/
import Derived.Test.YtbhphamfkhccpaaPMath
namespace PolyMath
open FieldMath

theorem fadd_mod (p x a b : Int) : fadd p (x % p) (fmul p a b) = (x + a * b) % p := by unfold fadd fmul; rw [← Int.add_emod]
theorem fsub_mod (p x a b : Int) : fsub p (x % p) (fmul p a b) = (x - a * b) % p := by unfold fsub fmul; rw [← Int.sub_emod]

/-! ### Lists made by a loop -/
theorem map_next (c : Nat → Int) (k : Nat) : (List.range (k + 1)).map c = (List.range k).map c ++ [c k] := by
  rw [List.range_succ, List.map_append]; rfl
theorem map_get (c : Nat → Int) {N k : Nat} (h : k < N) : ((List.range N).map c)[k]? = some (c k) := by
  rw [List.getElem?_map, List.getElem?_range h]; rfl
theorem map_ext {c d : Nat → Int} {N : Nat} (h : ∀ n, n < N → c n = d n) : (List.range N).map c = (List.range N).map d :=
  List.map_congr_left fun n hn => h n (List.mem_range.1 hn)
theorem map_set {c d : Nat → Int} (N j : Nat) {v : Int} (h1 : d j = v) (h2 : ∀ n, n ≠ j → d n = c n) : ((List.range N).map c).set j v = (List.range N).map d := by
  apply List.ext_getElem?
  intro n
  by_cases hn : n < N
  · rw [List.getElem?_set, map_get d hn]
    by_cases e : j = n
    · subst e; rw [if_pos rfl, if_pos (by simpa using hn), h1]
    · rw [if_neg e, map_get c hn, h2 n (fun h => e h.symm)]
  · rw [List.getElem?_eq_none (by simp; omega), List.getElem?_eq_none (by simp; omega)]
theorem map_zero (p : Int) (N : Nat) : (List.range N).map (fun _ => (0 : Int) % p) = List.replicate N 0 := by
  rw [Int.zero_emod, List.map_const', List.length_range]
theorem list_map (xs : List Int) : (List.range xs.length).map (co xs) = xs := by
  apply List.ext_getElem (by simp)
  intro n h1 h2
  rw [List.getElem_map, List.getElem_range, co_get h2]

/-! ### A product, entry by entry -/
/-- The sum made of coefficient n behind I rows and K entries of the next. -/
def mulAt (f g : Nat → Int) (I K n : Nat) : Int := psum f g n I + if I ≤ n ∧ n < I + K then f I * g (n - I) else 0
theorem mulAt_zero (f g : Nat → Int) (I n : Nat) : mulAt f g I 0 n = psum f g n I := by unfold mulAt; rw [if_neg (by omega), Int.add_zero]
theorem mulAt_here (f g : Nat → Int) (I K : Nat) : mulAt f g I (K + 1) (I + K) = mulAt f g I K (I + K) + f I * g K := by
  unfold mulAt; rw [if_pos (by omega), if_neg (by omega), Int.add_zero, Nat.add_sub_cancel_left]
theorem mulAt_else (f g : Nat → Int) (I K n : Nat) (h : n ≠ I + K) : mulAt f g I (K + 1) n = mulAt f g I K n := by
  unfold mulAt
  by_cases h1 : I ≤ n ∧ n < I + K
  · rw [if_pos h1, if_pos (by omega)]
  · rw [if_neg h1, if_neg (by omega)]
theorem mulAt_full {g : Nat → Int} {B : Nat} (hg : Fin g B) (f : Nat → Int) (I n : Nat) : mulAt f g I B n = psum f g n (I + 1) := by
  unfold mulAt
  rw [psum_succ]
  by_cases h1 : I ≤ n
  · rw [if_pos h1]
    by_cases h2 : n < I + B
    · rw [if_pos ⟨h1, h2⟩]
    · rw [if_neg (by omega), hg (n - I) (by omega), Int.mul_zero]
  · rw [if_neg h1, if_neg (by omega)]
theorem psum_zero (f g : Nat → Int) (n : Nat) : psum f g n 0 = 0 := rfl

/-- The list of a product's entries in the midst of the loops. -/
def mulL (p : Int) (a b : List Int) (N I K : Nat) : List Int := (List.range N).map fun n => mulAt (co a) (co b) I K n % p
theorem mulL_len (p : Int) (a b : List Int) (N I K : Nat) : (mulL p a b N I K).length = N := by unfold mulL; simp
theorem mulL_start (p : Int) (a b : List Int) (N : Nat) : mulL p a b N 0 0 = List.replicate N 0 := by
  rw [← map_zero p]; exact map_ext fun n _ => by rw [mulAt_zero]; rfl
theorem mulL_get (p : Int) (a b : List Int) (N I K n : Nat) (h : n < N) : (mulL p a b N I K)[n]? = some (mulAt (co a) (co b) I K n % p) := map_get (fun n => mulAt (co a) (co b) I K n % p) h
theorem mulL_set (p : Int) (a b : List Int) (N I K : Nat) : (mulL p a b N I K).set (I + K) (fadd p (mulAt (co a) (co b) I K (I + K) % p) (fmul p (co a I) (co b K))) = mulL p a b N I (K + 1) :=
  map_set N (I + K) (by rw [mulAt_here, fadd_mod]) fun n hn => by rw [mulAt_else _ _ _ _ _ hn]
theorem mulL_row (p : Int) (a b : List Int) (N I : Nat) : mulL p a b N I b.length = mulL p a b N (I + 1) 0 :=
  map_ext fun n _ => by rw [mulAt_full (co_fin b), mulAt_zero]
theorem mulL_done (p : Int) (a b : List Int) : trim (mulL p a b (a.length + b.length - 1) a.length 0) = pmul p a b := by
  unfold mulL pmul nf
  congr 1
  exact map_ext fun n _ => by rw [mulAt_zero, psum_all (co_fin a)]

/-! ### Values -/
theorem evp_next (p x : Int) (f : Nat → Int) (k : Nat) : fadd p (evp x f k % p) (fmul p (f k) (x ^ k % p)) = evp x f (k + 1) % p := by
  unfold fadd fmul
  rw [show evp x f (k + 1) = evp x f k + f k * x ^ k from rfl, ← Int.add_emod, Int.add_emod, Int.mul_emod, mdd, ← Int.mul_emod, ← Int.add_emod]
theorem pow_next (p x : Int) (k : Nat) : fmul p (x ^ k % p) x = x ^ (k + 1) % p := by
  unfold fmul; rw [Int.pow_succ, Int.mul_emod, mdd, ← Int.mul_emod]
theorem pev_evp (p x : Int) (a : List Int) : evp x (co a) a.length % p = pev p a x := by unfold pev; rw [evp_eq]
/-- One step of Horner's rule, from the top. -/
theorem horner (p x : Int) (f : Nat → Int) (k m : Nat) : fadd p (fmul p (evf x k (fun i => f (i + (m + 1))) % p) x) (f m) = evf x (k + 1) (fun i => f (i + m)) % p := by
  unfold fadd fmul
  rw [evf_succ, Int.mul_emod, mdd, ← Int.mul_emod, Int.emod_add_emod, Int.add_comm, Int.mul_comm]
  show (f m + _) % p = (f (0 + m) + x * evf x k (fun i => f (i + 1 + m))) % p
  rw [Nat.zero_add, show (fun i => f (i + 1 + m)) = fun i => f (i + (m + 1)) from funext fun i => by rw [Nat.add_assoc, Nat.add_comm 1 m]]

/-! ### Division -/
theorem conv_mono (c : Int) (g : Nat → Int) (d : Nat) : ∀ n, conv (fun i => if i = d then c else 0) g n = if d ≤ n then c * g (n - d) else 0 := by
  induction d with
  | zero =>
    intro n
    rw [if_pos (Nat.zero_le _)]
    cases n with
    | zero => rfl
    | succ n =>
      rw [conv_succ, show (fun i => if i + 1 = 0 then c else 0) = fun _ => (0 : Int) from funext fun i => if_neg (by omega), conv_null, Int.add_zero]; rfl
  | succ d ih =>
    intro n
    cases n with
    | zero => rw [conv_zero, if_neg (by omega), if_neg (by omega), Int.zero_mul]
    | succ n =>
      rw [conv_succ, if_neg (by omega), Int.zero_mul, Int.zero_add, show (fun i => if i + 1 = d + 1 then c else 0) = fun i => if i = d then c else 0 from funext fun i => by simp, ih, show n + 1 - (d + 1) = n - d from by omega]
      by_cases h : d ≤ n
      · rw [if_pos h, if_pos (by omega)]
      · rw [if_neg h, if_neg (by omega)]

/-- The list of the monomial c x^d. -/
theorem co_mono (c : Int) (d n : Nat) : co (List.replicate d 0 ++ [c]) n = if n = d then c else 0 := by
  unfold co
  rcases Nat.lt_trichotomy n d with h | h | h
  · rw [if_neg (by omega), List.getElem?_append_left (by simpa using h), List.getElem?_replicate, if_pos h]; rfl
  · subst h; rw [if_pos rfl, List.getElem?_append_right (by simp)]; simp
  · rw [if_neg (by omega), List.getElem?_eq_none (by simp; omega)]; rfl
theorem el_mono {p c : Int} (hc : 0 ≤ c ∧ c < p) (d : Nat) : El p (List.replicate d 0 ++ [c]) := by
  intro x hx
  rw [List.mem_append] at hx
  rcases hx with hx | hx
  · have := (List.mem_replicate.1 hx).2; omega
  · have := List.mem_singleton.1 hx; omega
theorem set_mono (c : Int) (d : Nat) : (List.replicate (d + 1) (0 : Int)).set d c = List.replicate d 0 ++ [c] := by
  rw [List.replicate_succ', List.set_append_right _ _ (by simp)]; simp

theorem tn_fin_le {f : List Int} {n : Nat} (h : Fin (co f) n) : tn f ≤ n := by
  rcases (show tn f ≤ n ∨ n < tn f by omega) with h1 | h1
  · exact h1
  · exact absurd (h (tn f - 1) (by omega)) (tn_top f (by omega))

/-- What is left behind a step of a division is shorter. -/
theorem div_less {p inv : Int} {r b : List Int} (h0 : 0 < b.length) (hl : b.length ≤ r.length)
    (hi : fmul p (co b (b.length - 1)) inv = 1) :
    (psub p r (pmul p (List.replicate (r.length - b.length) 0 ++ [fmul p (co r (r.length - 1)) inv]) b)).length < r.length := by
  rw [← psub_trim, trim_length]
  have : tn (psub p r (pmul p (List.replicate (r.length - b.length) 0 ++ [fmul p (co r (r.length - 1)) inv]) b)) ≤ r.length - 1 := by
    apply tn_fin_le
    intro n hn
    rw [co_psub, co_pmul, conv_ext (co_mono _ _) (fun _ => rfl), conv_mono]
    by_cases e : n = r.length - 1
    · subst e
      rw [if_pos (by omega), show r.length - 1 - (r.length - b.length) = b.length - 1 from by omega]
      have e1 : fmul p (co r (r.length - 1)) inv * co b (b.length - 1) % p = co r (r.length - 1) % p := by
        have e2 : fmul p (fmul p (co r (r.length - 1)) inv) (co b (b.length - 1)) = fmul p (co r (r.length - 1)) 1 := by rw [fmul_assoc, fmul_comm p inv, hi]
        unfold fmul at e2 ⊢
        rw [e2, Int.mul_one]
      rw [e1, Int.sub_emod, mdd, Int.sub_self, Int.zero_emod]
    · rw [co_fin r n (by omega)]
      by_cases h2 : r.length - b.length ≤ n
      · rw [if_pos h2, co_fin b _ (by omega), Int.mul_zero]; simp
      · rw [if_neg h2]; simp
  omega

/-- One step of a division, said of coefficient functions. -/
theorem step_f {p : Int} {q q' r r' b a t : Nat → Int} (h : ∀ n, (conv q b n + r n) % p = a n % p) (hq : ∀ n, q' n % p = (q n + t n) % p) (hr : ∀ n, r' n % p = (r n - conv t b n) % p) :
    ∀ n, (conv q' b n + r' n) % p = a n % p := by
  intro n
  have e1 := conv_mod (p := p) (g' := b) (fun _ => rfl) n (f := q') (f' := fun i => q i + t i) hq
  rw [conv_add_left] at e1
  rw [← h n, ma e1 (hr n)]; congr 1; omega

/-- The remainder while a row of b is being taken away, c b_k at place d + k for the first k of b. -/
def remAt (r b : Nat → Int) (c : Int) (d k n : Nat) : Int := r n - if d ≤ n ∧ n < d + k then c * b (n - d) else 0
theorem remAt_zero (r b : Nat → Int) (c : Int) (d n : Nat) : remAt r b c d 0 n = r n := by unfold remAt; rw [if_neg (by omega), Int.sub_zero]
theorem remAt_here (r b : Nat → Int) (c : Int) (d k : Nat) : remAt r b c d (k + 1) (d + k) = remAt r b c d k (d + k) - c * b k := by
  unfold remAt; rw [if_pos (by omega), if_neg (by omega), Int.sub_zero, Nat.add_sub_cancel_left]
theorem remAt_else (r b : Nat → Int) (c : Int) (d k n : Nat) (h : n ≠ d + k) : remAt r b c d (k + 1) n = remAt r b c d k n := by
  unfold remAt
  by_cases h1 : d ≤ n ∧ n < d + k
  · rw [if_pos h1, if_pos (by omega)]
  · rw [if_neg h1, if_neg (by omega)]
theorem remAt_full {b : Nat → Int} {B : Nat} (hb : Fin b B) (r : Nat → Int) (c : Int) (d n : Nat) : remAt r b c d B n = r n - conv (fun i => if i = d then c else 0) b n := by
  unfold remAt
  rw [conv_mono]
  by_cases h1 : d ≤ n
  · rw [if_pos h1]
    by_cases h2 : n < d + B
    · rw [if_pos ⟨h1, h2⟩]
    · rw [if_neg (by omega), hb (n - d) (by omega), Int.mul_zero]
  · rw [if_neg h1, if_neg (by omega)]

/-! ### Counting zeros -/
def pts (p x : Int) (N : Nat) : List Int := (List.range N).map fun n : Nat => (x + (n : Int)) % p
theorem pts_bd {p x : Int} (hp : 0 < p) (N : Nat) : ∀ y ∈ pts p x N, 0 ≤ y ∧ y < p := by
  intro y hy
  obtain ⟨n, _, rfl⟩ := List.mem_map.1 hy
  exact md _ _ hp
theorem pts_next (p x : Int) (N : Nat) : pts p x (N + 1) = pts p x N ++ [(x + (N : Int)) % p] := map_next _ _
theorem pts_nodup {p x : Int} : ∀ N : Nat, (N : Int) ≤ p → (pts p x N).Nodup := by
  intro N
  induction N with
  | zero => intro _; exact List.nodup_nil
  | succ N ih =>
    intro h
    rw [pts_next, List.nodup_append]
    refine ⟨ih (by omega), by simp, ?_⟩
    intro a ha b hb e
    rw [List.mem_singleton] at hb
    subst hb e
    obtain ⟨n, hn, e⟩ := List.mem_map.1 ha
    have hn := List.mem_range.1 hn
    have e2 : ((x + (N : Int)) - (x + (n : Int))) % p = 0 := by rw [Int.sub_emod, ← e, Int.sub_self, Int.zero_emod]
    have := Int.le_of_dvd (show 0 < (x + (N : Int)) - (x + (n : Int)) by omega) (Int.dvd_of_emod_eq_zero e2)
    omega
/-- How many of the first N points are zeros. -/
def nz (p : Int) (a : List Int) (x : Int) (N : Nat) : Nat := ((pts p x N).filter fun y => pev p a y == 0).length
theorem nz_zero (p : Int) (a : List Int) (x : Int) : nz p a x 0 = 0 := rfl
theorem nz_next (p : Int) (a : List Int) (x : Int) (N : Nat) : nz p a x (N + 1) = nz p a x N + if pev p a ((x + (N : Int)) % p) = 0 then 1 else 0 := by
  unfold nz
  rw [pts_next, List.filter_append, List.length_append]
  by_cases h : pev p a ((x + (N : Int)) % p) = 0
  · rw [if_pos h]; simp [h]
  · rw [if_neg h]; simp [h]
theorem nz_le {p : Int} (h : GoodI p) {a : List Int} (ha : El p a) (h0 : 0 < tn a) (x : Int) (N : Nat) (hN : (N : Int) ≤ p) : nz p a x N ≤ tn a - 1 := by
  have hp := h.two
  refine zeros_list h ha h0 ((pts_nodup N hN).sublist (List.filter_sublist)) (fun y hy => pts_bd (by omega) N y (List.mem_filter.1 hy).1) ?_
  intro y hy
  exact of_decide_eq_true (by simpa using (List.mem_filter.1 hy).2)
theorem prodX_snoc (p : Int) : ∀ (cs m : List Int) (c : Int), prodX p m (cs ++ [c]) = pmul p (prodX p m cs) [(p - c) % p, 1]
  | [], _, _ => rfl
  | d :: cs, m, c => prodX_snoc p cs (pmul p m [(p - d) % p, 1]) c
theorem prodX_el {p : Int} (hp : 0 < p) : ∀ (cs m : List Int), El p m → El p (prodX p m cs)
  | [], _, h => h
  | _ :: cs, _, _ => prodX_el hp cs _ (pmul_el hp _ _)
theorem prodX_len (p : Int) : ∀ (cs m : List Int), (prodX p m cs).length ≤ m.length + cs.length
  | [], _ => Nat.le_refl _
  | c :: cs, m => by
    have h1 := prodX_len p cs (pmul p m [(p - c) % p, 1])
    have h2 := pmul_len p m [(p - c) % p, 1]
    simp only [List.length_cons, List.length_nil] at h2 ⊢
    show (prodX p (pmul p m [(p - c) % p, 1]) cs).length ≤ _
    omega
end PolyMath
