/- What the law on distances needs: Same of two unequal lists of one length answers false; the mathematics of the distance. Conditions: as said. -/
import Derived.Test.YtjijlefplidhpaaMG
namespace Go.Proofs.Ytjijlefplidhpaa
set_option maxRecDepth 100000
open Go.RowKit PolyMath FieldMath MatMath

theorem mrk_next (f : Nat → Bool) (n : Nat) : mrk f (n + 1) = mrk f n + if f n then 1 else 0 := rfl
theorem mrk_le (f : Nat → Bool) : ∀ n, mrk f n ≤ n
  | 0 => Nat.le_refl _
  | n + 1 => by
    have := mrk_le f n
    rw [mrk_next]
    split <;> omega
theorem same_no (A A' : Option Addr) (xs ys : List Int) (c c' : Nat) (hl : ys.length = xs.length) (hne : xs ≠ ys) (h1 : xs.length ≤ 1000) (w : World) (h : Sl w A c xs) (h' : Sl w A' c' ys) :
    Calls Try.prog 28 #[.slice A xs.length c, .slice A' ys.length c'] w fun e w' => e = .returned (.bool false) ∧ Below w.heap.size w w' := by
  have hl' : ((xs.length : Int) != ys.length) = false := by rw [hl]; simp
  have HL := Lib.hid hl
  clear hl
  have key : ∀ m, Below w.heap.size w (w.drewN m) := fun m => below_drewN (Below.refl _ w) m
  go_enter Try.func28, Try.ntmps28
  go_wp2
  go_loopw [5] (fun i wr => ∃ k m : Nat, k ≤ xs.length ∧ i = .int .i64 k ∧ wr = w.drewN m ∧ Hid (xs.take k = ys.take k)) (fun i _ => xs.length - (intOf i).toNat)
  case atStart => exact ⟨0, 0, Nat.zero_le _, rfl, rfl, Lib.hid rfl⟩
  case round =>
    obtain ⟨k, m, hk, rfl, rfl, hE⟩ := hrel
    by_cases hlt : k < xs.length
    · obtain ⟨b, off, x, hA, _, hx, hcx⟩ := h.at_ hlt
      obtain ⟨b2, off2, y, hA2, _, hy, hcy⟩ := h'.at_ (k := k) (by rw [HL.out]; exact hlt)
      subst hA hA2
      have hk1 : (k : Int) < xs.length := by omega
      have hk2 : (k : Int) < ys.length := by rw [HL.out]; omega
      by_cases e : x = y
      · have hN := Lib.hid (take_next hx (e ▸ hy) hE.out)
        have e' : (x != y) = false := by rw [e]; simp
        subst e
        clear hx hy hE
        go_wp2
        go_quiet (fail)
        go_wp2
        go_roundw
        case rel => exact ⟨k + 1, _, by omega, by simp, by first | rfl | (simp; rfl), hN⟩
        case measure => simp [intOf]; omega
      · have e' : (x != y) = true := bne_iff_ne.2 e
        clear hx hy hE
        go_wp2
        go_quiet (fail)
        go_wp2
        go_ret
        refine ⟨rfl, ?_⟩
        first | exact key _ | (simp; exact key _)
    · obtain rfl : k = xs.length := by omega
      exact absurd (by have := hE.out; rwa [List.take_length, take_all (by rw [HL.out]; exact Nat.le_refl _)] at this) hne

/-- The difference of two vectors. -/
def difL (p : Int) (a b : List Int) : List Int := (List.range a.length).map fun i => fsub p (co a i) (co b i)
theorem difL_el {p : Int} (hp : 0 < p) (a b : List Int) : El p (difL p a b) := fun x hx => by
  obtain ⟨i, _, rfl⟩ := List.mem_map.1 hx
  exact md _ _ hp
theorem sub_zero_iff' {p x y : Int} (_hp : 0 < p) (hx : 0 ≤ x ∧ x < p) (hy : 0 ≤ y ∧ y < p) : fsub p x y = 0 ↔ x = y := by
  unfold fsub
  constructor
  · intro h
    have h1 : (x - y) % p = 0 := h
    have := Int.emod_emod_of_dvd x (Int.dvd_refl p)
    have h2 := Int.emod_eq_emod_iff_emod_sub_eq_zero.2 h1
    rw [Int.emod_eq_of_lt hx.1 hx.2, Int.emod_eq_of_lt hy.1 hy.2] at h2
    exact h2
  · intro h
    rw [h, Int.sub_self, Int.zero_emod]
theorem ext_dif {p : Int} (_hp : 0 < p) {cols : Nat} {a b : List Int} (hl : a.length = cols) (i : Nat) : ext p cols (difL p a b) i = fsub p (ext p cols a i) (ext p cols b i) := by
  unfold ext
  rw [fsum_fmul, fsum_fmul, fsum_fmul]
  have h : sg cols (fun j => co (wts p (upts cols) (pt i)) j * co (difL p a b) j) % p = sg cols (fun j => co (wts p (upts cols) (pt i)) j * co a j + -1 * (co (wts p (upts cols) (pt i)) j * co b j)) % p := sg_mod cols fun j hj => by
    unfold difL
    rw [co_map, hl, if_pos hj]
    unfold fsub
    have h1 : co (wts p (upts cols) (pt i)) j * ((co a j - co b j) % p) % p = co (wts p (upts cols) (pt i)) j * (co a j - co b j) % p := mm rfl (mdd p _)
    rw [h1, Int.mul_sub]
    congr 1
    omega
  rw [h, sg_add, sg_mul]
  unfold fsub
  have h2 : (sg cols (fun j => co (wts p (upts cols) (pt i)) j * co a j) % p - sg cols (fun j => co (wts p (upts cols) (pt i)) j * co b j) % p) % p = (sg cols (fun j => co (wts p (upts cols) (pt i)) j * co a j) - sg cols (fun j => co (wts p (upts cols) (pt i)) j * co b j)) % p := ms (mdd p _) (mdd p _)
  rw [h2]
  congr 1
  omega
theorem dist_math {p : Int} (hg : GoodI p) {rows : Nat} {a b : List Int} (hN : ((a.length + rows : Nat) : Int) < p) (ha : El p a) (hb : El p b) (hl : b.length = a.length) (hne : a ≠ b) :
    rows < mrk (fun i => co a i != co b i) a.length + mrk (fun i => co (app p (nw p rows a.length) a) i != co (app p (nw p rows a.length) b) i) rows := by
  have hp := hg.two
  have hp0 : 0 < p := by omega
  obtain ⟨k, hk, h0⟩ : ∃ k, k < a.length ∧ co a k ≠ co b k := by
    refine Classical.byContradiction fun hno => hne (list_ext hl.symm fun i => ?_)
    by_cases hi : i < a.length
    · exact Classical.byContradiction fun e => hno ⟨i, hi, e⟩
    · rw [co_fin a i (by omega), co_fin b i (by omega)]
  have hco : ∀ i, i < a.length → co (difL p a b) i = fsub p (co a i) (co b i) := fun i hi => by unfold difL; rw [co_map, if_pos hi]
  have key := far_apart hg hN (difL_el hp0 a b) hk (by
    rw [hco k hk]
    exact fun e => h0 ((sub_zero_iff' hp0 (ha.co hp0 k) (hb.co hp0 k)).1 e))
  have hext : ∀ (v : List Int) i, 0 ≤ ext p a.length v i ∧ ext p a.length v i < p := fun v i => by unfold ext; exact fsum_bd hp0 _ _
  rw [mrk_ext a.length (g := fun i => co a i != co b i) fun i hi => by
    rw [hco i hi, Bool.eq_iff_iff, decide_eq_true_eq, bne_iff_ne, ne_eq, ne_eq, sub_zero_iff' hp0 (ha.co hp0 i) (hb.co hp0 i)]] at key
  rw [mrk_ext rows (g := fun i => co (app p (nw p rows a.length) a) i != co (app p (nw p rows a.length) b) i) fun i hi => by
    rw [nw_app hi, nw_app hi, ext_dif hp0 rfl, Bool.eq_iff_iff, decide_eq_true_eq, bne_iff_ne, ne_eq, ne_eq, sub_zero_iff' hp0 (hext a _) (hext b _)]] at key
  exact key
end Go.Proofs.Ytjijlefplidhpaa
