import Derived.Test.YtkhiiiggmhncbaaGreatEInt
import Derived.Test.YtkhiiiggmhncbaaGreatEFair
namespace Go.Proofs.YtkhiiiggmhncbaaGreat
open Go.ChangeShapes Go.WideShapes Go.ChangeAt Go.RowKit PolyMath FieldMath MatMath

theorem rVal_b (p x : Int) (N : Nat) (hp : OkP p) (hx : 0 ≤ x ∧ x < p) (A : Option Addr) (c : Nat) (xs : List Int) (hxs : El p xs) (hN : xs.length = N) (hl : N ≤ 1000) (w : World) (h : Sl w A c xs) :
    Calls Tryz.prog 52 #[.int .u64 p, .slice A N c, .int .u64 x] w fun e w' => e = .returned (.int .u64 (pev p xs x)) ∧ Below w.heap.size w w' := by
  have h1 := rVal_any p x hp hx A c xs hxs (by omega) w h
  rw [hN] at h1
  exact h1.mono fun e w' ⟨h, k, hk⟩ => ⟨h, by rw [hk]; exact below_drewN (Below.refl _ _) k⟩

theorem agr_next {p : Int} {xs : List Int} {rows : List (List Int)} {k : Nat} : Agr p xs rows (k + 1) ↔ Agr p xs rows k ∧ ∀ l, l < k → pev p (ro rows k) (co xs l) = pev p (ro rows l) (co xs k) := by
  refine ⟨fun h => ⟨fun i hi j hj => h i (by omega) j hj, fun l hl => h k (by omega) l hl⟩, fun ⟨h1, h2⟩ i hi j hj => ?_⟩
  by_cases e : i < k
  · exact h1 i e j hj
  · obtain rfl : k = i := by omega
    exact h2 j hj

theorem mx_take (rows : List (List Int)) {n i : Nat} (hi : i < n) (j : Nat) : mx (rows.take n) i j = mx rows i j := by
  unfold mx; rw [List.getElem?_take_of_lt hi]

theorem itp_fit {p : Int} (hp : OkP p) {xs : List Int} {rows : List (List Int)} {t m : Nat} (lx : xs.length = m) (lr : rows.length = m) (ht : t < m) (hx : El p xs) (hnd : xs.Nodup) (hr : ∀ r ∈ rows, El p r) :
    FitC p (xs.take (t + 1)) rows (t + 1) (fitL p (xs.take (t + 1)) (rows.take (t + 1)) (t + 1)) := by
  have hbd := hp.bd
  have hF := fitL_fit hp.good (xs := xs.take (t + 1)) (rows := rows.take (t + 1)) (n := t + 1) (hnd.sublist (List.take_sublist _ _)) (fun z hz => hx z (List.mem_of_mem_take hz)) (by rw [List.length_take]; omega) (fun i j => by
    rw [mx_ro]
    by_cases h : i < (rows.take (t + 1)).length
    · exact (hr _ (List.mem_of_mem_take (List.mem_of_getElem? (ro_get h)))).co (by omega) j
    · unfold ro; rw [List.getElem?_eq_none (by omega)]; exact (El.nil p).co (by omega) j)
  exact ⟨hF.mat, fun j hj i hi => by rw [hF.at_ j hj i hi, mx_take rows hi]⟩

theorem itp_agr (p : Int) (hp : OkP p) (t : Nat) (A B : Option Addr) (ca cb m : Nat) (xs : List Int) (rows : List (List Int)) (lx : xs.length = m) (lr : rows.length = m) (hm : m ≤ 12) (ht : t < m) (hx : El p xs) (hnd : xs.Nodup) (hr : ∀ r ∈ rows, El p r) (hrl : ∀ i, i < m → (ro rows i).length = t + 1) (w : World) (sx : Sl w A ca xs) (sr : Sll w B cb rows) :
    Calls Tryz.prog 6 #[.int .u64 p, .int .i64 (t : Int), .slice A m ca, .slice B m cb] w fun e w' => ∃ (A' : Option Addr) (c' N : Nat) (er : Int), e = .returned (.tuple #[.slice A' N c', .int .i64 er]) ∧ Below w.heap.size w w' ∧
      ((Agr p xs rows m ∧ er = 0 ∧ N = t + 1 ∧ ∃ C, Sll w' A' c' C ∧ symB C = true ∧ Mat p (t + 1) (t + 1) C ∧ ∀ i, i < m → brow p C (co xs i) = ro rows i) ∨ (¬ Agr p xs rows m ∧ er = 6)) := by
  have h := itp_ok p hp t A B ca cb m xs rows lx lr hm ht hx hnd hr hrl w sx sr
  have hF := itp_fit hp lx lr ht hx hnd hr
  have hel : ∀ i, i < m → (ro rows i).length = t + 1 ∧ El p (ro rows i) := fun i hi => ⟨hrl i hi, hr _ (List.mem_of_getElem? (ro_get (by rw [lr]; exact hi)))⟩
  have hA := fits_agree hp.good (n := t + 1) (m := m) (by omega) lx hnd hx hF hel
  refine h.mono ?_
  rintro e w' (⟨hfit, A', c', rfl, hs, hb⟩ | ⟨hn, rfl, hb⟩)
  · refine ⟨A', c', t + 1, 0, rfl, hb, .inl ⟨hA.1 hfit, rfl, rfl, _, hs, ?_, hF.mat, Fits.all hF (fun i hi => hrl i (by omega)) hfit⟩⟩
    exact symB_iff.2 ⟨sqB_iff.2 ⟨by rw [hF.mat.rows]; omega, fun i hi => by rw [hF.mat.rows] at hi ⊢; exact (hF.mat.ro hi).1⟩, hfit.1⟩
  · exact ⟨none, 0, 0, 6, rfl, hb, .inr ⟨fun h => hn (hA.2 h), rfl⟩⟩
end Go.Proofs.YtkhiiiggmhncbaaGreat
