import Derived.Test.YtkhiiiggmhncbaaEInt
import Derived.Test.YtkhiiiggmhncbaaEFair
namespace Go.Proofs.Ytkhiiiggmhncbaa
open Go.ChangeShapes Go.WideShapes Go.ChangeAt Go.RowKit PolyMath FieldMath MatMath

/-- One more row behind the rows: what lies ready before the append, and what holds behind it. -/
theorem lown_step {base b0 N g k : Nat} {w w7 : World} {v : Value} {rows : List (List Int)} {r : List Int} (h : LOwn base w v rows) (hk : rows.length = k) (hb : Below w.heap.size w w7) (ho : OwnAt w7 b0 g N N r) :
    ∃ vs, (w7.alloc (.cells #[.slice (some ⟨g, 0, none⟩) N N] 22)).ownsRow base 22 1 v k vs ∧ ∀ v' w2, w2.ownsRow base 22 1 v' (k + 1) (vs ++ [.slice (some ⟨g, 0, none⟩) N N]) → (w7.alloc (.cells #[.slice (some ⟨g, 0, none⟩) N N] 22)).grownBy w2 v.ownBlock → LOwn base w2 v' (rows ++ [r]) := by
  have hst : Below w7.heap.size w7 (w7.alloc (.cells #[.slice (some ⟨g, 0, none⟩) N N] 22)) := (Below.refl _ w7).alloc (Nat.le_refl _) _
  obtain ⟨vs, h1, h2⟩ := (h.next hb).next hst
  have hr := ho.len
  refine ⟨vs, by rw [← hk]; exact h1, fun v' w2 hown hg => ?_⟩
  exact LOwn.add h1 h2 (ho.sl.next hst) ((Ty.of_own ho).next hst) (by rw [hk, hr]; exact hown) hg

theorem rec_fit {p : Int} {S : List (List Int)} {n : Nat} (h : Mat p n n S) (hs : Sym S) (xs : List Int) : FitC p xs ((List.range n).map fun i => brow p S (co xs i)) n S where
  mat := h
  at_ := fun j hj i hi => by
    rw [mx_ro, ro_map _ hi, co_brow p S _ (by rw [h.rows]; exact hj), (sym_iff h).1 hs j hj]

/-- The rows of a symmetric matrix at as many points as it has rows give the matrix back. -/
theorem rec_any (p : Int) (hp : OkP p) (m : Nat) (A B : Option Addr) (ca cb : Nat) (xs : List Int) (S : List (List Int)) (hS : Mat p (m + 1) (m + 1) S) (hs : Sym S) (lx : xs.length = m + 1) (hm : m + 1 ≤ 12) (hx : El p xs) (hnd : xs.Nodup) (w : World) (sx : Sl w A ca xs) (sr : Sll w B cb ((List.range (m + 1)).map fun i => brow p S (co xs i))) :
    Calls Try.prog 26 #[.int .u64 p, .int .i64 (m : Int), .slice A (m + 1) ca, .slice B (m + 1) cb] w fun e w' => MatT w e w' (m + 1) S := by
  have h0 := hp.bd
  have hl : ((List.range (m + 1)).map fun i => brow p S (co xs i)).length = m + 1 := rows_len _ _
  have hrl : ∀ i, i < m + 1 → (ro ((List.range (m + 1)).map fun i => brow p S (co xs i)) i).length = m + 1 := fun i hi => by rw [ro_map _ hi, brow_len, hS.rows]
  have hel : ∀ r ∈ ((List.range (m + 1)).map fun i => brow p S (co xs i)), El p r := fun r hr => by
    obtain ⟨i, _, rfl⟩ := mem_range_map hr
    exact brow_el (by omega) _ _
  have h := itp_ok p hp m A B ca cb (m + 1) xs _ lx hl hm (by omega) hx hnd hel hrl w sx sr
  have hF := rec_fit hS hs xs
  rw [List.take_of_length_le (by omega), List.take_of_length_le (by omega)] at h
  have hE : fitL p xs ((List.range (m + 1)).map fun i => brow p S (co xs i)) (m + 1) = S := by
    refine FitC.unique hp.good hnd hx lx (fitL_fit hp.good hnd hx lx fun i j => ?_) hF
    exact Mat.bd (N := m + 1) (L := m + 1) (.of hl fun i hi => ⟨hrl i hi, by rw [ro_map _ hi]; exact brow_el (by omega) _ _⟩) (by omega) i j
  rw [hE] at h
  refine h.mono ?_
  rintro e w' (⟨_, h⟩ | ⟨hn, _⟩)
  · exact h
  · exact absurd ⟨hs, fun i h1 h2 => absurd h1 (by omega)⟩ hn
end Go.Proofs.Ytkhiiiggmhncbaa
