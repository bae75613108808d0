/- Texts joined: HFun, HNew, HInt, RGen, HSub. Each says its own conditions. -/
import Derived.Test.YtjijlefplidhpaaMA
import Derived.Test.YtjijlefplidhpaaME
import Derived.Test.YtjijlefplidhpaaMC
/- Layer 7 without Go: the matrix of New as a list of rows, submatrices, a vector completed from some of its components. No conditions beyond those said. -/
namespace Go.Proofs.Ytjijlefplidhpaa
set_option maxRecDepth 100000
open PolyMath FieldMath MatMath

/-! ### The matrix of New -/
def nw (p : Int) (rows cols : Nat) : List (List Int) := (List.range rows).map fun i => wts p (upts cols) (pt (cols + i))
theorem nw_len (p : Int) (rows cols : Nat) : (nw p rows cols).length = rows := by unfold nw; simp
theorem nw_ro (p : Int) {rows : Nat} (cols : Nat) {i : Nat} (h : i < rows) : ro (nw p rows cols) i = wts p (upts cols) (pt (cols + i)) := ro_map _ h
theorem nw_mat {p : Int} (hp : 0 < p) (rows cols : Nat) : Mat p rows cols (nw p rows cols) := .of (nw_len p rows cols) fun i hi => by
  rw [nw_ro p cols hi]
  exact ⟨by rw [wts_len, upts_len], wts_el hp _ _⟩
theorem nw_next (p : Int) (k cols : Nat) : nw p (k + 1) cols = nw p k cols ++ [wts p (upts cols) (pt (cols + k))] := by
  unfold nw; rw [List.range_succ, List.map_append]; rfl
theorem nw_app {p : Int} {rows cols : Nat} {ys : List Int} {i : Nat} (hi : i < rows) : co (app p (nw p rows cols) ys) i = ext p cols ys (cols + i) := by
  unfold app
  rw [co_map, nw_len, if_pos hi, nw_ro p cols hi]
  unfold dot ext
  rw [fsum_fmul, wts_len, upts_len]
theorem nw_value {p : Int} (h : GoodI p) {cols : Nat} (hc : (cols : Int) < p) {f : List Int} (hf : El p f) (hl : f.length = cols) (i : Nat) :
    fsum p (fun k => fmul p (co (wts p (upts cols) (pt i)) k) (pev p f (pt k))) cols = pev p f (pt i) := by
  have := wts_value h (upts_nodup cols) (upts_el hc) hf (by rw [upts_len]; omega) (pt i)
  rw [upts_len] at this
  rw [← this]
  exact fsum_ext cols fun k hk => by rw [upts_co hk]

/-! ### Submatrices -/
def subM (m : List (List Int)) (R C : List Int) : List (List Int) := R.map fun i => C.map fun j => co (ro m i.toNat) j.toNat
theorem subM_len (m : List (List Int)) (R C : List Int) : (subM m R C).length = R.length := by unfold subM; simp
theorem subM_ro (m : List (List Int)) {R : List Int} (C : List Int) {i : Nat} (h : i < R.length) : ro (subM m R C) i = C.map fun j => co (ro m (co R i).toNat) j.toNat := by
  unfold subM
  refine ro_at ?_
  rw [List.getElem?_map, List.getElem?_eq_getElem h, co_get h]; rfl
theorem subM_at (m : List (List Int)) {R : List Int} (C : List Int) {i : Nat} {r : Int} (h : R[i]? = some r) : ro (subM m R C) i = C.map fun j => co (ro m r.toNat) j.toNat := by
  rw [subM_ro m C (List.getElem?_eq_some_iff.1 h).1, co_at h]
theorem subM_mx (m : List (List Int)) {R C : List Int} {i j : Nat} (hi : i < R.length) (hj : j < C.length) : mx (subM m R C) i j = mx m (co R i).toNat (co C j).toNat := by
  rw [mx_ro, subM_ro m C hi, mx_ro]
  exact co_at (by rw [List.getElem?_map, List.getElem?_eq_getElem hj, co_get hj]; rfl)
theorem subM_mat {p : Int} (hp : 0 < p) {N L : Nat} {m : List (List Int)} (hm : Mat p N L m) (R C : List Int) (hR : ∀ i ∈ R, 0 ≤ i ∧ i < N) : Mat p R.length C.length (subM m R C) := .of (subM_len m R C) fun i hi => by
  rw [subM_ro m C hi]
  refine ⟨by simp, fun x hx => ?_⟩
  obtain ⟨j, _, rfl⟩ := List.mem_map.1 hx
  have h1 := hR _ (co_mem hi)
  exact (hm.ro (show (co R i).toNat < N by omega)).2.co hp _
/-- All indices are in range. -/
def subB (m : List (List Int)) (R C : List Int) : Bool := decide ((∀ i ∈ R, 0 ≤ i ∧ i < (m.length : Int)) ∧ ∀ i ∈ R, ∀ j ∈ C, 0 ≤ j ∧ j < ((ro m i.toNat).length : Int))
theorem squ_mat {p : Int} {N : Nat} {A : List (List Int)} (h : Mat p N N A) (h0 : 0 < N) : squ A = true := squ_iff.2 ⟨by rw [h.rows]; exact h0, by rw [h.rows, h.cols h0], h.isRect⟩
theorem sub_det {p : Int} (hg : GoodI p) {rows cols : Nat} (hN : ((cols + rows : Nat) : Int) < p) {R C : List Int} (hR : ∀ i ∈ R, 0 ≤ i ∧ i < (rows : Int)) (hC : ∀ i ∈ C, 0 ≤ i ∧ i < (cols : Int)) (nR : R.Nodup) (nC : C.Nodup) (hl : R.length = C.length) (h0 : 0 < R.length) :
    squ (subM (nw p rows cols) R C) = true ∧ dtm p (subM (nw p rows cols) R C) ≠ 0 := by
  have hp := hg.two
  have hM := subM_mat (by omega) (nw_mat (p := p) (by omega) rows cols) R C hR
  rw [← hl] at hM
  have hs := squ_mat hM h0
  refine ⟨hs, ?_⟩
  rw [dtm_det hg hs hM.els, subM_len]
  have hb : ∀ {X : List Int} {n : Nat}, (∀ i ∈ X, 0 ≤ i ∧ i < (n : Int)) → ∀ i, i < X.length → (co X i).toNat < n := fun hX i hi => by have := hX _ (co_mem hi); omega
  have hj : ∀ {X : List Int} {n : Nat}, (∀ i ∈ X, 0 ≤ i ∧ i < (n : Int)) → X.Nodup → ∀ i j, i < X.length → j < X.length → (co X i).toNat = (co X j).toNat → i = j := fun hX hn i j hi hj e => by
    have h1 := hX _ (co_mem hi)
    have h2 := hX _ (co_mem hj)
    exact co_inj hn hi hj (by omega)
  have key := square_det hg hN (r := R.length) (R := fun i => (co R i).toNat) (C := fun i => (co C i).toNat) (hb hR) (fun i hi => hb hC i (by omega)) (hj hR nR) (fun i j hi hj' => hj hC nC i j (by omega) (by omega))
  rwa [det_congr R.length (B := fun a b => co (wts p (upts cols) (pt (cols + (co R a).toNat))) (co C b).toNat) fun r c hr hc => by
    rw [subM_mx _ hr (by omega), mx_ro, nw_ro p cols (hb hR r hr)]]

/-! ### Products with vectors -/
theorem app_co {p : Int} {A : List (List Int)} (v : List Int) {i : Nat} (h : i < A.length) : co (app p A v) i = dot p (ro A i) v := by unfold app; rw [co_map, if_pos h]
theorem app_mul {p : Int} {N l L : Nat} {B C : List (List Int)} (hB : Mat p N l B) (hC : Mat p l L C) (hl : 0 < l) (v : List Int) : app p (mulM p B C) v = app p B (app p C v) := by
  refine list_ext (by rw [app_len, app_len, mulM_len]) fun i => ?_
  by_cases hi : i < N
  · have hiB : i < B.length := by rw [hB.rows]; exact hi
    rw [app_co v (by rw [mulM_len]; exact hiB), app_co _ hiB]
    unfold dot
    rw [mulM_ro p C hiB, mulR_len, hC.cols hl, (hB.ro hi).1]
    have e1 : sg L (fun j => co (mulR p (ro B i) C L l) j * co v j) % p = sg L (fun j => mat l (mx B) (mx C) i j * co v j) % p := sg_mod L fun j hj => by
      unfold mulR
      rw [co_map, if_pos hj]
      exact mm (mdd p _) rfl
    have e2 : sg l (fun j => co (ro B i) j * co (app p C v) j) % p = sg l (fun j => mx B i j * sg L (fun k => mx C j k * co v k)) % p := sg_mod l fun j hj => by
      rw [app_co v (by rw [hC.rows]; exact hj)]
      unfold dot
      rw [(hC.ro hj).1]
      exact mm rfl (mdd p _)
    rw [e1, e2]
    exact congrArg (· % p) (mat_assoc l L (mx B) (mx C) (fun k _ => co v k) i 0)
  · rw [co_fin _ i (by rw [app_len, mulM_len, hB.rows]; omega), co_fin _ i (by rw [app_len, hB.rows]; omega)]
theorem app_one {p : Int} (hp : 1 < p) {n : Nat} {v : List Int} (hv : El p v) (hl : v.length = n) : app p (oneL n) v = v := by
  refine list_ext (by rw [app_len, oneL_len, hl]) fun i => ?_
  by_cases hi : i < n
  · rw [app_co v (by rw [oneL_len]; exact hi)]
    unfold dot
    rw [((oneL_mat hp n).ro hi).1, sg_one (j := i) n hi fun j hj hne => by rw [← mx_ro, oneL_mx hi hj, one_ne (fun e => hne e.symm), Int.zero_mul], ← mx_ro, oneL_mx hi hi, one_same, Int.one_mul]
    exact hv.cm (by omega) i
  · rw [co_fin _ i (by rw [app_len, oneL_len]; omega), co_fin v i (by omega)]
theorem slv_inv {p : Int} (hg : GoodI p) {A X : List (List Int)} {b : List Int} (hs : squ A = true) (hE : ∀ r ∈ A, El p r) (hb : El p b) (hn : A.length = b.length) (h : invM p A = some X) : slv p A b = some (app p X b) := by
  have hp := hg.two
  obtain ⟨_, hX, h1, h2⟩ := invM_some hg hs hE h
  obtain ⟨q1, q2, q3⟩ := squ_iff.1 hs
  have hA := mat_of q3 hE
  rw [← q2] at hA
  have e1 : app p A (app p X b) = b := by rw [← app_mul hA hX q1, h2, app_one (by omega) hb hn.symm]
  obtain ⟨y, hy, h3, h4, h5⟩ := slv_ex hg q3 hE hb hn ((app_sol q3 hb (by omega) hn).1 e1)
  rw [hy]
  congr 1
  rw [← app_one (by omega) h5 (h4.trans q2.symm), ← h1, app_mul hX hA q1, h3]
theorem inv_none_iff {p : Int} (hg : GoodI p) {A : List (List Int)} (hs : squ A = true) (hE : ∀ r ∈ A, El p r) : invM p A = none ↔ rnk p A < A.length := by
  rw [← invM_rank hg hs hE]
  unfold invM
  constructor
  · intro h
    split at h
    · assumption
    · cases h
  · intro h
    rw [if_pos h]

/-! ### Completing a vector -/
def idx (ps : List (Int × Int)) : List Nat := ps.map fun q => q.1.toNat
def putL (x : List Int) (ps : List (Int × Int)) : List Int := ps.foldl (fun l q => l.set q.1.toNat q.2) x
theorem putL_len : ∀ (ps : List (Int × Int)) (x : List Int), (putL x ps).length = x.length
  | [], _ => rfl
  | q :: ps, x => by show (putL (x.set _ _) ps).length = _; rw [putL_len ps, List.length_set]
theorem putL_next (x : List Int) {ps : List (Int × Int)} {k : Nat} {a b : Int} (h : ps[k]? = some (a, b)) : putL x (ps.take (k + 1)) = (putL x (ps.take k)).set a.toNat b := by
  unfold putL
  rw [List.take_add_one, h, List.foldl_append]; rfl
theorem co_set {x : List Int} {i : Nat} (v : Int) (hi : i < x.length) (j : Nat) : co (x.set i v) j = if j = i then v else co x j := by
  unfold co
  by_cases e : j = i
  · subst e; rw [if_pos rfl, List.getElem?_set_self hi]; rfl
  · rw [if_neg e, List.getElem?_set_ne (fun q => e q.symm)]
theorem putL_off : ∀ (ps : List (Int × Int)) (x : List Int) {j : Nat}, j ∉ idx ps → co (putL x ps) j = co x j
  | [], _, _, _ => rfl
  | q :: ps, x, j, h => by
    show co (putL (x.set _ _) ps) j = _
    have h' : j ≠ q.1.toNat ∧ j ∉ idx ps := by
      constructor
      · exact fun e => h (by rw [e]; exact List.mem_cons_self ..)
      · exact fun e => h (List.mem_cons_of_mem _ e)
    rw [putL_off ps _ h'.2]
    unfold co
    rw [List.getElem?_set_ne (fun q => h'.1 q.symm)]
theorem putL_in : ∀ (ps : List (Int × Int)) (x : List Int), (idx ps).Nodup → (∀ j ∈ idx ps, j < x.length) → ∀ q ∈ ps, co (putL x ps) q.1.toNat = q.2
  | [], _, _, _, _, h => by cases h
  | q :: ps, x, hn, hl, r, hr => by
    show co (putL (x.set _ _) ps) _ = _
    have hn' := List.nodup_cons.1 (show (q.1.toNat :: idx ps).Nodup from hn)
    rcases List.mem_cons.1 hr with rfl | h
    · rw [putL_off ps _ hn'.1, co_set _ (hl _ (List.mem_cons_self ..)), if_pos rfl]
    · exact putL_in ps _ hn'.2 (fun j hj => by rw [List.length_set]; exact hl j (List.mem_cons_of_mem _ hj)) r h
theorem putL_el {p : Int} : ∀ (ps : List (Int × Int)) (x : List Int), El p x → (∀ q ∈ ps, 0 ≤ q.2 ∧ q.2 < p) → El p (putL x ps)
  | [], _, h, _ => h
  | q :: ps, x, h, hq => putL_el ps _ (fun y hy => by
      rcases List.mem_or_eq_of_mem_set hy with h1 | h1
      · exact h y h1
      · subst h1; exact hq q (List.mem_cons_self ..)) fun r hr => hq r (List.mem_cons_of_mem _ hr)
def oI (L : List Nat) : List Int := L.map fun n : Nat => (n : Int)
theorem oI_len (L : List Nat) : (oI L).length = L.length := by unfold oI; simp
theorem oI_co {L : List Nat} {i : Nat} (h : i < L.length) : co (oI L) i = (L.getD i 0 : Nat) := by
  unfold oI
  rw [List.getD_eq_getElem?_getD, List.getElem?_eq_getElem h]
  exact co_at (by rw [List.getElem?_map, List.getElem?_eq_getElem h]; rfl)
theorem oI_at {L : List Nat} {i : Nat} (h : i < L.length) : (oI L)[i]? = some ((L.getD i 0 : Nat) : Int) := by
  unfold oI
  rw [List.getElem?_map, List.getD_eq_getElem?_getD, List.getElem?_eq_getElem h]; rfl
/-- Words put at the places of L, one by one. -/
def fil (x : List Int) (L : List Nat) (s : List Int) : Nat → List Int
  | 0 => x
  | k + 1 => (fil x L s k).set (L.getD k 0) (co s k)
theorem fil_len (x : List Int) (L : List Nat) (s : List Int) : ∀ k, (fil x L s k).length = x.length
  | 0 => rfl
  | k + 1 => by show ((fil x L s k).set _ _).length = _; rw [List.length_set, fil_len x L s k]
theorem fil_el {p : Int} (hp : 0 < p) {x : List Int} (L : List Nat) {s : List Int} (hx : El p x) (hs : El p s) : ∀ k, El p (fil x L s k)
  | 0 => hx
  | k + 1 => fun y hy => by
    rcases List.mem_or_eq_of_mem_set hy with h1 | h1
    · exact fil_el hp L hx hs k y h1
    · subst h1; exact hs.co hp k
theorem getD_inj {L : List Nat} (hn : L.Nodup) {i j : Nat} (hi : i < L.length) (hj : j < L.length) (e : L.getD i 0 = L.getD j 0) : i = j := by
  rw [List.getD_eq_getElem?_getD, List.getD_eq_getElem?_getD, List.getElem?_eq_getElem hi, List.getElem?_eq_getElem hj] at e
  have e' : L[i] = L[j] := e
  rcases Nat.lt_trichotomy i j with h | h | h
  · exact absurd e' (List.pairwise_iff_getElem.1 hn i j hi hj h)
  · exact h
  · exact absurd e'.symm (List.pairwise_iff_getElem.1 hn j i hj hi h)
theorem getD_mem {L : List Nat} {i : Nat} (hi : i < L.length) : L.getD i 0 ∈ L := by
  rw [List.getD_eq_getElem?_getD, List.getElem?_eq_getElem hi]
  exact List.getElem_mem hi
theorem fil_co {x : List Int} {L : List Nat} (s : List Int) (hn : L.Nodup) (hl : ∀ j ∈ L, j < x.length) (h0 : ∀ j ∈ L, co x j = 0) : ∀ k, k ≤ L.length → ∀ j, co (fil x L s k) j = co x j + bsol k (fun i => L.getD i 0) (co s) j
  | 0, _, j => by show co x j = co x j + 0; omega
  | k + 1, hk, j => by
    show co ((fil x L s k).set _ _) j = co x j + (bsol k (fun i => L.getD i 0) (co s) j + if L.getD k 0 = j then co s k else 0)
    rw [co_set _ (by rw [fil_len]; exact hl _ (getD_mem (by omega)))]
    by_cases e : j = L.getD k 0
    · subst e
      rw [if_pos rfl, if_pos rfl, h0 _ (getD_mem (by omega)), bsol_else (co s) fun i hi e => by have := getD_inj hn (by omega) (by omega) e; omega]
      omega
    · rw [if_neg e, if_neg (fun q => e q.symm), fil_co s hn hl h0 k (by omega) j]
      omega
theorem fil_dot {p : Int} {x a : List Int} {L : List Nat} (s : List Int) (hn : L.Nodup) (hl : ∀ j ∈ L, j < x.length) (h0 : ∀ j ∈ L, co x j = 0) (ha : a.length = x.length) :
    dot p a (fil x L s L.length) = (sg a.length (fun j => co a j * co x j) + sg L.length (fun i => co a (L.getD i 0) * co s i)) % p := by
  unfold dot
  rw [← bsol_sum (n := a.length) (pv := fun i => L.getD i 0) (fun i hi => by rw [ha]; exact hl _ (getD_mem hi)) (co s) (co a), ← sg_add]
  exact congrArg (· % p) (sg_congr _ fun j _ => by rw [fil_co s hn hl h0 _ (Nat.le_refl _), Int.mul_add])
/-- What the given inputs leave of the fixed outputs. -/
def rgt (p : Int) (m : List (List Int)) (x : List Int) (outs : List (Int × Int)) : List Int := outs.map fun q => fsub p q.2 (dot p (ro m q.1.toNat) x)
theorem rgt_len (p : Int) (m : List (List Int)) (x : List Int) (outs : List (Int × Int)) : (rgt p m x outs).length = outs.length := by unfold rgt; simp
theorem rgt_el {p : Int} (hp : 0 < p) (m : List (List Int)) (x : List Int) (outs : List (Int × Int)) : El p (rgt p m x outs) := fun y hy => by
  obtain ⟨q, _, rfl⟩ := List.mem_map.1 hy
  exact md _ _ hp
theorem rest_is {n : Nat} {C : List Nat} (hn : C.Nodup) (hl : ∀ j ∈ C, j < n) : (rest n C).length + C.length = n := by
  have h1 := rest_len n C
  have h2 := sub_len (A := rest n C ++ C) (B := List.range n) (List.nodup_append.2 ⟨rest_nodup n C, hn, fun a ha b hb e => (mem_rest.1 ha).2 (e ▸ hb)⟩) fun x hx => by
    rw [List.mem_range]
    rcases List.mem_append.1 hx with h | h
    · exact (mem_rest.1 h).1
    · exact hl x h
  rw [List.length_append, List.length_range] at h2
  omega
def sqm (m : List (List Int)) (ins outs : List (Int × Int)) : List (List Int) := subM m (outs.map Prod.fst) (oI (rest (ncol m) (idx ins)))
def xin (m : List (List Int)) (ins : List (Int × Int)) : List Int := putL (List.replicate (ncol m) 0) ins
theorem xin_len (m : List (List Int)) (ins : List (Int × Int)) : (xin m ins).length = ncol m := by unfold xin; rw [putL_len, List.length_replicate]
/-- The completed inputs. -/
def cmp (p : Int) (m : List (List Int)) (ins outs : List (Int × Int)) : Option (List Int) :=
  if rnk p (sqm m ins outs) < outs.length then none
  else some (fil (xin m ins) (rest (ncol m) (idx ins)) ((slv p (sqm m ins outs) (rgt p m (xin m ins) outs)).getD []) (rest (ncol m) (idx ins)).length)
/-- Points with distinct indices in range. -/
def plcB (ps : List (Int × Int)) (n : Nat) : Bool := decide ((∀ q ∈ ps, q.1 < (n : Int)) ∧ (ps.map Prod.fst).Nodup)
def evenB (m : List (List Int)) : Bool := decide (0 < m.length) && decide (0 < ncol m) && rect m
/-- The arguments give so many components as there are columns. -/
def argB (m : List (List Int)) (ins outs : List (Int × Int)) : Bool := evenB m && plcB ins (ncol m) && plcB outs m.length && (ins.length + outs.length == ncol m)
structure Arg (m : List (List Int)) (ins outs : List (Int × Int)) : Prop where
  rows : 0 < m.length
  cols : 0 < ncol m
  rect : rect m = true
  inl : ∀ j ∈ idx ins, j < ncol m
  inn : (idx ins).Nodup
  outl : ∀ q ∈ outs, 0 ≤ q.1 ∧ q.1 < (m.length : Int)
  outn : (outs.map Prod.fst).Nodup
  sum : ins.length + outs.length = ncol m
theorem idx_nodup {ps : List (Int × Int)} (h : (ps.map Prod.fst).Nodup) (h0 : ∀ q ∈ ps, 0 ≤ q.1) : (idx ps).Nodup := by
  induction ps with
  | nil => exact List.nodup_nil
  | cons q ps ih =>
    have h' := List.nodup_cons.1 (show (q.1 :: ps.map Prod.fst).Nodup from h)
    refine List.nodup_cons.2 ⟨fun hm => ?_, ih h'.2 fun r hr => h0 r (List.mem_cons_of_mem _ hr)⟩
    obtain ⟨r, hr, e⟩ := List.mem_map.1 hm
    have h1 := h0 q (List.mem_cons_self ..)
    have h2 := h0 r (List.mem_cons_of_mem _ hr)
    exact h'.1 (List.mem_map.2 ⟨r, hr, by have e' : r.1.toNat = q.1.toNat := e; omega⟩)
theorem Arg.of {m : List (List Int)} {ins outs : List (Int × Int)} (hi : ∀ q ∈ ins, 0 ≤ q.1) (ho : ∀ q ∈ outs, 0 ≤ q.1) (h : argB m ins outs = true) : Arg m ins outs := by
  unfold argB evenB plcB at h
  simp only [Bool.and_eq_true, decide_eq_true_eq, beq_iff_eq] at h
  obtain ⟨⟨⟨⟨⟨h1, h2⟩, h3⟩, h4, h5⟩, h6, h7⟩, h8⟩ := h
  exact ⟨h1, h2, h3, fun j hj => by obtain ⟨q, hq, rfl⟩ := List.mem_map.1 hj; have := h4 q hq; have := hi q hq; show q.1.toNat < _; omega, idx_nodup h5 hi, fun q hq => ⟨ho q hq, h6 q hq⟩, h7, h8⟩
section
variable {p : Int} {m : List (List Int)} {ins outs : List (Int × Int)}
theorem idx_len (ps : List (Int × Int)) : (idx ps).length = ps.length := by unfold idx; simp
theorem Arg.rest (h : Arg m ins outs) : (rest (ncol m) (idx ins)).length = outs.length := by
  have := rest_is h.inn h.inl
  have h2 := h.sum
  rw [idx_len] at this
  omega
theorem Arg.sq (h : Arg m ins outs) (hp : 0 < p) (hE : ∀ r ∈ m, El p r) : Mat p outs.length outs.length (sqm m ins outs) := by
  have := subM_mat hp (mat_of h.rect hE) (outs.map Prod.fst) (oI (MatMath.rest (ncol m) (idx ins))) fun i hi => by
    obtain ⟨q, hq, rfl⟩ := List.mem_map.1 hi
    exact h.outl q hq
  rw [oI_len, h.rest, List.length_map] at this
  exact this
theorem Arg.xin_el (_h : Arg m ins outs) (hp : 0 < p) (hi : ∀ q ∈ ins, 0 ≤ q.2 ∧ q.2 < p) : El p (xin m ins) := putL_el ins _ (fun x hx => by
  have := List.eq_of_mem_replicate hx
  omega) hi
theorem Arg.off (_h : Arg m ins outs) : ∀ j ∈ MatMath.rest (ncol m) (idx ins), co (xin m ins) j = 0 := fun j hj => by
  unfold xin
  rw [putL_off ins _ (mem_rest.1 hj).2]
  unfold co
  rw [List.getElem?_replicate]
  split <;> rfl
theorem Arg.lt (_h : Arg m ins outs) : ∀ j ∈ MatMath.rest (ncol m) (idx ins), j < (xin m ins).length := fun j hj => by
  rw [xin_len]; exact (mem_rest.1 hj).1
theorem slv_empty (p : Int) : slv p [] [] = some [] := rfl
/-- A completed vector bears the fixed outputs and the given inputs. -/
theorem cmp_some (hg : GoodI p) (h : Arg m ins outs) (hE : ∀ r ∈ m, El p r) (hi : ∀ q ∈ ins, 0 ≤ q.2 ∧ q.2 < p) (ho : ∀ q ∈ outs, 0 ≤ q.2 ∧ q.2 < p) {s : List Int}
    (hs : slv p (sqm m ins outs) (rgt p m (xin m ins) outs) = some s) :
    let x := fil (xin m ins) (rest (ncol m) (idx ins)) s (rest (ncol m) (idx ins)).length
    El p x ∧ x.length = ncol m ∧ (∀ q ∈ ins, co x q.1.toNat = q.2) ∧ ∀ q ∈ outs, co (app p m x) q.1.toNat = q.2 := by
  have hp := hg.two
  have hM := h.sq (p := p) (by omega) hE
  have hre := rgt_el (p := p) (by omega) m (xin m ins) outs
  obtain ⟨s1, s2, s3⟩ := slv_some hg hM.isRect hM.els hre (by rw [hM.rows, rgt_len]) hs
  have hnd := rest_nodup (ncol m) (idx ins)
  refine ⟨fil_el (by omega) _ (h.xin_el (by omega) hi) s3 _, by rw [fil_len, xin_len], fun q hq => ?_, fun q hq => ?_⟩
  · rw [fil_co s hnd h.lt h.off _ (Nat.le_refl _), bsol_else (co s) fun i hi e => ?_, Int.add_zero]
    · unfold xin
      exact putL_in ins _ h.inn (fun j hj => by rw [List.length_replicate]; exact h.inl j hj) q hq
    · have := mem_rest.1 (getD_mem hi)
      rw [e] at this
      exact this.2 (List.mem_map.2 ⟨q, hq, rfl⟩)
  · obtain ⟨k, hk, e⟩ := List.mem_iff_getElem.1 hq
    have hlt := h.outl q hq
    have hr : q.1.toNat < m.length := by omega
    have hrl : (ro m q.1.toNat).length = (xin m ins).length := by rw [xin_len]; exact rect_iff.1 h.rect _ hr
    rw [app_co _ hr, fil_dot s hnd h.lt h.off hrl]
    have hk2 : co (app p (sqm m ins outs) s) k = co (rgt p m (xin m ins) outs) k := by rw [s1]
    rw [app_co s (by rw [hM.rows]; exact hk)] at hk2
    have hrk : co (rgt p m (xin m ins) outs) k = fsub p q.2 (dot p (ro m q.1.toNat) (xin m ins)) := co_at (by unfold rgt; rw [List.getElem?_map, List.getElem?_eq_getElem hk, e]; rfl)
    rw [hrk] at hk2
    have hfst : co (outs.map Prod.fst) k = q.1 := co_at (by rw [List.getElem?_map, List.getElem?_eq_getElem hk, e]; rfl)
    have hdot : dot p (ro (sqm m ins outs) k) s = sg (rest (ncol m) (idx ins)).length (fun i => co (ro m q.1.toNat) ((rest (ncol m) (idx ins)).getD i 0) * co s i) % p := by
      unfold dot
      rw [(hM.ro hk).1, ← h.rest]
      refine congrArg (· % p) (sg_congr _ fun i hi => ?_)
      rw [← mx_ro]
      unfold sqm
      rw [subM_mx m (by rw [List.length_map]; exact hk) (by rw [oI_len]; exact hi), mx_ro, hfst, oI_co hi, Int.toNat_natCast]
    rw [hdot] at hk2
    have hb := ho q hq
    generalize sg (rest (ncol m) (idx ins)).length _ = S at *
    unfold dot at hk2
    generalize sg (ro m q.1.toNat).length _ = T at *
    unfold fsub at hk2
    have : (T + S) % p = q.2 % p := by
      have h1 : (T + S) % p = (T + (q.2 - T % p)) % p := ma rfl hk2
      rw [h1]
      have h2 : (T + (q.2 - T % p)) % p = (T + (q.2 - T)) % p := ma rfl (ms rfl (mdd p T))
      rw [h2]
      congr 1
      omega
    rw [this, small hb.1 hb.2]
theorem cmp_ex (hg : GoodI p) (h : Arg m ins outs) (hE : ∀ r ∈ m, El p r) (hr : ¬ rnk p (sqm m ins outs) < outs.length) : ∃ s, slv p (sqm m ins outs) (rgt p m (xin m ins) outs) = some s := by
  have hp := hg.two
  have hM := h.sq (p := p) (by omega) hE
  by_cases h0 : outs.length = 0
  · have e1 : outs = [] := List.eq_nil_of_length_eq_zero h0
    subst e1
    exact ⟨[], slv_empty p⟩
  · have hs := squ_mat hM (by omega)
    cases hi : invM p (sqm m ins outs) with
    | none => exact absurd ((inv_none_iff hg hs hM.els).1 hi) (by rw [hM.rows]; exact hr)
    | some X => exact ⟨_, slv_inv hg hs hM.els (rgt_el (by omega) _ _ _) (by rw [hM.rows, rgt_len]) hi⟩
end
end Go.Proofs.Ytjijlefplidhpaa

/- validSize, firstPoints and New of package hyperinvertible, New of the reference: the matrix of weights, in memory of the call's own, or the error. Conditions: where it succeeds, a supported prime. -/
namespace Go.Proofs.Ytjijlefplidhpaa
set_option maxRecDepth 100000
open Go.RowKit PolyMath FieldMath MatMath

theorem valid_any (n : Int) (w : World) :
    Calls Try.prog 31 #[.int .i64 n] w fun e w' => e = .returned (.bool (decide (1 ≤ n ∧ n ≤ 26))) ∧ w = w' := by
  by_cases h1 : 1 ≤ n
  · by_cases h2 : n ≤ 26
    · rw [decide_eq_true ⟨h1, h2⟩]
      go_enter Try.func31, Try.ntmps31
      go_wp2
      go_ret
      exact ⟨rfl, rfl⟩
    · rw [decide_eq_false (fun h => h2 h.2)]
      go_enter Try.func31, Try.ntmps31
      go_wp2
      go_ret
      exact ⟨rfl, rfl⟩
  · rw [decide_eq_false (fun h => h1 h.1)]
    go_enter Try.func31, Try.ntmps31
    go_wp2
    go_ret
    exact ⟨rfl, rfl⟩

set_option maxHeartbeats 1000000 in
theorem first_row (N : Nat) (hl : N ≤ 100) (w : World) :
    Calls Try.prog 32 #[.int .i64 N] w fun e w' => Row w e w' (upts N) := by
  obtain ⟨i0, hi, hz0, hz1, hz2⟩ := info_parts info_u64
  have hB8 : Hid (i0.bytes * N ≤ 281474976710656) := Lib.hid (by rw [hz2]; omega)
  have hD : Hid (fillL pt N N = upts N) := Lib.hid (fillL_done pt N)
  go_enter Try.func32, Try.ntmps32
  go_wp2_with (at_make; refine wpList_make_full _ rfl _ _ 31 rfl w.heap.size 22 i0 (.int .u64 0) 1 Try.underlying31 hi hz0 hz1 .i64 .i64 _ _ N rfl rfl (by omega) (by omega) hB8.out (by simp only [maxLen]; omega) (Nat.le_refl _) ?_; intro w1 hown1 hgrow1)
  have hb1 : Below w.heap.size w w1 := (Below.refl _ w).grown hgrow1 (Nat.le_refl _) (fun k e => by cases e)
  simp only [Value.cells, toList_madeCells_one, Nat.mul_one] at hown1
  have hown2 : OwnAt w1 w.heap.size w.heap.size N N (fillL pt N 0) := by
    unfold OwnAt; rw [fillL_start]; simpa using hown1
  clear hown1 hgrow1
  go_loopw [9] (fun i wr => ∃ k : Nat, k ≤ N ∧ i = .int .i64 k ∧ OwnAt wr w.heap.size w.heap.size N N (fillL pt N k) ∧ Below w.heap.size w wr) (fun i _ => N - (intOf i).toNat)
  case atStart => exact ⟨0, Nat.zero_le _, rfl, hown2, hb1⟩
  case round =>
    obtain ⟨k, hk, rfl, hO, hB⟩ := hrel
    by_cases hlt : k < N
    · have hS : Hid ((fillL pt N k).set k ((k : Int) + 1) = fillL pt N (k + 1)) := Lib.hid (fillL_set pt N k)
      have hcell := hO.cell (fillL_get pt N k k hlt)
      have hfz := hO.frozen k
      have hlt2 := hO.lt
      have hput := Lib.hid (hO.put k ((k : Int) + 1))
      have hkN : (k : Int) < N := by omega
      go_wp2
      go_roundw
      case rel => exact ⟨k + 1, by omega, by simp, by rw [← hS.out]; exact hput.out, hB.setCell (p := ⟨w.heap.size, k, none⟩) (Nat.le_refl _) _⟩
      case measure => simp [intOf]; omega
    · obtain rfl : k = N := by omega
      rw [hD.out] at hO
      have hs3 := Lib.hid hO.sl
      have hlen := Lib.hid (upts_len k)
      go_wp2
      go_ret
      exact ⟨_, _, by rw [hlen.out]; rfl, hs3.out, hB⟩

/-- Weights in memory of the call's own. -/
def WtOwn (p : Int) (xs : List Int) (z : Int) (w : World) (e : Ending) (w' : World) : Prop :=
  ∃ v, e = .returned (.tuple #[v, .int .i64 0]) ∧ w'.ownsRow w.heap.size 22 1 v (wts p xs z).length ((wts p xs z).map (Value.int .u64)) ∧ Below w.heap.size w w'
set_option maxHeartbeats 2000000 in
theorem wt_own (p z : Int) (hp : OkP p) (hz : 0 ≤ z ∧ z < p) (A : Option Addr) (c : Nat) (xs : List Int) (hxs : El p xs) (hnd : xs.Nodup) (hl : xs.length ≤ 100) (w : World) (h : Sl w A c xs) :
    Calls Try.prog 33 #[.int .u64 p, .slice A xs.length c, .int .u64 z] w fun e w' => WtOwn p xs z w e w' := by
  have hbd := hp.bd
  have hscl := scl_row p hp A c xs hxs hl w h
  go_enter Try.func33, Try.ntmps33
  go_wp2_with fail
  refine hscl.mono ?_
  clear hscl
  rintro e w2 (⟨_, g, rfl, hO2, hb2⟩ | ⟨hno, rfl, hb2⟩)
  case inr => exact absurd hnd hno
  case inl =>
    have hstart : OwnAt w2 w.heap.size g xs.length xs.length (mixL (fun i => pev p (base p xs i) z) (scl p xs) xs.length 0) := by rw [mixL_start]; exact hO2
    have hend := Lib.hid (show mixL (fun i => pev p (base p xs i) z) (scl p xs) xs.length xs.length = wts p xs z from mixL_done _ _ _)
    have hstep := Lib.hid (fun k (hk : k < xs.length) => wt_eq hp.good hnd hxs hk z)
    have hWl := Lib.hid (wts_len p xs z)
    clear hnd hO2
    go_wp2
    go_loopw [23] (fun i wr => ∃ k : Nat, k ≤ xs.length ∧ i = .int .i64 k ∧ OwnAt wr w.heap.size g xs.length xs.length (mixL (fun i => pev p (base p xs i) z) (scl p xs) xs.length k) ∧ Below w.heap.size w wr) (fun i _ => xs.length - (intOf i).toNat)
    case atStart => exact ⟨0, Nat.zero_le _, rfl, hstart, hb2⟩
    case round =>
      obtain ⟨k, hk, rfl, hO, hB⟩ := hrel
      by_cases hlt : k < xs.length
      · have hbp := bprod_any p z hp hz A c xs hxs (by omega) k hlt wr (h.next hB)
        have hget := mixL_get (fun i => pev p (base p xs i) z) (scl p xs) xs.length k k hlt
        rw [if_neg (Nat.lt_irrefl k)] at hget
        have hset := mixL_set (fun i => pev p (base p xs i) z) (scl p xs) xs.length k
        rw [← hstep.out k hlt] at hset
        have hsb := scl_bd (p := p) (by omega) xs k
        have hgb := gpr_bd (p := p) (by omega) z (xs.eraseIdx k) 1 (by omega)
        generalize scl p xs k = s at *
        generalize gpr p z 1 (xs.eraseIdx k) = G at *
        have hcell := hO.cell hget
        have hlt2 := hO.lt
        have hG := Lib.hid hget
        have hS := Lib.hid hset
        have hkN : (k : Int) < xs.length := by omega
        clear hget hset
        go_wp2_with (first | (go_at_call 60; refine hbp.mono ?_; clear hbp; rintro e w3 ⟨rfl, hb3⟩; have hO3 := hO.next hb3; have hcell3 := hO3.cell hG.out; have hfz3 := hO3.frozen k) | (go_at_call 17; refine (mul_any _ _ _ hp hsb.1 hsb.2 hgb.1 hgb.2 _).mono ?_; rintro e w' ⟨rfl, rfl⟩))
        have hB3 := hB.trans (hb3.mono hB.size)
        go_roundw
        case rel => exact ⟨k + 1, by omega, by simp, by rw [← hS.out]; exact hO3.put k _, hB3.setCell (p := ⟨g, k, none⟩) hlt2.1 _⟩
        case measure => simp [intOf]; omega
      · obtain rfl : k = xs.length := by omega
        rw [hend.out] at hO
        have hO9 := Lib.hid hO
        go_wp2
        go_ret2
        exact ⟨_, rfl, by rw [hWl.out]; exact hO9.out, hB⟩

set_option maxHeartbeats 2000000 in
theorem rWt_own (p z : Int) (hp : OkP p) (hz : 0 ≤ z ∧ z < p) (A : Option Addr) (c : Nat) (xs : List Int) (hxs : El p xs) (hnd : xs.Nodup) (hl : xs.length ≤ 100) (w : World) (h : Sl w A c xs) :
    Calls Try.prog 34 #[.int .u64 p, .slice A xs.length c, .int .u64 z] w fun e w' => WtOwn p xs z w e w' := by
  obtain ⟨i0, hi, hz0, hz1, hz2⟩ := info_parts info_u64
  have hbd := hp.bd
  have hun := unlike_any A c xs w h (by omega)
  go_enter Try.func34, Try.ntmps34
  go_wp2_with fail
  refine hun.mono ?_
  clear hun
  rintro e w2 ⟨rfl, m, rfl⟩
  have hB2 := below_drewN (Below.refl w.heap.size w) m
  rw [decide_eq_true hnd]
  have hND := Lib.hid hnd
  have hWl := Lib.hid (wts_len p xs z)
  have hD : Hid (((List.range xs.length).map fun i => pev p (base p xs i) z) = wts p xs z) := Lib.hid rfl
  clear hnd
  go_wp2
  go_loopw [8, 9] (fun v i wr => ∃ k : Nat, k ≤ xs.length ∧ i = .int .i64 k ∧ wr.ownsRow w.heap.size 22 1 v k (((List.range k).map fun i => pev p (base p xs i) z).map (Value.int .u64)) ∧ Below w.heap.size w wr) (fun _ i _ => xs.length - (intOf i).toNat)
  case atStart => exact ⟨0, Nat.zero_le _, rfl, World.ownsRow_nil _ _ _ _, hB2⟩
  case round =>
    obtain ⟨k, hk, rfl, hrow, hB⟩ := hrel
    have hsz := hB.size
    by_cases hlt : k < xs.length
    · have hba := rBase_row p hp A c xs hND.out hxs (by omega) k hlt wr (h.next hB)
      have hbe := base_el (p := p) (by omega) xs k
      have hbn := base_len p xs hlt
      have hev := fun W A7 c7 (h7 : Sl W A7 c7 (base p xs k)) => rEval_any p z hp hz A7 c7 _ hbe (by omega) W h7
      have hk' : (k : Int) < xs.length := by omega
      go_wp2_with (first | (go_at_call 63; refine hba.mono ?_; clear hba; rintro e w3 ⟨A3, c3, rfl, hs3, hb3⟩; have hev3 := hev w3 A3 c3 hs3; have hrow3 := own_below hrow hb3; have hB3 := hB.trans (hb3.mono hsz); clear hev) | (go_at_call 62; refine hev3.mono ?_; clear hev3; rintro e w' ⟨rfl, rfl⟩) | (at_builtin; refine wpList_append_own _ rfl _ _ 31 rfl w.heap.size 22 i0 (.int .u64 0) 1 8 Try.underlying31 hi hz0 hz1 hz2 rfl (by decide) _ _ _ rfl (hrow3.alloc _) ⟨w3.heap.size, 0, none⟩ 1 1 [.int .u64 (pev p (base p xs k) z)] rfl rfl (cell_one_new _ _ _) (by simp [Value.oneCell']) (by simp only [maxLen]; omega) (by omega) (by have := hB3.size; simp; omega) ?_; intro v' w4 hown' hgrow _))
      have hB4 : Below w.heap.size w w4 := (hB3.alloc hB3.size _).grown hgrow (by have := hB3.size; simp; omega) (fun k e => (hrow3.lt k e).1)
      go_roundw
      case rel => exact ⟨k + 1, by omega, by simp, own_next (f := fun i => pev p (base p xs i) z) hown', hB4⟩
      case measure => simp [intOf]; omega
    · obtain rfl : k = xs.length := by omega
      rw [hD.out] at hrow
      have hrow9 := Lib.hid hrow
      obtain ⟨A2, c2, hv, hs2⟩ := own_form hrow
      subst hv
      go_wp2
      go_ret2
      exact ⟨_, rfl, by have h9 := hrow9.out; rw [hWl.out] at h9 ⊢; exact h9, hB⟩

theorem new_bad (p r c : Int) (h : ¬ (1 ≤ r ∧ r ≤ 26 ∧ 1 ≤ c ∧ c ≤ 26 ∧ r + c < p)) (w : World) :
    Calls Try.prog 12 #[.int .u64 p, .int .i64 r, .int .i64 c] w fun e w' => e = .returned (.tuple #[.slice none 0 0, .int .i64 2]) ∧ Below w.heap.size w w' := by
  have hv := valid_any r w
  have hv2 := valid_any c w
  by_cases h1 : 1 ≤ r ∧ r ≤ 26
  · by_cases h2 : 1 ≤ c ∧ c ≤ 26
    · have h3 : p ≤ r + c := by omega
      have h4 : IntKind.i64.wrap (r + c) = r + c := IntWalk.i64_in _ (by omega)
      have h5 : IntKind.u64.wrap (r + c) = r + c := IntWalk.u64_in _ (by omega)
      rw [decide_eq_true h1] at hv
      rw [decide_eq_true h2] at hv2
      go_enter Try.func12, Try.ntmps12
      go_wp2_with fail
      refine hv.mono ?_; rintro e w1 ⟨rfl, rfl⟩
      go_wp2_with fail
      refine hv2.mono ?_; rintro e w1 ⟨rfl, rfl⟩
      go_wp2_with fail
      go_ret2
      exact ⟨rfl, Below.refl _ _⟩
    · rw [decide_eq_true h1] at hv
      rw [decide_eq_false h2] at hv2
      go_enter Try.func12, Try.ntmps12
      go_wp2_with fail
      refine hv.mono ?_; rintro e w1 ⟨rfl, rfl⟩
      go_wp2_with fail
      refine hv2.mono ?_; rintro e w1 ⟨rfl, rfl⟩
      go_wp2_with fail
      go_ret2
      exact ⟨rfl, Below.refl _ _⟩
  · rw [decide_eq_false h1] at hv
    go_enter Try.func12, Try.ntmps12
    go_wp2_with fail
    refine hv.mono ?_; rintro e w1 ⟨rfl, rfl⟩
    go_wp2_with fail
    go_ret2
    exact ⟨rfl, Below.refl _ _⟩

set_option maxHeartbeats 2000000 in
theorem new_ok (p : Int) (hp : OkP p) (N L : Nat) (h1 : 1 ≤ N ∧ N ≤ 26) (h2 : 1 ≤ L ∧ L ≤ 26) (hs : ((L + N : Nat) : Int) < p) (w : World) :
    Calls Try.prog 12 #[.int .u64 p, .int .i64 N, .int .i64 L] w fun e w' => MatE w e w' (nw p N L) := by
  obtain ⟨j0, hj, hy0, hy1, hy2⟩ := info_parts info_sl
  have hbd := hp.bd
  have hv := valid_any N w
  have hv2 := valid_any L w
  rw [decide_eq_true (by omega)] at hv hv2
  have hf := first_row L (by omega) w
  have h4 : IntKind.i64.wrap ((N : Int) + L) = (N : Int) + L := IntWalk.i64_in _ (by omega)
  have h5 : IntKind.u64.wrap ((N : Int) + L) = (N : Int) + L := IntWalk.u64_in _ (by omega)
  have h6 : ¬ p ≤ (N : Int) + L := by omega
  have hB8 : Hid (j0.bytes * N ≤ 281474976710656) := Lib.hid (by rw [hy2]; omega)
  have hnwl := Lib.hid (nw_len p N L)
  have hro := Lib.hid (fun i (hi : i < N) => nw_ro p (rows := N) L hi)
  have hun := upts_nodup L
  have hue := upts_el (p := p) (n := L) (by omega)
  have hul := Lib.hid (upts_len L)
  generalize hUX : upts L = ux at *
  generalize hMX : nw p N L = mt at *
  clear hMX
  have HUX := Lib.hid hUX
  clear hUX
  go_enter Try.func12, Try.ntmps12
  go_wp2_with fail
  refine hv.mono ?_; rintro e w1 ⟨rfl, rfl⟩
  go_wp2_with fail
  refine hv2.mono ?_; rintro e w1 ⟨rfl, rfl⟩
  go_wp2_with fail
  refine hf.mono ?_; rintro e w1 ⟨Ax, cx, rfl, sx, hB1⟩
  clear hv hv2 hf
  go_wp2_with (at_make; refine wpList_make_full _ rfl _ _ 25 rfl w1.heap.size 31 j0 (.slice none 0 0) 1 Try.underlying25 hj hy0 hy1 .i64 .i64 _ _ N rfl rfl (by omega) (by omega) hB8.out (by simp only [maxLen]; omega) (Nat.le_refl _) ?_; intro w2 hown2 hgrow2)
  have hb2 : Below w1.heap.size w1 w2 := (Below.refl _ w1).grown hgrow2 (Nat.le_refl _) (fun k e => by cases e)
  have hM2 : MP w1.heap.size w2 (.slice (some ⟨w1.heap.size, 0, none⟩) N N) N 0 _ mt := ⟨hown2, hnwl.out, Nat.zero_le _, fun i hi => absurd hi (Nat.not_lt_zero _), fun i j u x e hi => absurd hi (Nat.not_lt_zero _)⟩
  clear hown2 hgrow2
  go_loopw [33] (fun i wr => ∃ (k : Nat) (us : List Value), k ≤ N ∧ i = .int .i64 k ∧ MP w1.heap.size wr (.slice (some ⟨w1.heap.size, 0, none⟩) N N) N k us mt ∧ Below w1.heap.size w1 wr) (fun i _ => N - (intOf i).toNat)
  case atStart => exact ⟨0, _, Nat.zero_le _, rfl, hM2, hb2⟩
  case round =>
    obtain ⟨k, us, hk, rfl, hM, hB⟩ := hrel
    by_cases hlt : k < N
    · have hsx := sx.next hB
      have hpk : Hid (pt (L + k) = (L : Int) + 1 + k) := Lib.hid (by unfold pt; omega)
      have hwt := wt_own p (pt (L + k)) hp (by unfold pt; omega) Ax cx ux hue hun (by rw [hul.out]; omega) wr hsx
      have hrk : Hid (wts p ux (pt (L + k)) = ro mt k) := Lib.hid (by rw [hro.out k hlt])
      unfold WtOwn at hwt
      rw [hrk.out, hpk.out] at hwt
      obtain ⟨u0, hu0⟩ : ∃ u, us[k]? = some u := ⟨_, List.getElem?_eq_getElem (by rw [hM.vlen]; exact hlt)⟩
      have hcell := hM.cell hlt hu0
      have hfz := World.ownsRow.frozenAt hM.head k
      have hgl := World.ownsRow.lt hM.head w1.heap.size rfl
      have hMH := Lib.hid hM
      have hkN : (k : Int) < N := by omega
      have hc1 : IntKind.u64.wrap ((L : Int) + 1 + k) = (L : Int) + 1 + k := IntWalk.u64_in _ (by omega)
      clear hM
      go_wp2_with (go_at_call 33; refine hwt.mono ?_; clear hwt; rintro e w3 ⟨u, rfl, hu, hb3⟩; obtain ⟨A3, c3, hu3, _⟩ := own_form hu; subst hu3; have hfz3 : w3.frozen? ⟨w1.heap.size, k, none⟩ = false := (hb3.frozen (p := ⟨w1.heap.size, k, none⟩) hgl.2).trans hfz; have hcell3 := (hb3.cell (p := ⟨w1.heap.size, k, none⟩) hgl.2).trans hcell; have hgl3 : w1.heap.size < w3.heap.size := Nat.lt_of_lt_of_le hgl.2 hb3.size; obtain ⟨w4, hw4⟩ : ∃ w4, w4 = w3.setCell ⟨w1.heap.size, k, none⟩ (.slice A3 (ro mt k).length c3) := ⟨_, rfl⟩; have hM4 : MP w1.heap.size w4 (.slice (some ⟨w1.heap.size, 0, none⟩) N N) N (k + 1) (us.set k (.slice A3 (ro mt k).length c3)) mt := (by
          have hsz : w1.heap.size ≤ wr.heap.size := hB.size
          have := hMH.out.lay (w' := w3) (i := k) (k' := k + 1) (u := .slice A3 (ro mt k).length c3) (r := ro mt k) (row := none) (Nat.le_refl _) hlt (by omega) (grown_of hb3 none) (fun b e => by cases e) (own_wide hu hsz) (fun b e => .inl (World.ownsRow.lt hu b e).1)
          rw [set_ro] at this
          rw [hw4]; exact this); have hB4 : Below w1.heap.size w1 w4 := (by rw [hw4]; exact (hB.trans (hb3.mono hB.size)).setCell (p := ⟨w1.heap.size, k, none⟩) (Nat.le_refl _) _))
      go_roundw
      case rel => exact ⟨k + 1, us.set k (.slice A3 (ro mt k).length c3), by omega, by simp, by rw [← hw4]; exact hM4, by rw [← hw4]; exact hB4⟩
      case measure => simp [intOf]; omega
    · obtain rfl : k = N := by omega
      have hS := Lib.hid hM.sll
      have hBB := hB1.trans (hB.mono hB1.size)
      go_wp2
      go_ret2
      exact ⟨_, _, by rw [hnwl.out]; rfl, hS.out, hBB⟩

theorem rNew_bad (p r c : Int) (h : ¬ (1 ≤ r ∧ r ≤ 26 ∧ 1 ≤ c ∧ c ≤ 26 ∧ r + c < p)) (w : World) :
    Calls Try.prog 13 #[.int .u64 p, .int .i64 r, .int .i64 c] w fun e w' => e = .returned (.tuple #[.slice none 0 0, .int .i64 2]) ∧ Below w.heap.size w w' := by
  by_cases a1 : r < 1
  · go_enter Try.func13, Try.ntmps13
    go_wp2_with fail
    go_ret2
    exact ⟨rfl, Below.refl _ _⟩
  · by_cases a2 : 26 < r
    · go_enter Try.func13, Try.ntmps13
      go_wp2_with fail
      go_ret2
      exact ⟨rfl, Below.refl _ _⟩
    · by_cases a3 : c < 1
      · go_enter Try.func13, Try.ntmps13
        go_wp2_with fail
        go_ret2
        exact ⟨rfl, Below.refl _ _⟩
      · by_cases a4 : 26 < c
        · go_enter Try.func13, Try.ntmps13
          go_wp2_with fail
          go_ret2
          exact ⟨rfl, Below.refl _ _⟩
        · have h3 : p ≤ r + c := by omega
          have h4 : IntKind.i64.wrap (r + c) = r + c := IntWalk.i64_in _ (by omega)
          have h5 : IntKind.u64.wrap (r + c) = r + c := IntWalk.u64_in _ (by omega)
          go_enter Try.func13, Try.ntmps13
          go_wp2_with fail
          go_ret2
          exact ⟨rfl, Below.refl _ _⟩

theorem upts_next (k : Nat) : upts (k + 1) = upts k ++ [(k : Int) + 1] := by unfold upts; rw [List.range_succ, List.map_append]; rfl

set_option maxHeartbeats 2000000 in
theorem rNew_ok (p : Int) (hp : OkP p) (N L : Nat) (h1 : 1 ≤ N ∧ N ≤ 26) (h2 : 1 ≤ L ∧ L ≤ 26) (hs : ((L + N : Nat) : Int) < p) (w : World) :
    Calls Try.prog 13 #[.int .u64 p, .int .i64 N, .int .i64 L] w fun e w' => MatE w e w' (nw p N L) := by
  obtain ⟨i0, hi, hz0, hz1, hz2⟩ := info_parts info_u64
  obtain ⟨j0, hj, hy0, hy1, hy2⟩ := info_parts info_sl
  have hbd := hp.bd
  have h4 : IntKind.i64.wrap ((N : Int) + L) = (N : Int) + L := IntWalk.i64_in _ (by omega)
  have h5 : IntKind.u64.wrap ((N : Int) + L) = (N : Int) + L := IntWalk.u64_in _ (by omega)
  have h6 : ¬ p ≤ (N : Int) + L := by omega
  have b1 : ¬ (N : Int) < 1 := by omega
  have b2 : ¬ (26 : Int) < N := by omega
  have b3 : ¬ (L : Int) < 1 := by omega
  have b4 : ¬ (26 : Int) < L := by omega
  have hun := upts_nodup L
  have hue := upts_el (p := p) (n := L) (by omega)
  have hul := Lib.hid (upts_len L)
  go_enter Try.func13, Try.ntmps13
  go_wp2_with fail
  go_loopw [8, 9] (fun v i wr => ∃ k : Nat, k ≤ L ∧ i = .int .i64 ((k : Int) + 1) ∧ wr.ownsRow w.heap.size 22 1 v k ((upts k).map (Value.int .u64)) ∧ Below w.heap.size w wr) (fun _ i _ => L + 1 - (intOf i).toNat)
  case atStart => exact ⟨0, Nat.zero_le _, rfl, World.ownsRow_nil _ _ _ _, Below.refl _ _⟩
  case round =>
    obtain ⟨k, hk, rfl, hrow, hB⟩ := hrel
    have hsz := hB.size
    by_cases hlt : k < L
    · have hkL : (k : Int) + 1 ≤ L := by omega
      have hNX := Lib.hid (upts_next k)
      go_wp2_with (at_builtin; refine wpList_append_own _ rfl _ _ 31 rfl w.heap.size 22 i0 (.int .u64 0) 1 8 Try.underlying31 hi hz0 hz1 hz2 rfl (by decide) _ _ _ rfl (hrow.alloc _) ⟨wr.heap.size, 0, none⟩ 1 1 [.int .u64 ((k : Int) + 1)] rfl rfl (cell_one_new _ _ _) (by simp [Value.oneCell']) (by simp only [maxLen]; omega) (by omega) (by simp; omega) ?_; intro v' w2 hown' hgrow _)
      have hB2 : Below w.heap.size w w2 := (hB.alloc hsz _).grown hgrow (by simp; omega) (fun k e => (hrow.lt k e).1)
      go_roundw
      case rel => exact ⟨k + 1, by omega, by simp, by rw [hNX.out, List.map_append]; exact hown', hB2⟩
      case measure => simp [intOf]; omega
    · obtain rfl : k = L := by omega
      have hkL : ¬ (k : Int) + 1 ≤ k := by omega
      obtain ⟨Ax, cx, hv, sx⟩ := own_form hrow
      rw [hul.out] at hv
      subst hv
      rename World => W0
      generalize hUX : upts k = ux at *
      have HUX := Lib.hid hUX
      clear hUX hrow
      go_wp2_with fail
      go_loopw [10, 11] (fun v i wr => ∃ (q : Nat) (vs : List Value), q ≤ N ∧ i = .int .i64 ((q : Int) + 1) ∧ MP W0.heap.size wr v q q vs (nw p q k) ∧ Below W0.heap.size W0 wr) (fun _ i _ => N + 1 - (intOf i).toNat)
      case atStart => exact ⟨0, [], Nat.zero_le _, rfl, MP.zero _ _, Below.refl _ _⟩
      case round =>
        obtain ⟨q, vs, hq, rfl, hM, hB2⟩ := hrel
        have hsz2 := hB2.size
        by_cases hlt2 : q < N
        · have hqN : (q : Int) + 1 ≤ N := by omega
          have hpk : Hid (pt (k + q) = (k : Int) + ((q : Int) + 1)) := Lib.hid (by unfold pt; omega)
          have hwt := rWt_own p (pt (k + q)) hp (by unfold pt; omega) Ax cx ux hue hun (by rw [hul.out]; omega) wr (sx.next hB2)
          unfold WtOwn at hwt
          rw [hul.out] at hwt
          have hWl : (wts p ux (pt (k + q))).length = k := by rw [wts_len, hul.out]
          have hNX : Hid (nw p q k ++ [wts p ux (pt (k + q))] = nw p (q + 1) k) := Lib.hid (by rw [nw_next, HUX.out])
          have hMH := Lib.hid hM
          obtain ⟨Ao, co', ho⟩ := row_form hM.head
          subst ho
          have hc1 : IntKind.u64.wrap ((k : Int) + ((q : Int) + 1)) = (k : Int) + ((q : Int) + 1) := IntWalk.u64_in _ (by omega)
          generalize hWT : wts p ux (pt (k + q)) = wt at *
          rw [hWl, hpk.out] at hwt
          have HWl := Lib.hid hWl
          clear hM hWT hWl
          go_wp2_with (first | (go_at_call 34; refine hwt.mono ?_; clear hwt; rintro e w3 ⟨u, rfl, hu, hb3⟩; obtain ⟨A3, c3, hu3⟩ := row_form hu; subst hu3; have hb4 := hb3.alloc hb3.size (.cells #[.slice A3 k c3] 31); have hhd := Lib.hid (hMH.out.next hb4).head; have hu4 := Lib.hid (hu.alloc (.cells #[.slice A3 k c3] 31)); have hsz4 := Nat.le_trans hsz2 hb4.size; clear hu) | (at_builtin; refine wpList_append_own _ rfl _ _ 25 rfl W0.heap.size 31 j0 (.slice none 0 0) 1 24 Try.underlying25 hj hy0 hy1 hy2 rfl (by decide) _ _ _ rfl hhd.out ⟨w3.heap.size, 0, none⟩ 1 1 [.slice A3 k c3] rfl rfl (cell_one_new _ _ _) (by simp [Value.oneCell']) (by simp only [maxLen]; omega) (by omega) hsz4 ?_; intro v6 w6 hown6 hgrow6 _))
          go_roundw
          case rel => exact ⟨q + 1, _, by omega, by simp, by rw [← hNX.out]; exact hMH.out.add hb4 hsz2 (by rw [HWl.out]; exact hu4.out) hown6 hgrow6, (hB2.trans (hb4.mono hsz2)).grown hgrow6 hsz4 (fun x e => (World.ownsRow.lt hhd.out x e).1)⟩
          case measure => simp [intOf]; omega
        · obtain rfl : q = N := by omega
          have hqN : ¬ (q : Int) + 1 ≤ q := by omega
          obtain ⟨A2, c2, hv, hs2⟩ := hM.form
          subst hv
          have hnl := Lib.hid (nw_len p q k)
          have hBB := hB.trans (hB2.mono hB.size)
          go_wp2_with fail
          go_ret2
          exact ⟨_, _, by rw [hnl.out]; rfl, hs2, hBB⟩
end Go.Proofs.Ytjijlefplidhpaa

/- A slice of numbers (int) that reads as a list, nil let in, with its capacity; slices of numbers that a call makes. No conditions. -/
namespace Go.Proofs.Ytjijlefplidhpaa
set_option maxRecDepth 100000
open Go.RowKit PolyMath FieldMath MatMath

/-- The slice at A with capacity c holds the numbers xs. -/
structure Si (w : World) (A : Option Addr) (c : Nat) (xs : List Int) : Prop where
  cap : xs.length ≤ c
  nil : A = none → c = 0
  rd : ∀ ad, A = some ad → xs ≠ [] → ∃ b off, ad = ⟨b, off, none⟩ ∧ b < w.heap.size ∧ ∀ j x, xs[j]? = some x → w.cell? ⟨b, off + j, none⟩ = some (.int .i64 x)

section
variable {w w' : World} {A : Option Addr} {c : Nat} {xs : List Int}
theorem Si.nothing (w : World) : Si w none 0 [] := ⟨Nat.le_refl _, (fun _ => rfl), (fun _ h => absurd h (by simp))⟩
theorem Si.at_ {k : Nat} (h : Si w A c xs) (hk : k < xs.length) : ∃ b off x, A = some ⟨b, off, none⟩ ∧ b < w.heap.size ∧ xs[k]? = some x ∧ w.cell? ⟨b, off + k, none⟩ = some (.int .i64 x) := by
  cases hA : A with
  | none => have := h.nil hA; have := h.cap; omega
  | some ad =>
    obtain ⟨b, off, rfl, hb, hc⟩ := h.rd ad hA (fun e => by rw [e] at hk; simp at hk)
    exact ⟨b, off, xs[k], rfl, hb, List.getElem?_eq_getElem hk, hc k _ (List.getElem?_eq_getElem hk)⟩
theorem Si.keep (h : Si w A c xs) (hs : w.heap.size ≤ w'.heap.size) (hk : ∀ p : Addr, p.block < w.heap.size → w'.cell? p = w.cell? p) : Si w' A c xs :=
  ⟨h.cap, h.nil, fun ad hA hn => by
    obtain ⟨b, off, e, hb, hc⟩ := h.rd ad hA hn
    exact ⟨b, off, e, by omega, fun j x hx => (hk ⟨b, off + j, none⟩ hb).trans (hc j x hx)⟩⟩
theorem Si.next (h : Si w A c xs) (hb : Below w.heap.size w w') : Si w' A c xs := h.keep hb.size fun _ hp => hb.cell hp
theorem Si.push (h : Si w A c xs) (o : Obj) : Si (w.alloc o) A c xs := h.next ((Below.refl _ w).alloc (Nat.le_refl _) o)
theorem Si.drew (h : Si w A c xs) : Si w.drew A c xs := h.next (Below.refl _ w).drew
end
theorem Si.of_own {w : World} {base : Nat} {A : Option Addr} {n c : Nat} {xs : List Int} (h : w.ownsRow base 3 1 (.slice A n c) n (xs.map (Value.int .i64))) : Si w A c xs := by
  have hl : xs.length = n := by simpa using h.1
  rcases h.2 with ⟨hv, h0⟩ | ⟨g, cap, cur, hv, _, hh, h1, h2, h3, h4⟩
  · injection hv with hA hn hc
    subst hA hc
    exact ⟨by omega, (fun _ => rfl), (fun _ h => absurd h (by simp))⟩
  · injection hv with hA hn hc
    subst hA hc
    refine ⟨by omega, (fun h => absurd h (by simp)), (fun ad hA _ => ?_)⟩
    injection hA with hA
    subst hA
    refine ⟨g, 0, rfl, (Array.getElem?_eq_some_iff.1 hh).1, fun j x hx => ?_⟩
    have hj := (List.getElem?_eq_some_iff.1 hx).1
    have h5 : (cur.toList.take (n * 1))[j]? = some (.int .i64 x) := by rw [h4, List.getElem?_map, hx]; rfl
    rw [List.getElem?_take, if_pos (by omega), Array.getElem?_toList] at h5
    rw [cell_of_row w g (0 + j) cur 3 (0, 0) hh, Nat.zero_add]
    exact h5
theorem iown_form {w : World} {base n : Nat} {v : Value} {xs : List Int} (h : w.ownsRow base 3 1 v n (xs.map (Value.int .i64))) : ∃ A c, v = .slice A xs.length c ∧ Si w A c xs := by
  have hl : xs.length = n := by simpa using h.1
  rcases h.2 with ⟨rfl, h0⟩ | ⟨g, cap, cur, rfl, _, _, hc, _⟩
  · subst h0; exact ⟨none, 0, by rw [hl], Si.of_own h⟩
  · exact ⟨some ⟨g, 0, none⟩, cap, by rw [hl], Si.of_own h⟩
/-- A call hands back the numbers ys in a slice; what lay before lies as before. -/
def RowI (w : World) (e : Ending) (w' : World) (ys : List Int) : Prop :=
  ∃ A c, e = .returned (.slice A ys.length c) ∧ Si w' A c ys ∧ Below w.heap.size w w'
theorem iown_next {w : World} {base k : Nat} {v : Value} {f : Nat → Int} (h : w.ownsRow base 3 1 v (k + 1) ((((List.range k).map f).map (Value.int .i64)) ++ [.int .i64 (f k)])) : w.ownsRow base 3 1 v (k + 1) (((List.range (k + 1)).map f).map (Value.int .i64)) := by
  rw [List.range_succ, List.map_append, List.map_append]; exact h
end Go.Proofs.Ytjijlefplidhpaa

/- For the laws of layer 6: headers of rows in a slice that grows; products and determinants whatever the arguments; a witness of a system without solution; a combination of rows. Conditions: a supported prime, words of its field, at most 100 rows and columns, where said. -/
namespace Go.Proofs.Ytjijlefplidhpaa
set_option maxRecDepth 100000
open Go.RowKit PolyMath FieldMath MatMath

theorem HeadsOf.next {w w' : World} {vs : List Value} {rows : List (List Int)} (h : HeadsOf w vs rows) (hb : Below w.heap.size w w') : HeadsOf w' vs rows := fun j hj => by
  obtain ⟨A, c, h1, h2⟩ := h j hj
  exact ⟨A, c, h1, h2.next hb⟩
theorem HeadsOf.snoc {w : World} {vs : List Value} {rows : List (List Int)} {A : Option Addr} {c : Nat} {r : List Int} (h : HeadsOf w vs rows) (hl : vs.length = rows.length) (s : Sl w A c r) : HeadsOf w (vs ++ [.slice A r.length c]) (rows ++ [r]) := fun j hj => by
  rw [List.length_append, List.length_singleton] at hj
  by_cases e : j < rows.length
  · obtain ⟨A', c', h1, h2⟩ := h j e
    have : ro (rows ++ [r]) j = ro rows j := by unfold ro; rw [List.getElem?_append_left e]
    rw [this]
    exact ⟨A', c', by rw [List.getElem?_append_left (by omega)]; exact h1, h2⟩
  · obtain rfl : j = rows.length := by omega
    have : ro (rows ++ [r]) rows.length = r := by unfold ro; rw [List.getElem?_append_right (by omega), Nat.sub_self]; rfl
    rw [this]
    exact ⟨A, c, by rw [List.getElem?_append_right (by omega), show rows.length - vs.length = 0 by omega]; rfl, s⟩
/-- Words stay where a row of headers grows. -/
theorem HeadsOf.grown {w w' : World} {base n : Nat} {v : Value} {vs us : List Value} {rows : List (List Int)} (h : ∀ j, j < rows.length → ∃ A' c', vs[j]? = some (.slice A' (ro rows j).length c') ∧ Sl w A' c' (ro rows j) ∧ (ro rows j ≠ [] → ∀ ad, A' = some ad → some ad.block ≠ v.ownBlock))
    (_ho : w.ownsRow base 31 1 v n us) (hg : w.grownBy w' v.ownBlock) : HeadsOf w' vs rows := fun j hj => by
  obtain ⟨A, c, h1, h2, h3⟩ := h j hj
  exact ⟨A, c, h1, h2.grownN hg h3⟩
theorem sll_heads {w : World} {base n : Nat} {v : Value} {vs : List Value} {rows : List (List Int)} (h : w.ownsRow base 31 1 v n vs) (hh : HeadsOf w vs rows) (hl : rows.length = n) : ∃ A c, v = .slice A n c ∧ Sll w A c rows := by
  rcases h.2 with ⟨rfl, h0⟩ | ⟨g, cap, cur, rfl, _, hg, hc, _, h3, h4⟩
  · have : rows = [] := List.eq_nil_of_length_eq_zero (by omega)
    subst this h0
    exact ⟨_, 0, rfl, Sll.nothing w⟩
  · refine ⟨some ⟨g, 0, .none⟩, cap, rfl, by omega, (fun h => by cases h), fun ad e _ => ?_⟩
    injection e with e
    subst e
    refine ⟨g, 0, rfl, heap_lt hg, fun j l hl' => ?_⟩
    have hj := (List.getElem?_eq_some_iff.1 hl').1
    obtain ⟨A, c, h5, h6⟩ := hh j hj
    rw [ro_at hl'] at h5 h6
    refine ⟨A, c, ?_, h6⟩
    rw [cell_of_row w g (0 + j) cur 31 (0, 0) hg, Nat.zero_add]
    rw [← h4, List.getElem?_take, if_pos (by omega), Array.getElem?_toList] at h5
    exact h5
/-- The headers of a matrix of one's own, and where their words lie. -/
theorem MP.heads {base N : Nat} {w : World} {v : Value} {vs : List Value} {rows : List (List Int)} (h : MP base w v N N vs rows) : ∀ j, j < rows.length → ∃ A' c', vs[j]? = some (.slice A' (ro rows j).length c') ∧ Sl w A' c' (ro rows j) ∧ (ro rows j ≠ [] → ∀ ad, A' = some ad → some ad.block ≠ v.ownBlock) := fun j hj => by
  have hj' : j < N := by rw [← h.len]; exact hj
  obtain ⟨u, h1, h2⟩ := h.row j hj'
  obtain ⟨A, c, rfl, h3⟩ := own_form h2
  refine ⟨A, c, h1, h3, fun _ ad e e' => ?_⟩
  subst e
  rcases h2.2 with ⟨h4, _⟩ | ⟨g, cap, cur, h4, _⟩
  · cases h4
  · injection h4 with h4
    injection h4 with h4
    subst h4
    exact h.far hj' h1 rfl e'.symm

/-! ### Whatever the arguments -/
def mulB (a b : List (List Int)) : Bool := rect a && rect b && (ncol a == b.length)
theorem mulB_iff {a b : List (List Int)} : mulB a b = true ↔ rect a = true ∧ rect b = true ∧ ncol a = b.length := by
  unfold mulB; rw [Bool.and_eq_true, Bool.and_eq_true, beq_iff_eq, and_assoc]
theorem det_gen (p : Int) (hp : OkP p) (A : Option Addr) (c : Nat) (rows : List (List Int)) (hz : Sized rows) (hE : ∀ r ∈ rows, El p r) (w : World) (h : Sll w A c rows) :
    Calls Try.prog 21 #[.int .u64 p, .slice A rows.length c] w fun e w' => ∃ d x, e = .returned (.tuple #[.int .u64 d, .int .i64 x]) ∧ Below w.heap.size w w' := by
  cases hs : squ rows with
  | false => exact (det_bad p A c rows hz hs w h).mono fun e w' ⟨h1, h2⟩ => ⟨_, _, h1, h2⟩
  | true => exact (det_ok p hp A c rows hz hE hs w h).mono fun e w' ⟨h1, h2⟩ => ⟨_, _, h1, h2⟩

/-! ### Witness and combination -/
theorem mat_snoc {p : Int} {N L : Nat} {A : List (List Int)} {r : List Int} (h : Mat p N L A) (hr : r.length = L ∧ El p r) : Mat p (N + 1) L (A ++ [r]) :=
  ⟨by rw [List.length_append, h.rows]; rfl, fun x hx => by
    rcases List.mem_append.1 hx with h1 | h1
    · exact h.row x h1
    · rw [List.mem_singleton] at h1; subst h1; exact hr⟩
theorem mx_snoc_old {A : List (List Int)} {r : List Int} {i : Nat} (h : i < A.length) (c : Nat) : mx (A ++ [r]) i c = mx A i c := by
  unfold mx; rw [List.getElem?_append_left h]
theorem mx_snoc_new {A : List (List Int)} {r : List Int} (c : Nat) : mx (A ++ [r]) A.length c = co r c := by
  unfold mx; rw [List.getElem?_append_right (by omega), Nat.sub_self]; rfl
theorem unitL_last (n : Nat) : (List.replicate (n + 1) (0 : Int)).set n 1 = unitL (n + 1) n := rfl
theorem wit_math {p : Int} (hg : GoodI p) {m : List (List Int)} {b : List Int} (hr : rect m = true) (hE : ∀ r ∈ m, El p r) (hb : El p b) (hn : m.length = b.length) (h : slv p m b = none) :
    0 < m.length ∧ Mat p (ncol m + 1) m.length (trn m ++ [b]) ∧ ∃ y, slv p (trn m ++ [b]) (unitL (ncol m + 1) (ncol m)) = some y ∧ y.length = m.length ∧ El p y ∧ dot p y b = 1 := by
  have hp := hg.two
  obtain ⟨_, y0, h1, h2⟩ := slv_none hg hr hE hb h
  have h0 : 0 < m.length := by
    rcases Nat.eq_zero_or_pos m.length with e | e
    · rw [e] at h2
      have : (0 : Int) % p = 1 := h2
      rw [Int.zero_emod] at this
      cases this
    · exact e
  have hT := mat_snoc (trn_mat (p := p) (by omega) (mat_of hr hE) h0) ⟨hn.symm, hb⟩
  have htl := trn_len m
  have hcol : ncol (trn m ++ [b]) = m.length := hT.cols (by omega)
  have hU := unitL_el (p := p) (by omega) (ncol m + 1) (ncol m)
  have hlen : (trn m ++ [b]).length = (unitL (ncol m + 1) (ncol m)).length := by rw [hT.rows, unitL_len]
  have hsol : Sol p (trn m ++ [b]).length (ncol (trn m ++ [b])) (mx (trn m ++ [b])) (co (unitL (ncol m + 1) (ncol m))) y0 := by
    rw [hT.rows, hcol]
    intro r hr'
    rw [unitL_co _ _ _ hr']
    by_cases e : r < ncol m
    · rw [one_ne (by omega), Int.zero_emod, ← h1 r e]
      congr 1
      exact sg_congr _ fun j hj => by rw [mx_snoc_old (by omega), trn_mx e hj]
    · obtain rfl : r = ncol m := by omega
      rw [one_same, small (by omega) (show (1 : Int) < p by omega), ← h2]
      congr 1
      exact sg_congr _ fun j _ => by
        have := mx_snoc_new (A := trn m) (r := b) j
        rw [htl] at this
        rw [this]
  obtain ⟨y, h3, h4, h5, h6⟩ := slv_ex hg hT.isRect hT.els hU hlen hsol
  rw [hcol] at h5
  refine ⟨h0, hT, y, h3, h5, h6, ?_⟩
  have h7 : co (app p (trn m ++ [b]) y) (ncol m) = 1 := by rw [h4, unitL_co _ _ _ (by omega), one_same]
  unfold app at h7
  rw [co_map, if_pos (by rw [hT.rows]; omega)] at h7
  have h8 : ro (trn m ++ [b]) (ncol m) = b := by unfold ro; rw [List.getElem?_append_right (by omega), htl, Nat.sub_self]; rfl
  rw [h8] at h7
  rw [dot_comm (by omega)]; exact h7
theorem span_math {p : Int} (hg : GoodI p) {m : List (List Int)} {v : List Int} (hr : rect m = true) (hE : ∀ r ∈ m, El p r) (_hv : El p v) (_hn : v.length = m.length) (h0 : 0 < m.length) (hc0 : 0 < ncol m) :
    Mat p (m.length + 1) (ncol m) (m ++ [app p (trn m) v]) ∧ rnk p (m ++ [app p (trn m) v]) = rnk p m ∧ ∃ x, slv p (trn m) (app p (trn m) v) = some x ∧ app p (trn m) x = app p (trn m) v ∧ x.length = m.length ∧ El p x := by
  have hp := hg.two
  have hm := mat_of hr hE
  have hT := trn_mat (p := p) (by omega) hm h0
  have hte := app_el (p := p) (by omega) (trn m) v
  have htl : (app p (trn m) v).length = ncol m := by rw [app_len, trn_len]
  have hM := mat_snoc hm ⟨htl, hte⟩
  have hs := (app_sol (x := v) hT.isRect hte (by omega) (by rw [htl, trn_len])).1 rfl
  refine ⟨hM, ?_, ?_⟩
  · obtain ⟨p1, r1⟩ := rnk_rr hg hM.isRect hM.els
    obtain ⟨p2, r2⟩ := rnk_rr hg hr hE
    rw [hM.rows, hM.cols (by omega)] at r1
    have e1 : ∀ x, Nul p (m.length + 1) (ncol m) (mx (m ++ [app p (trn m) v])) x → Nul p m.length (ncol m) (mx m) x := fun x hx r hr' => by
      rw [← hx r (by omega)]
      congr 1
      exact sg_congr _ fun j _ => by rw [mx_snoc_old hr']
    have e2 : ∀ x, Nul p m.length (ncol m) (mx m) x → Nul p (m.length + 1) (ncol m) (mx (m ++ [app p (trn m) v])) x := fun x hx r hr' => by
      by_cases e : r < m.length
      · rw [← hx r e]
        congr 1
        exact sg_congr _ fun j _ => by rw [mx_snoc_old e]
      · obtain rfl : r = m.length := by omega
        have h2 : sg (ncol m) (fun j => mx (m ++ [app p (trn m) v]) m.length j * x j) % p = sg (ncol m) (fun j => mat m.length (fun _ i => co v i) (mx m) 0 j * x j) % p := sg_mod _ fun j hj => mm (by
          rw [mx_snoc_new]
          unfold app dot
          rw [co_map, if_pos (by rw [trn_len]; exact hj), mdd, (hT.ro hj).1]
          unfold mat
          congr 1
          exact sg_congr _ fun i hi => by rw [← mx_ro, trn_mx hj hi, Int.mul_comm]) rfl
        have h3 := nul_mat (p := p) (m := 1) (A := fun _ i => co v i) hx 0 (by omega)
        rw [h2]; exact h3
    have q1 := rank_le_of (by omega) r1 r2 e2
    have q2 := rank_le_of (by omega) r2 r1 e1
    omega
  · obtain ⟨x, h1, h2, h3, h4⟩ := slv_ex hg hT.isRect hT.els hte (by rw [trn_len, htl]) hs
    exact ⟨x, h1, h2, by rw [h3, hT.cols hc0], h4⟩
end Go.Proofs.Ytjijlefplidhpaa

/- within, pick (both), shortest and Submatrix of package hyperinvertible. Nothing that lay is changed. Conditions: at most 100 rows and indices. -/
namespace Go.Proofs.Ytjijlefplidhpaa
set_option maxRecDepth 100000
open Go.RowKit PolyMath FieldMath MatMath

/-- An index that is not in range. -/
def outB (n i : Int) : Bool := decide (i < 0) || decide (n ≤ i)
def withinB (xs : List Int) (n : Int) : Bool := !(xs.findIdx? (outB n)).isSome
theorem within_iff {xs : List Int} {n : Int} : withinB xs n = true ↔ ∀ i ∈ xs, 0 ≤ i ∧ i < n := by
  unfold withinB outB
  rw [Bool.not_eq_true', Option.isSome_eq_false_iff, Option.isNone_iff_eq_none, List.findIdx?_eq_none_iff]
  constructor
  · intro h i hi
    have := h i hi
    simp only [Bool.or_eq_false_iff, decide_eq_false_iff_not] at this
    omega
  · intro h i hi
    have := h i hi
    simp only [Bool.or_eq_false_iff, decide_eq_false_iff_not]
    omega
theorem within1_any (i n : Int) (B : Nat) (w : World) (hB : Boxed w B 3 (.int .i64 n)) :
    Calls Try.prog 66 #[.int .i64 i, .pointer (some ⟨B, 0, none⟩)] w fun e w' => e = .returned (.bool (outB n i)) ∧ w = w' := by
  have hc := hB.cell
  have hE : Hid (outB n i = (decide (i < 0) || decide (n ≤ i))) := Lib.hid rfl
  clear hB
  by_cases h1 : i < 0
  · have hF : Hid (outB n i = true) := Lib.hid (by rw [hE.out, decide_eq_true h1]; rfl)
    go_enter Try.func66, Try.ntmps66
    go_wp2
    go_ret
    rw [hF.out]
    exact ⟨rfl, rfl⟩
  · by_cases h2 : n ≤ i
    · have hF : Hid (outB n i = true) := Lib.hid (by rw [hE.out, decide_eq_true h2, Bool.or_true])
      go_enter Try.func66, Try.ntmps66
      go_wp2
      go_ret
      rw [hF.out]
      exact ⟨rfl, rfl⟩
    · have hF : Hid (outB n i = false) := Lib.hid (by rw [hE.out, decide_eq_false h1, decide_eq_false h2]; rfl)
      go_enter Try.func66, Try.ntmps66
      go_wp2
      go_ret
      rw [hF.out]
      exact ⟨rfl, rfl⟩

theorem index_within (pt : Value) (P : Int → Bool) (A : Option Addr) (c n : Nat) (xs : List Int) (hn : xs.length = n) (hl : n ≤ 1000) (w : World) (h : Si w A c xs) (hF : ∀ i, Calls Try.prog 66 #[.int .i64 i, pt] w fun e w' => e = .returned (.bool (P i)) ∧ w = w') :
    Calls Try.prog 95 #[.slice A n c, .func (.func 66) #[] #[pt]] w fun e w' => e = .returned (.int .i64 (idxI (xs.findIdx? P))) ∧ w = w' := by
  have hN := Lib.hid hn
  clear hn
  go_enter Try.func95, Try.ntmps95
  go_wp2
  go_loop [8] (fun i => ∃ k : Nat, k ≤ n ∧ i = .int .i64 k ∧ Hid (∀ j x, j < k → xs[j]? = some x → P x = false)) (fun i => n - (intOf i).toNat)
  case atStart => exact ⟨0, Nat.zero_le _, rfl, Lib.hid (fun j x hj => by omega)⟩
  case round =>
    obtain ⟨k, hk, rfl, hE⟩ := hrel
    by_cases hlt : k < n
    · obtain ⟨b, off, x, hA, hb, hx, hc⟩ := h.at_ (k := k) (by rw [hN.out]; exact hlt)
      have hcall := hF x
      subst hA
      have hkn : (k : Int) < n := by omega
      have hX := Lib.hid hx
      clear hx hF
      cases hP : P x with
      | false =>
        rw [hP] at hcall
        have hE2 : Hid (∀ j y, j < k + 1 → xs[j]? = some y → P y = false) := Lib.hid fun j y hj hy => by
          by_cases e : j = k
          · subst e; rw [hX.out] at hy; injection hy with hy; subst hy; exact hP
          · exact hE.out j y (by omega) hy
        clear hE hP
        go_wp2_with (go_at_call 66; refine hcall.mono ?_; rintro e w' ⟨rfl, rfl⟩)
        go_round
        case rel => exact ⟨k + 1, by omega, by simp, hE2⟩
        case measure => simp [intOf]; omega
      | true =>
        rw [hP] at hcall
        have hR : Hid (xs.findIdx? P = some k) := Lib.hid (by
          rw [List.findIdx?_eq_some_iff_getElem]
          have hk3 : k < xs.length := by rw [hN.out]; exact hlt
          refine ⟨hk3, ?_, fun j hj => ?_⟩
          · have := hX.out
            rw [List.getElem?_eq_getElem hk3] at this
            injection this with this
            rw [this]; exact hP
          · rw [hE.out j _ hj (List.getElem?_eq_getElem (by omega))]; simp)
        clear hE hP
        go_wp2_with (go_at_call 66; refine hcall.mono ?_; rintro e w' ⟨rfl, rfl⟩)
        go_ret
        rw [hR.out]
        exact ⟨rfl, rfl⟩
    · obtain rfl : k = n := by omega
      have hR : Hid (xs.findIdx? P = none) := Lib.hid (by
        rw [List.findIdx?_eq_none_iff]
        intro r hr
        obtain ⟨i, hi⟩ := List.mem_iff_getElem?.1 hr
        exact hE.out i r (by rw [← hN.out]; exact (List.getElem?_eq_some_iff.1 hi).1) hi)
      clear hE hF
      go_wp2
      go_ret
      rw [hR.out]
      exact ⟨rfl, rfl⟩
theorem contains_within (pt : Value) (P : Int → Bool) (A : Option Addr) (c n : Nat) (xs : List Int) (hn : xs.length = n) (hl : n ≤ 1000) (w : World) (h : Si w A c xs) (hF : ∀ i, Calls Try.prog 66 #[.int .i64 i, pt] w fun e w' => e = .returned (.bool (P i)) ∧ w = w') :
    Calls Try.prog 65 #[.slice A n c, .func (.func 66) #[] #[pt]] w fun e w' => e = .returned (.bool (xs.findIdx? P).isSome) ∧ w = w' := by
  have hi := index_within pt P A c n xs hn hl w h hF
  have hE : Hid (decide (0 ≤ idxI (xs.findIdx? P)) = (xs.findIdx? P).isSome) := Lib.hid (by
    cases xs.findIdx? P with
    | none => rfl
    | some b => exact decide_eq_true (Int.natCast_nonneg b))
  generalize idxI (xs.findIdx? P) = I at *
  clear hF
  go_enter Try.func65, Try.ntmps65
  go_wp2_with fail
  refine hi.mono ?_; rintro e w' ⟨rfl, rfl⟩
  go_wp2_with fail
  go_ret
  rw [← hE.out]
  exact ⟨rfl, rfl⟩
theorem within_any (A : Option Addr) (c : Nat) (xs : List Int) (n : Int) (hl : xs.length ≤ 1000) (w : World) (h : Si w A c xs) :
    Calls Try.prog 39 #[.slice A xs.length c, .int .i64 n] w fun e w' => e = .returned (.bool (withinB xs n)) ∧ Below w.heap.size w w' := by
  have hcon := contains_within (.pointer (some ⟨w.heap.size, 0, none⟩)) (outB n) A c xs.length xs rfl hl (w.alloc (.cells #[.int .i64 n] 3)) (h.push _)
    (fun i => within1_any i n w.heap.size _ (Boxed.new w _ _))
  have hE : Hid ((!(xs.findIdx? (outB n)).isSome) = withinB xs n) := Lib.hid rfl
  have hB := Lib.hid (bnew (Below.refl w.heap.size w) (.cells #[.int .i64 n] 3) (Nat.le_refl _))
  generalize (xs.findIdx? (outB n)).isSome = I at *
  go_enter Try.func39, Try.ntmps39
  go_wp2_with fail
  refine hcon.mono ?_; rintro e w' ⟨rfl, rfl⟩
  go_wp2_with fail
  go_ret
  rw [← hE.out]
  exact ⟨rfl, hB.out⟩

set_option maxHeartbeats 1000000 in
theorem pickW_any (A B : Option Addr) (c d : Nat) (r C : List Int) (hl : C.length ≤ 1000) (hC : ∀ j ∈ C, 0 ≤ j ∧ j < (r.length : Int)) (w : World) (h : Sl w A c r) (hi : Si w B d C) :
    Calls Try.prog 42 #[.slice A r.length c, .slice B C.length d] w fun e w' => Fresh w e w' (C.map fun j => co r j.toNat) := by
  obtain ⟨i0, hi0, hz0, hz1, hz2⟩ := info_parts info_u64
  have hB8 : Hid (i0.bytes * C.length ≤ 281474976710656) := Lib.hid (by rw [hz2]; omega)
  have hD : Hid (fillL (fun k => co r (co C k).toNat) C.length C.length = C.map fun j => co r j.toNat) := Lib.hid (by
    rw [fillL_done]
    refine List.ext_getElem? fun k => ?_
    by_cases hk : k < C.length
    · rw [List.getElem?_map, List.getElem?_range hk, List.getElem?_map, List.getElem?_eq_getElem hk, Option.map_some, Option.map_some, co_get hk]
    · rw [List.getElem?_eq_none (by simpa using hk), List.getElem?_eq_none (by simpa using hk)])
  go_enter Try.func42, Try.ntmps42
  go_wp2_with (at_make; refine wpList_make_full _ rfl _ _ 31 rfl w.heap.size 22 i0 (.int .u64 0) 1 Try.underlying31 hi0 hz0 hz1 .i64 .i64 _ _ C.length rfl rfl (by omega) (by omega) hB8.out (by simp only [maxLen]; omega) (Nat.le_refl _) ?_; intro w1 hown1 hgrow1)
  have hb1 : Below w.heap.size w w1 := (Below.refl _ w).grown hgrow1 (Nat.le_refl _) (fun k e => by cases e)
  simp only [Value.cells, toList_madeCells_one, Nat.mul_one] at hown1
  have hown2 : OwnAt w1 w.heap.size w.heap.size C.length C.length (fillL (fun k => co r (co C k).toNat) C.length 0) := by
    unfold OwnAt; rw [fillL_start]; simpa using hown1
  clear hown1 hgrow1
  go_loopw [13] (fun i wr => ∃ k : Nat, k ≤ C.length ∧ i = .int .i64 k ∧ OwnAt wr w.heap.size w.heap.size C.length C.length (fillL (fun k => co r (co C k).toNat) C.length k) ∧ Below w.heap.size w wr) (fun i _ => C.length - (intOf i).toNat)
  case atStart => exact ⟨0, Nat.zero_le _, rfl, hown2, hb1⟩
  case round =>
    obtain ⟨k, hk, rfl, hO, hB⟩ := hrel
    by_cases hlt : k < C.length
    · obtain ⟨b, off, j, hA, hbl, hx, hcx⟩ := (hi.next hB).at_ hlt
      have hj := hC j (List.mem_of_getElem? hx)
      obtain ⟨q, rfl⟩ : ∃ q : Nat, j = (q : Int) := ⟨j.toNat, by omega⟩
      obtain ⟨b2, off2, y, hA2, hbl2, hy, hcy⟩ := (h.next hB).at_ (k := q) (by omega)
      subst hA hA2
      have hset := fillL_set (fun k => co r (co C k).toNat) C.length k
      have hval : co r (co C k).toNat = y := by rw [co_at hx, Int.toNat_natCast, co_at hy]
      rw [hval] at hset
      have hS := Lib.hid hset
      have hcell := hO.cell (fillL_get (fun k => co r (co C k).toNat) C.length k k hlt)
      have hfz := hO.frozen k
      have hlt2 := hO.lt
      have hput := Lib.hid (hO.put k y)
      have hkN : (k : Int) < C.length := by omega
      have hqN : (q : Int) < r.length := by omega
      clear hset hx hy hval
      go_wp2
      go_roundw
      case rel => exact ⟨k + 1, by omega, by simp, by rw [← hS.out]; exact hput.out, hB.setCell (p := ⟨w.heap.size, k, none⟩) (Nat.le_refl _) _⟩
      case measure => simp [intOf]; omega
    · obtain rfl : k = C.length := by omega
      rw [hD.out] at hO
      have hs3 := Lib.hid hO
      go_wp2
      go_ret
      exact ⟨_, rfl, by rw [List.length_map]; exact hs3.out, hB⟩

set_option maxHeartbeats 1000000 in
theorem pickR_any (A B : Option Addr) (c d : Nat) (rows : List (List Int)) (R : List Int) (hl : R.length ≤ 1000) (hR : ∀ j ∈ R, 0 ≤ j ∧ j < (rows.length : Int)) (w : World) (h : Sll w A c rows) (hi : Si w B d R) :
    Calls Try.prog 40 #[.slice A rows.length c, .slice B R.length d] w fun e w' => ∃ v vs, e = .returned v ∧ w'.ownsRow w.heap.size 31 1 v R.length vs ∧ HeadsOf w vs (R.map fun j => ro rows j.toNat) ∧ Below w.heap.size w w' := by
  obtain ⟨i0, hi0, hz0, hz1, hz2⟩ := info_parts info_sl
  have hB8 : Hid (i0.bytes * R.length ≤ 281474976710656) := Lib.hid (by rw [hz2]; omega)
  go_enter Try.func40, Try.ntmps40
  go_wp2_with (at_make; refine wpList_make_full _ rfl _ _ 25 rfl w.heap.size 31 i0 (.slice none 0 0) 1 Try.underlying25 hi0 hz0 hz1 .i64 .i64 _ _ R.length rfl rfl (by omega) (by omega) hB8.out (by simp only [maxLen]; omega) (Nat.le_refl _) ?_; intro w1 hown1 hgrow1)
  have hb1 : Below w.heap.size w w1 := (Below.refl _ w).grown hgrow1 (Nat.le_refl _) (fun k e => by cases e)
  clear hgrow1
  go_loopw [13] (fun i wr => ∃ (k : Nat) (vs : List Value), k ≤ R.length ∧ i = .int .i64 k ∧ wr.ownsRow w.heap.size 31 1 (.slice (some ⟨w.heap.size, 0, none⟩) R.length R.length) R.length vs ∧ Hid (∀ j, j < k → ∃ A' c', vs[j]? = some (.slice A' (ro rows (co R j).toNat).length c') ∧ Sl w A' c' (ro rows (co R j).toNat)) ∧ Below w.heap.size w wr) (fun i _ => R.length - (intOf i).toNat)
  case atStart => exact ⟨0, _, Nat.zero_le _, rfl, hown1, Lib.hid (fun j hj => absurd hj (Nat.not_lt_zero _)), hb1⟩
  case round =>
    obtain ⟨k, vs, hk, rfl, hO, hH, hB⟩ := hrel
    by_cases hlt : k < R.length
    · obtain ⟨b, off, j, hA, hbl, hx, hcx⟩ := (hi.next hB).at_ hlt
      have hj := hR j (List.mem_of_getElem? hx)
      obtain ⟨q, rfl⟩ : ∃ q : Nat, j = (q : Int) := ⟨j.toNat, by omega⟩
      obtain ⟨b2, off2, A3, c3, hA2, hbl2, hc2, hs2⟩ := h.rowAt (i := q) (L := (ro rows q).length) (by omega) rfl
      subst hA hA2
      have hc2w := (hB.cell (p := ⟨b2, off2 + q, none⟩) hbl2).trans hc2
      have hvl : vs.length = R.length := by have := hO.1; omega
      obtain ⟨u, hu⟩ : ∃ u, vs[k]? = some u := ⟨_, List.getElem?_eq_getElem (by omega)⟩
      have hcell := (World.ownsRow.cellAt hO k (by omega)).trans hu
      have hfz := World.ownsRow.frozenAt hO k
      have hgl := World.ownsRow.lt hO w.heap.size rfl
      have hst := World.ownsRow.stored hO k (.slice A3 (ro rows q).length c3)
      have hST := Lib.hid hst.1
      have hH2 : Hid (∀ j, j < k + 1 → ∃ A' c', (vs.set k (.slice A3 (ro rows q).length c3))[j]? = some (.slice A' (ro rows (co R j).toNat).length c') ∧ Sl w A' c' (ro rows (co R j).toNat)) := Lib.hid fun j hj => by
        by_cases e : j = k
        · subst e
          rw [co_at hx, Int.toNat_natCast]
          exact ⟨A3, c3, List.getElem?_set_self (by omega), hs2⟩
        · obtain ⟨A', c', h1, h2⟩ := hH.out j (by omega)
          exact ⟨A', c', by rw [List.getElem?_set_ne (fun q => e q.symm)]; exact h1, h2⟩
      have hkN : (k : Int) < R.length := by omega
      have hqN : (q : Int) < rows.length := by omega
      clear hx hst hO hu hvl hc2
      go_wp2
      go_roundw
      case rel => exact ⟨k + 1, _, by omega, by simp, hST.out, hH2, hB.setCell (p := ⟨w.heap.size, k, none⟩) (Nat.le_refl _) _⟩
      case measure => simp [intOf]; omega
    · obtain rfl : k = R.length := by omega
      have hOH := Lib.hid hO
      clear hO
      go_wp2
      go_ret
      refine ⟨_, vs, rfl, hOH.out, fun j hj => ?_, hB⟩
      rw [List.length_map] at hj
      have e : ro (R.map fun j => ro rows j.toNat) j = ro rows (co R j).toNat := ro_at (by rw [List.getElem?_map, List.getElem?_eq_getElem hj, co_get hj]; rfl)
      rw [e]
      exact hH.out j hj

set_option maxHeartbeats 1000000 in
theorem short_any (A : Option Addr) (c : Nat) (rows : List (List Int)) (h0 : 0 < rows.length) (hl : rows.length ≤ 1000) (_hr : ∀ i, (ro rows i).length ≤ 9223372036854775807) (w : World) (h : Sll w A c rows) :
    Calls Try.prog 41 #[.slice A rows.length c] w fun e w' => (∃ s : Nat, e = .returned (.int .i64 s) ∧ (∀ j, j < rows.length → s ≤ (ro rows j).length) ∧ ∃ j, j < rows.length ∧ (ro rows j).length = s) ∧ w = w' := by
  obtain ⟨b, off, A', c', hA, hb, hc, hs⟩ := h.rowAt (i := 0) (L := (ro rows 0).length) h0 rfl
  subst hA
  rw [Nat.add_zero] at hc
  have h0' : (0 : Int) < rows.length := by omega
  go_enter Try.func41, Try.ntmps41
  go_wp2
  go_loop [3, 12] (fun s i => ∃ k S : Nat, k ≤ rows.length ∧ i = .int .i64 k ∧ s = .int .i64 S ∧ Hid ((∀ j, j < k → S ≤ (ro rows j).length) ∧ ∃ j, j < rows.length ∧ (ro rows j).length = S)) (fun _ i => rows.length - (intOf i).toNat)
  case atStart => exact ⟨0, (ro rows 0).length, Nat.zero_le _, rfl, rfl, Lib.hid ⟨fun j hj => absurd hj (Nat.not_lt_zero _), 0, h0, rfl⟩⟩
  case round =>
    obtain ⟨k, S, hk, rfl, rfl, hE⟩ := hrel
    by_cases hlt : k < rows.length
    · obtain ⟨b2, off2, A2, c2, hA2, hb2, hc2, hs2⟩ := h.rowAt (i := k) (L := (ro rows k).length) hlt rfl
      injection hA2 with hA2
      injection hA2 with e1 e2
      subst e1 e2
      have hkn : (k : Int) < rows.length := by omega
      by_cases hm : (ro rows k).length < S
      · have hE2 : Hid ((∀ j, j < k + 1 → (ro rows k).length ≤ (ro rows j).length) ∧ ∃ j, j < rows.length ∧ (ro rows j).length = (ro rows k).length) := Lib.hid ⟨fun j hj => by
          by_cases e : j = k
          · subst e; omega
          · have := hE.out.1 j (by omega); omega, k, hlt, rfl⟩
        clear hE
        go_wp2
        go_round
        case rel => exact ⟨k + 1, (ro rows k).length, by omega, by simp, by simp, hE2⟩
        case measure => simp [intOf]; omega
      · have hE2 : Hid ((∀ j, j < k + 1 → S ≤ (ro rows j).length) ∧ ∃ j, j < rows.length ∧ (ro rows j).length = S) := Lib.hid ⟨fun j hj => by
          by_cases e : j = k
          · subst e; omega
          · exact hE.out.1 j (by omega), hE.out.2⟩
        clear hE
        go_wp2
        go_round
        case rel => exact ⟨k + 1, S, by omega, by simp, by simp, hE2⟩
        case measure => simp [intOf]; omega
    · obtain rfl : k = rows.length := by omega
      go_wp2
      go_ret
      exact ⟨⟨S, rfl, hE.out.1, hE.out.2⟩, rfl⟩

theorem subB_iff {m : List (List Int)} {R C : List Int} : subB m R C = true ↔ (∀ i ∈ R, 0 ≤ i ∧ i < (m.length : Int)) ∧ ∀ i ∈ R, ∀ j ∈ C, 0 ≤ j ∧ j < ((ro m i.toNat).length : Int) := by
  unfold subB; rw [decide_eq_true_eq]
theorem sel_ro (m : List (List Int)) {R : List Int} {j : Nat} (hj : j < R.length) : ro (R.map fun i => ro m i.toNat) j = ro m (co R j).toNat := ro_at (by rw [List.getElem?_map, List.getElem?_eq_getElem hj, co_get hj]; rfl)
/-- The second test of Submatrix. -/
theorem sub_within {m : List (List Int)} {R C : List Int} {s : Nat} (hR : ∀ i ∈ R, 0 ≤ i ∧ i < (m.length : Int)) (h1 : ∀ j, j < R.length → s ≤ (ro (R.map fun i => ro m i.toNat) j).length) (h2 : ∃ j, j < R.length ∧ (ro (R.map fun i => ro m i.toNat) j).length = s) : withinB C s = subB m R C := by
  rw [Bool.eq_iff_iff, within_iff, subB_iff]
  obtain ⟨j, hj, e⟩ := h2
  rw [sel_ro m hj] at e
  constructor
  · intro h
    refine ⟨hR, fun i hi c hc => ?_⟩
    obtain ⟨k, hk, rfl⟩ := mem_co hi
    have h3 := h1 k hk
    rw [sel_ro m hk] at h3
    have := h c hc
    omega
  · intro h c hc
    have := h.2 _ (co_mem hj) c hc
    omega

set_option maxHeartbeats 1000000 in
theorem sub_bad (A B D : Option Addr) (c d f : Nat) (m : List (List Int)) (R C : List Int) (_hm : m.length ≤ 1000) (hml : ∀ i, (ro m i).length ≤ 9223372036854775807) (hl : R.length ≤ 1000) (hl2 : C.length ≤ 1000) (hS : subB m R C = false) (w : World) (h : Sll w A c m) (hi : Si w B d R) (hi2 : Si w D f C) :
    Calls Try.prog 20 #[.slice A m.length c, .slice B R.length d, .slice D C.length f] w fun e w' => e = .returned (.tuple #[.slice none 0 0, .int .i64 1]) ∧ Below w.heap.size w w' := by
  have g1 := within_any B d R m.length hl w hi
  cases hW : withinB R m.length with
  | false =>
    rw [hW] at g1
    go_enter Try.func20, Try.ntmps20
    go_wp2_with fail
    refine g1.mono ?_; rintro e w1 ⟨rfl, hB1⟩
    go_wp2_with fail
    go_ret2
    exact ⟨rfl, hB1⟩
  | true =>
    rw [hW] at g1
    have hR := within_iff.1 hW
    have h0 : 0 < R.length := by
      rcases Nat.eq_zero_or_pos R.length with e | e
      · rw [List.eq_nil_of_length_eq_zero e] at hS
        rw [(subB_iff (m := m) (R := []) (C := C)).2 ⟨fun i hi => absurd hi List.not_mem_nil, fun i hi => absurd hi List.not_mem_nil⟩] at hS
        cases hS
      · exact e
    have h0' : (0 : Int) < R.length := by omega
    go_enter Try.func20, Try.ntmps20
    go_wp2_with fail
    refine g1.mono ?_; rintro e w1 ⟨rfl, hB1⟩
    have g2 := pickR_any A B c d m R hl hR w1 (h.next hB1) (hi.next hB1)
    go_wp2_with fail
    refine g2.mono ?_; rintro e w2 ⟨v, vs, rfl, hO, hH, hB2⟩
    have hB12 := hB1.trans (hB2.mono hB1.size)
    have hi4 := hi2.next hB12
    obtain ⟨As, cs, hv, hs⟩ := sll_heads hO (hH.next hB2) (by rw [List.length_map])
    subst hv
    have hsl : (R.map fun j => ro m j.toNat).length = R.length := List.length_map _
    have g3 := short_any As cs _ (by rw [hsl]; exact h0) (by rw [hsl]; exact hl) (fun i => by
      by_cases hi : i < R.length
      · rw [sel_ro m hi]; exact hml _
      · unfold ro; rw [List.getElem?_eq_none (by simpa using hi)]; exact Nat.zero_le _) w2 hs
    rw [hsl] at g3
    clear hO hH hs g1 g2
    go_wp2_with fail
    refine g3.mono ?_; rintro e w3 ⟨⟨s, rfl, q1, q2⟩, rfl⟩
    have g4 := within_any D f C s hl2 w2 hi4
    rw [sub_within hR q1 q2, hS] at g4
    clear g3 q1 q2
    go_wp2_with fail
    refine g4.mono ?_; rintro e w4 ⟨rfl, hB4⟩
    go_wp2_with fail
    go_ret2
    exact ⟨rfl, hB12.trans (hB4.mono hB12.size)⟩

set_option maxHeartbeats 2000000 in
theorem sub_ok (A B D : Option Addr) (c d f : Nat) (m : List (List Int)) (R C : List Int) (_hm : m.length ≤ 1000) (hml : ∀ i, (ro m i).length ≤ 9223372036854775807) (hl : R.length ≤ 1000) (hl2 : C.length ≤ 1000) (hS : subB m R C = true) (w : World) (h : Sll w A c m) (hi : Si w B d R) (hi2 : Si w D f C) :
    Calls Try.prog 20 #[.slice A m.length c, .slice B R.length d, .slice D C.length f] w fun e w' => MatE w e w' (subM m R C) := by
  have g1 := within_any B d R m.length hl w hi
  obtain ⟨hR, hC⟩ := subB_iff.1 hS
  rw [within_iff.2 hR] at g1
  have hML := Lib.hid (subM_len m R C)
  go_enter Try.func20, Try.ntmps20
  go_wp2_with fail
  refine g1.mono ?_; rintro e w1 ⟨rfl, hB1⟩
  have g2 := pickR_any A B c d m R hl hR w1 (h.next hB1) (hi.next hB1)
  go_wp2_with fail
  refine g2.mono ?_; rintro e w2 ⟨v, vs, rfl, hO, hH, hB2⟩
  have hB12 := hB1.trans (hB2.mono hB1.size)
  have hi4 := hi2.next hB12
  have hvl : vs.length = R.length := by have := hO.1; omega
  by_cases h0 : R.length = 0
  · have hRn : R = [] := List.eq_nil_of_length_eq_zero h0
    subst hRn
    have hM : MP w1.heap.size w2 v 0 0 vs [] := ⟨hO, rfl, Nat.le_refl _, fun i hi => absurd hi (Nat.not_lt_zero _), fun i j u x e hi => absurd hi (Nat.not_lt_zero _)⟩
    obtain ⟨A1, c1, hv1, hs1⟩ := hM.form
    subst hv1
    clear hO hH hvl g1 g2
    go_wp2_with fail
    go_loopw [31] (fun i wr => i = .int .i64 0 ∧ wr = w2) (fun i _ => (intOf i).toNat)
    case atStart => exact ⟨rfl, rfl⟩
    case round =>
      obtain ⟨rfl, rfl⟩ := hrel
      go_wp2
      go_ret2
      exact ⟨A1, c1, rfl, hs1, hB12⟩
  · have h0' : (0 : Int) < R.length := by omega
    obtain ⟨g, cg, hv, hbg, hlt⟩ := World.ownsRow.form hO (by omega)
    subst hv
    obtain ⟨As, cs, hv, hs⟩ := sll_heads hO (hH.next hB2) (by rw [List.length_map])
    injection hv with hv1 hv2 hv3
    subst hv1 hv3
    have hsl : (R.map fun j => ro m j.toNat).length = R.length := List.length_map _
    have g3 := short_any (some ⟨g, 0, none⟩) cg _ (by rw [hsl]; omega) (by rw [hsl]; exact hl) (fun i => by
      by_cases hi : i < R.length
      · rw [sel_ro m hi]; exact hml _
      · unfold ro; rw [List.getElem?_eq_none (by simpa using hi)]; exact Nat.zero_le _) w2 hs
    rw [hsl] at g3
    clear hs g1 g2
    have HO := Lib.hid hO
    have HH := Lib.hid hH
    have HVL := Lib.hid hvl
    clear hO hH hvl
    go_wp2_with fail
    refine g3.mono ?_; rintro e w3 ⟨⟨s, rfl, q1, q2⟩, rfl⟩
    have g4 := within_any D f C s hl2 w2 hi4
    rw [sub_within hR q1 q2, hS] at g4
    clear g3 q1 q2
    go_wp2_with fail
    refine g4.mono ?_; rintro e w4 ⟨rfl, hB4⟩
    have HO4 := Lib.hid (own_below HO.out hB4)
    have hi5 := hi4.next hB4
    have hB24 : Below w1.heap.size w1 w4 := hB2.trans (hB4.mono hB2.size)
    clear g4 HO
    go_wp2_with fail
    go_loopw [31] (fun i wr => ∃ (k : Nat) (us : List Value), k ≤ R.length ∧ i = .int .i64 k ∧ MP w1.heap.size wr (.slice (some ⟨g, 0, none⟩) R.length cg) R.length k us (subM m R C) ∧ Hid (∀ j, k ≤ j → us[j]? = vs[j]?) ∧ Below w1.heap.size w1 wr) (fun i _ => R.length - (intOf i).toNat)
    case atStart => exact ⟨0, vs, Nat.zero_le _, rfl, ⟨HO4.out, hML.out, Nat.zero_le _, fun i hi => absurd hi (Nat.not_lt_zero _), fun i j u x e hi => absurd hi (Nat.not_lt_zero _)⟩, Lib.hid (fun j _ => rfl), hB24⟩
    case round =>
      obtain ⟨k, us, hk, rfl, hM, hU, hBr⟩ := hrel
      by_cases hlt2 : k < R.length
      · obtain ⟨A2, c2, hv2, hs2⟩ := HH.out k (by rw [hsl]; exact hlt2)
        rw [sel_ro m hlt2] at hv2 hs2
        have hcell := hM.cell hlt2 ((hU.out k (Nat.le_refl _)).trans hv2)
        have hrow : Hid (ro (subM m R C) k = C.map fun j => co (ro m (co R k).toNat) j.toNat) := Lib.hid (subM_ro m C hlt2)
        have g5 := pickW_any A2 D c2 f (ro m (co R k).toNat) C hl2 (fun j hj => hC _ (co_mem hlt2) j hj) wr (hs2.next hBr) (hi2.next (hB1.trans (hBr.mono hB1.size)))
        have hrl : (C.map fun j => co (ro m (co R k).toNat) j.toNat).length = C.length := List.length_map _
        rw [← hrow.out] at g5 hrl
        have hkn : (k : Int) < R.length := by omega
        have hfz := World.ownsRow.frozenAt hM.head k
        have hgl := World.ownsRow.lt hM.head g rfl
        have hMH := Lib.hid hM
        have HRL := Lib.hid hrl
        clear hM hrl
        generalize hRK : ro (subM m R C) k = rk at *
        have HRK := Lib.hid hRK
        clear hRK
        go_wp2_with (go_at_call 42; refine g5.mono ?_; rintro e w5 ⟨u, rfl, hu, hb5⟩; obtain ⟨A3, c3, hu3, _⟩ := own_form hu; subst hu3; have hfz3 : w5.frozen? ⟨g, k, none⟩ = false := (hb5.frozen (p := ⟨g, k, none⟩) hgl.2).trans hfz; have hcell3 := (hb5.cell (p := ⟨g, k, none⟩) hgl.2).trans hcell; have hgl3 : g < w5.heap.size := Nat.lt_of_lt_of_le hgl.2 hb5.size; obtain ⟨w6, hw6⟩ : ∃ w6, w6 = w5.setCell ⟨g, k, none⟩ (.slice A3 rk.length c3) := ⟨_, rfl⟩; have hM6 : MP w1.heap.size w6 (.slice (some ⟨g, 0, none⟩) R.length cg) R.length (k + 1) (us.set k (.slice A3 rk.length c3)) (subM m R C) := (by
          have hsz : w1.heap.size ≤ wr.heap.size := hBr.size
          have := hMH.out.lay (w' := w5) (i := k) (k' := k + 1) (u := .slice A3 rk.length c3) (r := rk) (row := none) (Nat.le_refl _) hlt2 (by omega) (grown_of hb5 none) (fun b e => by cases e) (own_wide hu hsz) (fun b e => .inl (World.ownsRow.lt hu b e).1)
          rw [← HRK.out, set_ro, HRK.out] at this
          rw [hw6]; exact this); have hB6 : Below w1.heap.size w1 w6 := (by rw [hw6]; exact (hBr.trans (hb5.mono hBr.size)).setCell (p := ⟨g, k, none⟩) hgl.1 _))
        go_roundw
        case rel => exact ⟨k + 1, us.set k (.slice A3 rk.length c3), by omega, by simp, by rw [← hw6]; exact hM6, Lib.hid (fun j hj => by rw [List.getElem?_set_ne (by omega)]; exact hU.out j (by omega)), by rw [← hw6]; exact hB6⟩
        case measure => simp [intOf]; omega
      · obtain rfl : k = R.length := by omega
        have hS9 := Lib.hid hM.sll
        have hBB := hB1.trans (hBr.mono hB1.size)
        go_wp2
        go_ret2
        exact ⟨_, _, by rw [hML.out]; rfl, hS9.out, hBB⟩
end Go.Proofs.Ytjijlefplidhpaa
