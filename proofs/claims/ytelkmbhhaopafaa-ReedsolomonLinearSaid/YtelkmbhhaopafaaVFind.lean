/- find of the reference of layer 8: the search through the choices of points; nothing that lay is changed. Conditions: a supported prime, points over its field at distinct places, as many as said. -/
import Derived.Test.YtelkmbhhaopafaaMF
namespace Go.Proofs.Ytelkmbhhaopafaa
set_option maxRecDepth 100000
open Go.RowKit PolyMath FieldMath

theorem row_form2 {w : World} {base t n : Nat} {v : Value} {xs : List Value} (h : w.ownsRow base t 2 v n xs) : ∃ A c, v = .slice A n c := by
  rcases h.2 with ⟨rfl, h0⟩ | ⟨g, cap, cur, rfl, _⟩
  · subst h0; exact ⟨_, _, rfl⟩
  · exact ⟨_, _, rfl⟩
theorem own_litP (w : World) : (w.alloc (.cells #[] 49)).ownsRow w.heap.size 49 2 (.slice (some ⟨w.heap.size, 0, none⟩) 0 0) 0 [] := World.ownsRow_lit w #[] 0 (Nat.le_refl _) (Nat.zero_le _) rfl
theorem pcells_one : ∀ (ps : List (Int × Int)), ∀ u ∈ pcells ps, u.oneCell' = true
  | [], _, h => by cases h
  | q :: qs, u, h => by
    rw [pcells] at h
    rcases List.mem_cons.1 h with rfl | h
    · rfl
    · rcases List.mem_cons.1 h with rfl | h
      · rfl
      · exact pcells_one qs u h
theorem pcells_two (x y : Int) : pcells [(x, y)] = [.int .u64 x, .int .u64 y] := rfl

/-- What find hands back. -/
def FindR (o : Option (List Int)) (w' : World) (v : Value) (b : Bool) : Prop := (b = true ∧ ∃ f A c, o = some f ∧ v = .slice A f.length c ∧ Sl w' A c f) ∨ (b = false ∧ o = none)
def FindE (o : Option (List Int)) (w : World) (e : Ending) (w' : World) : Prop := ∃ v b, e = .returned (.tuple #[v, .bool b]) ∧ FindR o w' v b ∧ Below w.heap.size w w'

theorem find_first {α : Type} {f : Nat → Option α} {N j : Nat} {y : α} (hj : j < N) (hb : ∀ i, i < j → f i = none) (hy : f j = some y) : (List.range N).findSome? f = some y := by
  have e : List.range N = List.range j ++ (j :: (List.range (N - j - 1)).map fun i => j + 1 + i) := by
    have h1 : N = j + (1 + (N - j - 1)) := by omega
    rw [h1, List.range_add, show j + (1 + (N - j - 1)) - j - 1 = N - j - 1 by omega]
    congr 1
    rw [List.range_add, List.map_append]
    show [j + 0] ++ _ = _
    rw [List.singleton_append, List.map_map]
    congr 1
    refine List.map_congr_left fun i _ => ?_
    show j + (1 + i) = j + 1 + i
    omega
  rw [e, List.findSome?_append, List.findSome?_eq_none_iff.2 fun i hi => hb i (List.mem_range.1 hi), Option.none_or, List.findSome?_cons, hy]
theorem find_none {α : Type} {f : Nat → Option α} {N : Nat} (hb : ∀ i, i < N → f i = none) : (List.range N).findSome? f = none := List.findSome?_eq_none_iff.2 fun i hi => hb i (List.mem_range.1 hi)

theorem drop_cons_of {α : Type} {l : List α} {i : Nat} {x : α} (h : l[i]? = some x) : l.drop i = x :: l.drop (i + 1) := by
  obtain ⟨h1, e⟩ := List.getElem?_eq_some_iff.1 h
  rw [List.drop_eq_getElem_cons h1, e]
theorem drop_sub {α : Type} (l : List α) {a i : Nat} (h : a ≤ i) : (l.drop i).Sublist (l.drop a) := by
  rw [show i = a + (i - a) by omega, ← List.drop_drop]
  exact List.drop_sublist _ _
/-- What must hold of the points taken and those that are left. -/
structure Left (p : Int) (ps taken : List (Int × Int)) (a k : Nat) : Prop where
  nd : (px (taken ++ ps.drop a)).Nodup
  x : El p (px taken)
  y : El p (py taken)
  len : taken.length + k ≤ 60
theorem Left.next {p : Int} {ps taken : List (Int × Int)} {a k i : Nat} {x y : Int} (h : Left p ps taken a (k + 1)) (hx : El p (px ps)) (hy : El p (py ps)) (hi : a ≤ i) (hxy : ps[i]? = some (x, y)) : Left p ps (taken ++ [(x, y)]) (i + 1) k where
  nd := by
    have h1 := h.nd
    have h2 : (taken ++ [(x, y)] ++ ps.drop (i + 1)).Sublist (taken ++ ps.drop a) := by
      rw [List.append_assoc]
      refine List.Sublist.append (List.Sublist.refl _) ?_
      rw [List.singleton_append, ← drop_cons_of hxy]
      exact drop_sub ps hi
    exact h1.sublist (h2.map _)
  x := fun z hz => by
    rw [px_snoc, List.mem_append] at hz
    rcases hz with hz | hz
    · exact h.x z hz
    · rw [List.mem_singleton] at hz; subst hz
      exact hx z (List.mem_of_getElem? (px_get hxy))
  y := fun z hz => by
    rw [py_snoc, List.mem_append] at hz
    rcases hz with hz | hz
    · exact h.y z hz
    · rw [List.mem_singleton] at hz; subst hz
      exact hy z (List.mem_of_getElem? (i := i) (by unfold py; rw [List.getElem?_map, hxy]; rfl))
  len := by rw [List.length_append]; have := h.len; simp; omega

set_option maxHeartbeats 8000000 in
theorem find_any (p : Int) (hp : OkP p) (B : Option Addr) (cb : Nat) (ps : List (Int × Int)) (hx : El p (px ps)) (hy : El p (py ps)) (hl : ps.length ≤ 50) (wn : Nat) (hw : wn ≤ 100) : ∀ (k : Nat) (T : Option Addr) (ct : Nat) (taken : List (Int × Int)) (a : Nat) (_ : Left p ps taken a k) (_ : a ≤ ps.length) (_ : taken = [] → T = none) (w : World) (_ : Pt w B cb ps) (_ : Pt w T ct taken),
    Calls Try.prog 33 #[.int .u64 p, .slice B ps.length cb, .slice T taken.length ct, .int .i64 a, .int .i64 k, .int .i64 wn] w fun e w' => FindE (srch p ps wn k taken a) w e w'
  | 0, T, ct, taken, a, hL, ha, _, w, sp, st => by
    have hbd := hp.bd
    have hlen := hL.len
    have hpol := rPol_any p hp T ct taken hL.x hL.y (by omega) w st
    have hnd : (px taken).Nodup := hL.nd.sublist ((List.sublist_append_left taken (ps.drop a)).map _)
    have hit := thru_itp hp.good hnd hL.x hL.y
    have hfl := hit.fl
    have hfe := hit.fe
    rw [px_len] at hfl
    have her := fun A c W (h1 : Sl W A c (thru p taken)) (h2 : Pt W B cb ps) => rErrp_row p hp A B c cb (thru p taken) hfe (by omega) ps hx (by omega) W h1 h2
    have hz : Hid (srch p ps wn 0 taken a = if (errs p (thru p taken) ps).length ≤ wn then some (thru p taken) else none) := Lib.hid rfl
    have hei : Hid ((errI p (thru p taken) ps).length = (errs p (thru p taken) ps).length) := Lib.hid (errI_len _ _ _)
    have HND := Lib.hid hnd
    clear hit hnd hL
    go_enter Try.func33, Try.ntmps33
    go_wp2_with fail
    refine hpol.mono ?_
    rintro e w1 (⟨_, A1, c1, rfl, hs1, hb1⟩ | ⟨hnd', _⟩)
    case inr => exact absurd HND.out hnd'
    have her1 := her A1 c1 w1 hs1 (sp.next hb1)
    have HS1 := Lib.hid hs1
    clear her hs1
    generalize thru p taken = F at *
    go_wp2_with fail
    refine her1.mono ?_
    rintro e w2 ⟨A2, c2, rfl, _, hb2⟩
    have hB2 := hb1.trans (hb2.mono hb1.size)
    have hsE := Lib.hid (HS1.out.next hb2)
    have hR : Hid (FindR (srch p ps wn 0 taken a) w2 (.slice A1 F.length c1) (decide (((errI p F ps).length : Int) ≤ wn))) := Lib.hid (by
      rw [hz.out, hei.out]
      by_cases h : (errs p F ps).length ≤ wn
      · rw [if_pos h]
        exact .inl ⟨decide_eq_true (by omega), F, A1, c1, rfl, rfl, hsE.out⟩
      · rw [if_neg h]
        exact .inr ⟨decide_eq_false (by omega), rfl⟩)
    clear her1
    generalize (errI p F ps).length = LE at *
    go_wp2
    go_ret2
    refine ⟨_, _, rfl, ?_, hB2⟩
    first | exact hR.out | (have := hR.out; simpa using this)
  | k + 1, T, ct, taken, a, hL, ha, hTn, w, sp, st => by
    obtain ⟨i0, hi, hz0, hz1, hz2⟩ := info_parts info_pt
    have hbd := hp.bd
    have hlen := hL.len
    have hk1 : ((k + 1 : Nat) : Int) - 1 = (k : Int) := by omega
    have hk0 : ¬ ((k + 1 : Nat) : Int) = 0 := by omega
    have HK1 := Lib.hid hk1
    have HLL := Lib.hid hL
    have wk : IntKind.i64.wrap (((k + 1 : Nat) : Int) - 1) = (k : Int) := by rw [hk1]; exact IntWalk.i64_in _ (by omega)
    obtain ⟨mT, hmT⟩ : ∃ mT, mT = taken.length := ⟨_, rfl⟩
    rw [← hmT] at hlen ⊢
    have HmT := Lib.hid hmT
    clear hL hk1 hmT
    obtain ⟨kI, hkI⟩ : ∃ kI : Int, kI = ((k + 1 : Nat) : Int) := ⟨_, rfl⟩
    rw [← hkI] at wk hk0 ⊢
    have hkb : 1 ≤ kI ∧ kI ≤ 100 := by omega
    have hk0' : (kI == 0) = false := beq_eq_false_iff_ne.2 hk0
    clear hkI
    go_enter Try.func33, Try.ntmps33
    go_wp2
    go_loopw [16] (fun v wr => ∃ i : Nat, a ≤ i ∧ i ≤ ps.length ∧ v = .int .i64 i ∧ Hid (∀ j, j < i - a → srch p ps wn k (taken ++ (ps[a + j]?).toList) (a + j + 1) = none) ∧ Below w.heap.size w wr) (fun v _ => ps.length - (intOf v).toNat)
    case atStart => exact ⟨a, Nat.le_refl _, ha, rfl, Lib.hid (fun j hj => by omega), Below.refl _ _⟩
    case round =>
      obtain ⟨i, hai, hip, rfl, hN, hB⟩ := hrel
      by_cases hlt : i < ps.length
      · obtain ⟨b, off, x, y, hA, hbl, hxy, hcx, hcy⟩ := (sp.next hB).at_ hlt
        subst hA
        have hiN : (i : Int) < ps.length := by omega
        have wi : IntKind.i64.wrap ((i : Int) + 1) = (i : Int) + 1 := IntWalk.i64_in _ (by omega)
        have hxs : ps[a + (i - a)]? = some (x, y) := by rw [show a + (i - a) = i by omega]; exact hxy
        have hFS : Hid (∀ f, srch p ps wn k (taken ++ [(x, y)]) (i + 1) = some f → srch p ps wn (k + 1) taken a = some f) := Lib.hid fun f hf => by
          rw [srch_succ]
          refine find_first (j := i - a) (by omega) (fun j hj => hN.out j hj) ?_
          rw [hxs, show a + (i - a) + 1 = i + 1 by omega]
          exact hf
        have hFN : Hid (srch p ps wn k (taken ++ [(x, y)]) (i + 1) = none → ∀ j, j < i + 1 - a → srch p ps wn k (taken ++ (ps[a + j]?).toList) (a + j + 1) = none) := Lib.hid fun hf j hj => by
          by_cases e : j < i - a
          · exact hN.out j e
          · obtain rfl : j = i - a := by omega
            rw [hxs, show a + (i - a) + 1 = i + 1 by omega]
            exact hf
        have hTL : Hid ((taken ++ [(x, y)]).length = mT + 1) := Lib.hid (by rw [List.length_append, HmT.out]; rfl)
        have hih : ∀ A6 c6 W, Below wr.heap.size wr W → Pt W A6 c6 (taken ++ [(x, y)]) → Calls Try.prog 33 #[.int .u64 p, .slice (some ⟨b, off, none⟩) ps.length cb, .slice A6 (mT + 1) c6, .int .i64 ((i : Int) + 1), .int .i64 k, .int .i64 wn] W fun e w' => FindE (srch p ps wn k (taken ++ [(x, y)]) (i + 1)) W e w' := fun A6 c6 W hW h6 => by
          have := find_any p hp (some ⟨b, off, none⟩) cb ps hx hy hl wn hw k A6 c6 (taken ++ [(x, y)]) (i + 1) (HLL.out.next hx hy hai hxy) (by omega) (fun e => absurd e (by simp)) W ((sp.next hB).next hW) h6
          rw [hTL.out] at this
          exact this
        have bI : Below wr.heap.size wr (wr.alloc (.cells #[] 49)).drew := ((Below.refl _ wr).alloc (Nat.le_refl _) _).drew
        have bL : Below wr.heap.size wr (wr.alloc (.cells #[.int .u64 x, .int .u64 y] 49)).drew := ((Below.refl _ wr).alloc (Nat.le_refl _) _).drew
        have bII : Below wr.heap.size wr ((wr.alloc (.cells #[] 49)).alloc (.cells #[.int .u64 x, .int .u64 y] 49)).drew := (((Below.refl _ wr).alloc (Nat.le_refl _) _).alloc (by simp) _).drew
        have bIII : Below wr.heap.size wr ((wr.alloc (.cells #[.int .u64 x, .int .u64 y] 49)).alloc (.cells #[] 49)).drew := (((Below.refl _ wr).alloc (Nat.le_refl _) _).alloc (by simp) _).drew
        have oI : Hid ((wr.alloc (.cells #[] 49)).drew.ownsRow wr.heap.size 49 2 (.slice (some ⟨wr.heap.size, 0, none⟩) 0 0) 0 []) := Lib.hid (own_litP wr)
        have oII : Hid (((wr.alloc (.cells #[] 49)).alloc (.cells #[.int .u64 x, .int .u64 y] 49)).drew.ownsRow wr.heap.size 49 2 (.slice (some ⟨wr.heap.size, 0, none⟩) 0 0) 0 []) := Lib.hid ((own_litP wr).alloc _)
        have oIII : Hid (((wr.alloc (.cells #[.int .u64 x, .int .u64 y] 49)).alloc (.cells #[] 49)).drew.ownsRow wr.heap.size 49 2 (.slice (some ⟨wr.heap.size + 1, 0, none⟩) 0 0) 0 []) := Lib.hid (by
          have := own_litP (wr.alloc (.cells #[.int .u64 x, .int .u64 y] 49))
          rw [World.size_alloc] at this
          exact own_base this (by omega))
        have nII : Hid (∀ (W : World), Below (wr.heap.size + 1 + 1) ((wr.alloc (.cells #[] 49)).alloc (.cells #[.int .u64 x, .int .u64 y] 49)).drew W ∨ W = ((wr.alloc (.cells #[] 49)).alloc (.cells #[.int .u64 x, .int .u64 y] 49)).drew ∨ (((wr.alloc (.cells #[] 49)).alloc (.cells #[.int .u64 x, .int .u64 y] 49)).drew.grownBy W (some wr.heap.size)) → ∀ j u, [Value.int .u64 x, .int .u64 y][j]? = some u → W.cell? ((⟨wr.heap.size + 1, 0, none⟩ : Addr).add j) = some u) := Lib.hid (fun W hW j u hj => by
          have h0 := World.news_of_block (w := (wr.alloc (.cells #[] 49)).alloc (.cells #[.int .u64 x, .int .u64 y] 49)) (B := wr.heap.size + 1) (cs := #[.int .u64 x, .int .u64 y]) (t := 49) (fr := (0, 0)) (by have := World.alloc_heap_new (wr.alloc (.cells #[] 49)) (.cells #[.int .u64 x, .int .u64 y] 49); rwa [World.size_alloc] at this) j u hj
          have hbk : ((⟨wr.heap.size + 1, 0, none⟩ : Addr).add j).block = wr.heap.size + 1 := by unfold Addr.add; split <;> rfl
          rcases hW with h | rfl | h
          · exact (h.cell (by rw [hbk]; omega)).trans h0
          · exact h0
          · exact h.cell h0 (by rw [hbk]; simp))
        have nIII : Hid (∀ (W : World), W = ((wr.alloc (.cells #[.int .u64 x, .int .u64 y] 49)).alloc (.cells #[] 49)).drew ∨ (((wr.alloc (.cells #[.int .u64 x, .int .u64 y] 49)).alloc (.cells #[] 49)).drew.grownBy W (some (wr.heap.size + 1))) → ∀ j u, [Value.int .u64 x, .int .u64 y][j]? = some u → W.cell? ((⟨wr.heap.size, 0, none⟩ : Addr).add j) = some u) := Lib.hid (fun W hW j u hj => by
          have h1 := World.news_of_block (w := wr.alloc (.cells #[.int .u64 x, .int .u64 y] 49)) (B := wr.heap.size) (cs := #[.int .u64 x, .int .u64 y]) (t := 49) (fr := (0, 0)) (World.alloc_heap_new wr (.cells #[.int .u64 x, .int .u64 y] 49)) j u hj
          have hbk : ((⟨wr.heap.size, 0, none⟩ : Addr).add j).block = wr.heap.size := by unfold Addr.add; split <;> rfl
          have h0 : ((wr.alloc (.cells #[.int .u64 x, .int .u64 y] 49)).alloc (.cells #[] 49)).drew.cell? ((⟨wr.heap.size, 0, none⟩ : Addr).add j) = some u := (World.cell?_alloc_some _ _ _ (by rw [h1]; rfl)).trans h1
          rcases hW with rfl | h
          · exact h0
          · exact h.cell h0 (by rw [hbk]; simp))
        clear hxs hxy hN
        by_cases ht0 : taken = []
        · have hT0 := hTn ht0
          subst hT0
          have hc0 := st.nil rfl
          subst hc0
          have hm0 : Hid (mT = 0) := Lib.hid (by rw [HmT.out, ht0]; rfl)
          have hih0 : ∀ A6 c6 W, Below wr.heap.size wr W → Pt W A6 c6 [(x, y)] → Calls Try.prog 33 #[.int .u64 p, .slice (some ⟨b, off, none⟩) ps.length cb, .slice A6 1 c6, .int .i64 ((i : Int) + 1), .int .i64 k, .int .i64 wn] W fun e w' => FindE (srch p ps wn k (taken ++ [(x, y)]) (i + 1)) W e w' := fun A6 c6 W hW h6 => by
            have := hih A6 c6 W hW (by rw [ht0]; exact h6)
            rw [hm0.out] at this
            exact this
          clear ht0 hih hTn
          go_wp2_with fail
          go_region_held3 (fun w' => w'.cell? ⟨b, off + i * 2, none⟩ = some (.int .u64 x) ∧ w'.cell? ⟨b, off + i * 2 + 1, none⟩ = some (.int .u64 y))
            (first | (refine ⟨?_, ?_⟩ <;> assumption) | exact ⟨hcx, hcy⟩ | exact ⟨(bI.cell (p := ⟨b, off + i * 2, none⟩) hbl).trans hcx, (bI.cell (p := ⟨b, off + i * 2 + 1, none⟩) hbl).trans hcy⟩ | exact ⟨(bII.cell (p := ⟨b, off + i * 2, none⟩) hbl).trans hcx, (bII.cell (p := ⟨b, off + i * 2 + 1, none⟩) hbl).trans hcy⟩ | exact ⟨(bIII.cell (p := ⟨b, off + i * 2, none⟩) hbl).trans hcx, (bIII.cell (p := ⟨b, off + i * 2 + 1, none⟩) hbl).trans hcy⟩ | exact ⟨(bL.cell (p := ⟨b, off + i * 2, none⟩) hbl).trans hcx, (bL.cell (p := ⟨b, off + i * 2 + 1, none⟩) hbl).trans hcy⟩ | exact ⟨(bV.cell (p := ⟨b, off + i * 2, none⟩) hbl).trans hcx, (bV.cell (p := ⟨b, off + i * 2 + 1, none⟩) hbl).trans hcy⟩)
            (first
              | (go_at_call 33; (with_reducible refine (hih6.out).mono ?_); rintro e w7 ⟨v7, b7, rfl, hF7, hb7⟩; have hB7 := hB6.trans (hb7.mono hB6.size); have cx7 := (hB7.cell (p := ⟨b, off + i * 2, none⟩) hbl).trans hcx; have cy7 := (hB7.cell (p := ⟨b, off + i * 2 + 1, none⟩) hbl).trans hcy; clear hb7)
              | (refine step_append_own _ (by rfl) _ _ _ (by rfl) wr.heap.size 49 i0 _ 2 16 Try.underlying23 hi hz0 hz1 hz2 rfl (by omega) _ 0 _ (by rfl) oII.out ⟨wr.heap.size + 1, 0, none⟩ 1 1 [.int .u64 x, .int .u64 y] (by rfl) (by rfl) (nII.out _ (.inr (.inl rfl))) (by simp [Value.oneCell']) (by simp only [maxLen]; omega) (by omega) (by first | omega | (simp; done) | (simp; omega)) ?_; intro v6 w6 hown6 hgrow6; have hB6 : Below wr.heap.size wr w6 := (bII).grown hgrow6 (by first | omega | (simp; done) | (simp; omega)) (fun x e => (World.ownsRow.lt oII.out x e).1); obtain ⟨A6, c6, hv6, hs6⟩ := pown_form (n := 1) (ps := [(x, y)]) hown6; change v6 = .slice A6 1 c6 at hv6; subst hv6; have hih6 := Lib.hid (hih0 A6 c6 w6 hB6 hs6); have cx6 := (hB6.cell (p := ⟨b, off + i * 2, none⟩) hbl).trans hcx; have cy6 := (hB6.cell (p := ⟨b, off + i * 2 + 1, none⟩) hbl).trans hcy; clear hown6 hgrow6 hs6)
              | (refine step_append_own _ (by rfl) _ _ _ (by rfl) wr.heap.size 49 i0 _ 2 16 Try.underlying23 hi hz0 hz1 hz2 rfl (by omega) _ 0 _ (by rfl) oIII.out ⟨wr.heap.size, 0, none⟩ 1 1 [.int .u64 x, .int .u64 y] (by rfl) (by rfl) (nIII.out _ (.inl rfl)) (by simp [Value.oneCell']) (by simp only [maxLen]; omega) (by omega) (by first | omega | (simp; done) | (simp; omega)) ?_; intro v6 w6 hown6 hgrow6; have hB6 : Below wr.heap.size wr w6 := (bIII).grown hgrow6 (by first | omega | (simp; done) | (simp; omega)) (fun x e => (World.ownsRow.lt oIII.out x e).1); obtain ⟨A6, c6, hv6, hs6⟩ := pown_form (n := 1) (ps := [(x, y)]) hown6; change v6 = .slice A6 1 c6 at hv6; subst hv6; have hih6 := Lib.hid (hih0 A6 c6 w6 hB6 hs6); have cx6 := (hB6.cell (p := ⟨b, off + i * 2, none⟩) hbl).trans hcx; have cy6 := (hB6.cell (p := ⟨b, off + i * 2 + 1, none⟩) hbl).trans hcy; clear hown6 hgrow6 hs6)
              | (refine step_append_nothing _ (by rfl) _ _ _ (by rfl) 49 i0 Try.underlying23 hi _ mT 0 (by rfl) (by rfl) hm0.out ?_))
          all_goals
            rcases hF7 with ⟨rfl, f7, A7, c7, ho7, rfl, hs7⟩ | ⟨rfl, ho7⟩
            · have hR : Hid (FindR (srch p ps wn (k + 1) taken a) w7 (.slice A7 f7.length c7) true) := Lib.hid (.inl ⟨rfl, f7, A7, c7, hFS.out f7 ho7, rfl, hs7⟩)
              clear hs7
              go_wp2
              go_ret2
              exact ⟨_, _, rfl, hR.out, hB.trans (hB7.mono hB.size)⟩
            · have hN2 := Lib.hid (hFN.out ho7)
              go_wp2
              go_roundw
              case rel => exact ⟨i + 1, by omega, by omega, by simp, hN2, hB.trans (hB7.mono hB.size)⟩
              case measure => simp [intOf]; omega
        · obtain ⟨tb, to_, hTA⟩ : ∃ tb to_, T = some ⟨tb, to_, none⟩ := by
            obtain ⟨tb, to_, _, _, h, _⟩ := st.at_ (k := 0) (by have := List.length_pos_iff.2 ht0; omega)
            exact ⟨tb, to_, h⟩
          subst hTA
          have hnT : ∀ W, Below wr.heap.size wr W → ∀ j u, (pcells taken)[j]? = some u → W.cell? ((⟨tb, to_, none⟩ : Addr).add j) = some u := fun W hW => ((st.next hB).next hW).news
          clear ht0 hTn
          go_wp2_with fail
          go_region_held3 (fun w' => w'.cell? ⟨b, off + i * 2, none⟩ = some (.int .u64 x) ∧ w'.cell? ⟨b, off + i * 2 + 1, none⟩ = some (.int .u64 y))
            (first | (refine ⟨?_, ?_⟩ <;> assumption) | exact ⟨hcx, hcy⟩ | exact ⟨(bI.cell (p := ⟨b, off + i * 2, none⟩) hbl).trans hcx, (bI.cell (p := ⟨b, off + i * 2 + 1, none⟩) hbl).trans hcy⟩ | exact ⟨(bII.cell (p := ⟨b, off + i * 2, none⟩) hbl).trans hcx, (bII.cell (p := ⟨b, off + i * 2 + 1, none⟩) hbl).trans hcy⟩ | exact ⟨(bIII.cell (p := ⟨b, off + i * 2, none⟩) hbl).trans hcx, (bIII.cell (p := ⟨b, off + i * 2 + 1, none⟩) hbl).trans hcy⟩ | exact ⟨(bL.cell (p := ⟨b, off + i * 2, none⟩) hbl).trans hcx, (bL.cell (p := ⟨b, off + i * 2 + 1, none⟩) hbl).trans hcy⟩ | exact ⟨(bV.cell (p := ⟨b, off + i * 2, none⟩) hbl).trans hcx, (bV.cell (p := ⟨b, off + i * 2 + 1, none⟩) hbl).trans hcy⟩)
            (first
              | (go_at_call 33; (with_reducible refine (hih6.out).mono ?_); rintro e w7 ⟨v7, b7, rfl, hF7, hb7⟩; have hB7 := hB6.trans (hb7.mono hB6.size); have cx7 := (hB7.cell (p := ⟨b, off + i * 2, none⟩) hbl).trans hcx; have cy7 := (hB7.cell (p := ⟨b, off + i * 2 + 1, none⟩) hbl).trans hcy; clear hb7)
              | (refine step_append_own _ (by rfl) _ _ _ (by rfl) wr.heap.size 49 i0 _ 2 16 Try.underlying23 hi hz0 hz1 hz2 rfl (by omega) _ mT _ (by rfl) HOI.out ⟨w5.heap.size, 0, none⟩ 1 1 [.int .u64 x, .int .u64 y] (by rfl) (by rfl) (World.news_of_block (cs := #[.int .u64 x, .int .u64 y]) (t := 49) (fr := (0, 0)) (World.alloc_heap_new w5 _)) (by simp [Value.oneCell']) (by simp only [maxLen]; omega) (by omega) (by first | omega | (simp; done) | (simp; omega)) ?_; intro v6 w6 hown6 hgrow6; have hB6 : Below wr.heap.size wr w6 := (hB5.alloc hsz5 _).grown hgrow6 (by first | omega | (simp; done) | (simp; omega)) (fun x e => (World.ownsRow.lt HOI.out x e).1); obtain ⟨A6, c6, hv6, hs6⟩ := pown_form (ps := taken ++ [(x, y)]) (by rw [pcells_snoc]; exact hown6); rw [hTL.out] at hv6; subst hv6; have hih6 := Lib.hid (hih A6 c6 w6 hB6 hs6); have cx6 := (hB6.cell (p := ⟨b, off + i * 2, none⟩) hbl).trans hcx; have cy6 := (hB6.cell (p := ⟨b, off + i * 2 + 1, none⟩) hbl).trans hcy; clear hown6 hgrow6 hs6)
              | (refine step_append_own _ (by rfl) _ _ _ (by rfl) wr.heap.size 49 i0 _ 2 16 Try.underlying23 hi hz0 hz1 hz2 rfl (by omega) _ mT _ (by rfl) HOII.out ⟨wr.heap.size + 1, 0, none⟩ 1 1 [.int .u64 x, .int .u64 y] (by rfl) (by rfl) hnII.out (by simp [Value.oneCell']) (by simp only [maxLen]; omega) (by omega) (by first | omega | (simp; done) | (simp; omega)) ?_; intro v6 w6 hown6 hgrow6; have hB6 : Below wr.heap.size wr w6 := (hB5).grown hgrow6 (by first | omega | (simp; done) | (simp; omega)) (fun x e => (World.ownsRow.lt HOII.out x e).1); obtain ⟨A6, c6, hv6, hs6⟩ := pown_form (ps := taken ++ [(x, y)]) (by rw [pcells_snoc]; exact hown6); rw [hTL.out] at hv6; subst hv6; have hih6 := Lib.hid (hih A6 c6 w6 hB6 hs6); have cx6 := (hB6.cell (p := ⟨b, off + i * 2, none⟩) hbl).trans hcx; have cy6 := (hB6.cell (p := ⟨b, off + i * 2 + 1, none⟩) hbl).trans hcy; clear hown6 hgrow6 hs6)
              | (refine step_append_own _ (by rfl) _ _ _ (by rfl) wr.heap.size 49 i0 _ 2 16 Try.underlying23 hi hz0 hz1 hz2 rfl (by omega) _ mT _ (by rfl) HOIII.out ⟨wr.heap.size, 0, none⟩ 1 1 [.int .u64 x, .int .u64 y] (by rfl) (by rfl) hnIII.out (by simp [Value.oneCell']) (by simp only [maxLen]; omega) (by omega) (by first | omega | (simp; done) | (simp; omega)) ?_; intro v6 w6 hown6 hgrow6; have hB6 : Below wr.heap.size wr w6 := (hB5).grown hgrow6 (by first | omega | (simp; done) | (simp; omega)) (fun x e => (World.ownsRow.lt HOIII.out x e).1); obtain ⟨A6, c6, hv6, hs6⟩ := pown_form (ps := taken ++ [(x, y)]) (by rw [pcells_snoc]; exact hown6); rw [hTL.out] at hv6; subst hv6; have hih6 := Lib.hid (hih A6 c6 w6 hB6 hs6); have cx6 := (hB6.cell (p := ⟨b, off + i * 2, none⟩) hbl).trans hcx; have cy6 := (hB6.cell (p := ⟨b, off + i * 2 + 1, none⟩) hbl).trans hcy; clear hown6 hgrow6 hs6)
              | (refine step_append_own _ (by rfl) _ _ _ (by rfl) wr.heap.size 49 i0 _ 2 16 Try.underlying23 hi hz0 hz1 hz2 rfl (by omega) _ 0 _ (by rfl) oI.out ⟨tb, to_, none⟩ mT ct (pcells taken) (by rfl) (by rw [pcells_len, HmT.out]) (hnT _ bI) (pcells_one _) (by simp only [maxLen]; omega) (by omega) (by first | omega | (simp; done) | (simp; omega)) ?_; intro v5 w5 hown5 hgrow5; have hB5 : Below wr.heap.size wr w5 := (bI).grown hgrow5 (by first | omega | (simp; done) | (simp; omega)) (fun x e => (World.ownsRow.lt oI.out x e).1); have hsz5 := hB5.size; rw [Nat.zero_add, List.nil_append] at hown5; obtain ⟨A5, c5, rfl⟩ := row_form2 hown5; have HOI : Hid ((w5.alloc (.cells #[.int .u64 x, .int .u64 y] 49)).ownsRow wr.heap.size 49 2 (.slice A5 mT c5) mT (pcells taken)) := Lib.hid (by have := hown5.alloc (.cells #[.int .u64 x, .int .u64 y] 49); simpa using this); have bV : Below wr.heap.size wr (w5.alloc (.cells #[.int .u64 x, .int .u64 y] 49)) := hB5.alloc hsz5 _; clear hgrow5; have cx5 := (hB5.cell (p := ⟨b, off + i * 2, none⟩) hbl).trans hcx; have cy5 := (hB5.cell (p := ⟨b, off + i * 2 + 1, none⟩) hbl).trans hcy; clear hown5)
              | (refine step_append_own _ (by rfl) _ _ _ (by rfl) wr.heap.size 49 i0 _ 2 16 Try.underlying23 hi hz0 hz1 hz2 rfl (by omega) _ 0 _ (by rfl) oII.out ⟨tb, to_, none⟩ mT ct (pcells taken) (by rfl) (by rw [pcells_len, HmT.out]) (hnT _ bII) (pcells_one _) (by simp only [maxLen]; omega) (by omega) (by first | omega | (simp; done) | (simp; omega)) ?_; intro v5 w5 hown5 hgrow5; have hB5 : Below wr.heap.size wr w5 := (bII).grown hgrow5 (by first | omega | (simp; done) | (simp; omega)) (fun x e => (World.ownsRow.lt oII.out x e).1); have hsz5 := hB5.size; rw [Nat.zero_add, List.nil_append] at hown5; obtain ⟨A5, c5, rfl⟩ := row_form2 hown5; have HOII : Hid (w5.ownsRow wr.heap.size 49 2 (.slice A5 mT c5) mT (pcells taken)) := Lib.hid (by simpa using hown5); have hnII := Lib.hid (nII.out w5 (.inr (.inr hgrow5))); clear hgrow5; have cx5 := (hB5.cell (p := ⟨b, off + i * 2, none⟩) hbl).trans hcx; have cy5 := (hB5.cell (p := ⟨b, off + i * 2 + 1, none⟩) hbl).trans hcy; clear hown5)
              | (refine step_append_own _ (by rfl) _ _ _ (by rfl) wr.heap.size 49 i0 _ 2 16 Try.underlying23 hi hz0 hz1 hz2 rfl (by omega) _ 0 _ (by rfl) oIII.out ⟨tb, to_, none⟩ mT ct (pcells taken) (by rfl) (by rw [pcells_len, HmT.out]) (hnT _ bIII) (pcells_one _) (by simp only [maxLen]; omega) (by omega) (by first | omega | (simp; done) | (simp; omega)) ?_; intro v5 w5 hown5 hgrow5; have hB5 : Below wr.heap.size wr w5 := (bIII).grown hgrow5 (by first | omega | (simp; done) | (simp; omega)) (fun x e => (World.ownsRow.lt oIII.out x e).1); have hsz5 := hB5.size; rw [Nat.zero_add, List.nil_append] at hown5; obtain ⟨A5, c5, rfl⟩ := row_form2 hown5; have HOIII : Hid (w5.ownsRow wr.heap.size 49 2 (.slice A5 mT c5) mT (pcells taken)) := Lib.hid (by simpa using hown5); have hnIII := Lib.hid (nIII.out w5 (.inr hgrow5)); clear hgrow5; have cx5 := (hB5.cell (p := ⟨b, off + i * 2, none⟩) hbl).trans hcx; have cy5 := (hB5.cell (p := ⟨b, off + i * 2 + 1, none⟩) hbl).trans hcy; clear hown5))
          all_goals
            rcases hF7 with ⟨rfl, f7, A7, c7, ho7, rfl, hs7⟩ | ⟨rfl, ho7⟩
            · have hR : Hid (FindR (srch p ps wn (k + 1) taken a) w7 (.slice A7 f7.length c7) true) := Lib.hid (.inl ⟨rfl, f7, A7, c7, hFS.out f7 ho7, rfl, hs7⟩)
              clear hs7
              go_wp2
              go_ret2
              exact ⟨_, _, rfl, hR.out, hB.trans (hB7.mono hB.size)⟩
            · have hN2 := Lib.hid (hFN.out ho7)
              go_wp2
              go_roundw
              case rel => exact ⟨i + 1, by omega, by omega, by simp, hN2, hB.trans (hB7.mono hB.size)⟩
              case measure => simp [intOf]; omega
      · obtain rfl : i = ps.length := by omega
        have hR : Hid (FindR (srch p ps wn (k + 1) taken a) wr (.slice none 0 0) false) := Lib.hid (.inr ⟨rfl, by rw [srch_succ]; exact find_none hN.out⟩)
        clear hN
        go_wp2
        go_ret2
        exact ⟨_, _, rfl, hR.out, hB⟩
end Go.Proofs.Ytelkmbhhaopafaa
