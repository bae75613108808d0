/- Same and SameAll of the reference of layer 13 at equal messages; words and may of its laws. Nothing that lay is changed. Conditions: as the laws meet them. -/
import Derived.Test.YtbhphamfkhccpaaAdRfM
namespace Go.Proofs.Ytbhphamfkhccpaa
set_option maxRecDepth 100000
open Go.RowKit PolyMath FieldMath PartyMath

set_option maxHeartbeats 4000000 in
theorem same_yesN (A A' : Option Addr) (c c' n : Nat) (f f' : Nat → List Int) (hn : n ≤ 13) (he : ∀ i, i < n → f i = f' i) (hf : ∀ i, i < n → (f i).length ≤ 20) (w : World) (h : Sf w A c n f) (h' : Sf w A' c' n f') :
    Calls Try.prog 15 #[.slice A n c, .slice A' n c'] w fun e w' => e = .returned (.bool true) ∧ ∃ m, w' = w.drewN m := by
  have hn' : (n : Int) ≤ 13 := by omega
  go_enter Try.func15, Try.ntmps15
  go_wp2
  go_loopw [5] (fun q wr => ∃ k m : Nat, k ≤ n ∧ q = .int .i64 k ∧ wr = w.drewN m) (fun q _ => n - (intOf q).toNat)
  case atStart => exact ⟨0, 0, Nat.zero_le _, rfl, rfl⟩
  case round =>
    obtain ⟨k, m, hk, rfl, rfl⟩ := hrel
    by_cases hlt : k < n
    · have hkN : (k : Int) < n := by omega
      obtain ⟨b, off, A1, c1, rfl, hb, hc1, hs1⟩ := h.at_ hlt
      obtain ⟨b', off', A2, c2, rfl, hb', hc2, hs2⟩ := h'.at_ hlt
      have hlen := hf k hlt
      rw [← he k hlt] at hc2 hs2
      have S1 := Lib.hid hs1
      have S2 := Lib.hid hs2
      clear hs1 hs2
      generalize f k = l at *
      have hlI : (l.length : Int) ≤ 20 := by omega
      have hbne : ((l.length : Int) != (l.length : Int)) = false := by rw [bne_eq_false_iff_eq]
      go_wp2
      go_quiet (fail)
      go_wp2
      go_loopw [6] (fun q wr => ∃ j m' : Nat, j ≤ l.length ∧ q = .int .i64 j ∧ wr = w.drewN m') (fun q _ => l.length - (intOf q).toNat)
      case atStart => exact ⟨0, _, Nat.zero_le _, rfl, by first | rfl | (simp; rfl)⟩
      case round =>
        obtain ⟨j, m', hj, rfl, rfl⟩ := hrel
        by_cases hjl : j < l.length
        · have hjI : (j : Int) < l.length := by omega
          obtain ⟨b3, o3, x, rfl, _, hx, hcx⟩ := S1.out.at_ hjl
          obtain ⟨b4, o4, y, rfl, _, hy, hcy⟩ := S2.out.at_ hjl
          obtain rfl : x = y := by rw [hx] at hy; injection hy
          clear hx hy
          go_wp2
          go_quiet (fail)
          go_wp2
          go_roundw
          case rel => exact ⟨j + 1, _, by omega, by simp, by first | rfl | (simp; rfl)⟩
          case measure => simp [intOf]; omega
        · obtain rfl : j = l.length := by omega
          go_wp2
          go_roundw
          case rel => exact ⟨k + 1, m', by omega, by simp, rfl⟩
          case measure => simp [intOf]; omega
    · obtain rfl : k = n := by omega
      go_wp2
      go_ret
      exact ⟨rfl, _, rfl⟩
theorem same_yes (A A' : Option Addr) (c c' n : Nat) (f f' : Nat → List Int) (hn : n ≤ 13) (he : ∀ i, i < n → f i = f' i) (hf : ∀ i, i < n → (f i).length ≤ 20) (w : World) (h : Sf w A c n f) (h' : Sf w A' c' n f') :
    Calls Try.prog 15 #[.slice A n c, .slice A' n c'] w fun e w' => e = .returned (.bool true) ∧ Below w.heap.size w w' :=
  (same_yesN A A' c c' n f f' hn he hf w h h').mono fun _ _ ⟨h1, _, h2⟩ => ⟨h1, h2 ▸ below_drewN (Below.refl _ _) _⟩
theorem Sf.drewN {w : World} {A : Option Addr} {c n : Nat} {f : Nat → List Int} (h : Sf w A c n f) (m : Nat) : Sf (w.drewN m) A c n f := h.next (below_drewN (Below.refl _ _) m)
set_option maxHeartbeats 4000000 in
theorem sameAll_yes (A A' : Option Addr) (c c' n : Nat) (f f' : Nat → Nat → List Int) (hn : n ≤ 13) (he : ∀ i j, i < n → j < n → f i j = f' i j) (hf : ∀ i j, i < n → j < n → (f i j).length ≤ 20) (w : World) (h : S2 w A c n n f) (h' : S2 w A' c' n n f') :
    Calls Try.prog 12 #[.slice A n c, .slice A' n c'] w fun e w' => e = .returned (.bool true) ∧ Below w.heap.size w w' := by
  have hn' : (n : Int) ≤ 13 := by omega
  go_enter Try.func12, Try.ntmps12
  go_wp2
  go_loopw [5] (fun q wr => ∃ k m : Nat, k ≤ n ∧ q = .int .i64 k ∧ wr = w.drewN m) (fun q _ => n - (intOf q).toNat)
  case atStart => exact ⟨0, 0, Nat.zero_le _, rfl, rfl⟩
  case round =>
    obtain ⟨k, m, hk, rfl, rfl⟩ := hrel
    by_cases hlt : k < n
    · have hkN : (k : Int) < n := by omega
      obtain ⟨b, off, A1, c1, rfl, hb, hc1, hs1⟩ := h.at_ hlt
      obtain ⟨b', off', A2, c2, rfl, hb', hc2, hs2⟩ := h'.at_ hlt
      have hsm := fun t : Nat => same_yesN A1 A2 c1 c2 n (f k) (f' k) hn (fun j hj => he k j hlt hj) (fun j hj => hf k j hlt hj) (w.drewN (m + t)) (hs1.drewN _) (hs2.drewN _)
      clear hs1 hs2
      go_wp2
      go_quiet (exact quiet_more (hsm _))
      go_wp2
      go_roundw
      case rel => exact ⟨k + 1, _, by omega, by simp, by first | rfl | (simp; rfl)⟩
      case measure => simp [intOf]; omega
    · obtain rfl : k = n := by omega
      go_wp2
      go_ret
      exact ⟨rfl, below_drewN (Below.refl _ _) _⟩

/-- Lists of lists of messages that came in. -/
structure Sm (w : World) (A : Option Addr) (c : Nat) (M : List (List (List Int))) : Prop where
  cap : M.length ≤ c
  nil : A = none → c = 0
  rd : ∀ ad, A = some ad → M ≠ [] → ∃ b off, ad = ⟨b, off, none⟩ ∧ b < w.heap.size ∧ ∀ j R, M[j]? = some R → ∃ A' c', w.cell? ⟨b, off + j, none⟩ = some (.slice A' R.length c') ∧ Sll w A' c' R
theorem Sm.next {w w' : World} {A : Option Addr} {c : Nat} {M : List (List (List Int))} (h : Sm w A c M) (hb : Below w.heap.size w w') : Sm w' A c M :=
  ⟨h.cap, h.nil, fun ad hA hn => by
    obtain ⟨b, off, e, hlt, hc⟩ := h.rd ad hA hn
    refine ⟨b, off, e, Nat.lt_of_lt_of_le hlt hb.size, fun j r hx => ?_⟩
    obtain ⟨A', c', h1, h2⟩ := hc j r hx
    exact ⟨A', c', (hb.cell (p := ⟨b, off + j, none⟩) hlt).trans h1, h2.next hb⟩⟩
theorem Sm.at_ {w : World} {A : Option Addr} {c k : Nat} {M : List (List (List Int))} (h : Sm w A c M) (hk : k < M.length) : ∃ b off R A' c', A = some ⟨b, off, none⟩ ∧ b < w.heap.size ∧ M[k]? = some R ∧ w.cell? ⟨b, off + k, none⟩ = some (.slice A' R.length c') ∧ Sll w A' c' R := by
  cases hA : A with
  | none => have := h.nil hA; have := h.cap; omega
  | some ad =>
    obtain ⟨b, off, rfl, hb, hc⟩ := h.rd ad hA (fun e => by rw [e] at hk; simp at hk)
    have hx := List.getElem?_eq_getElem hk
    obtain ⟨A', c', h1, h2⟩ := hc k _ hx
    exact ⟨b, off, _, A', c', rfl, hb, hx, h1, h2⟩
/-- N lists of N messages read as a function. -/
theorem Sm.s2 {w : World} {A : Option Addr} {c N : Nat} {M : List (List (List Int))} (h : Sm w A c M) (hN : M.length = N) (hR : ∀ R ∈ M, R.length = N) : S2 w A c N N (rAt2 M) :=
  ⟨by have := h.cap; omega, fun h0 => by
    obtain ⟨b, off, R, A', c', rfl, hb, _, _, _⟩ := h.at_ (k := 0) (by omega)
    obtain ⟨b', off', e, hb', hc⟩ := h.rd _ rfl (fun e => by rw [e] at hN; simp at hN; omega)
    refine ⟨b', off', by rw [e], hb', fun i hi => ?_⟩
    have hx := List.getElem?_eq_getElem (show i < M.length by omega)
    obtain ⟨A', c', h1, h2⟩ := hc i _ hx
    have hl := hR _ (List.mem_of_getElem? hx)
    rw [hl] at h1
    refine ⟨A', c', h1, (Sf.of_sll h2 hl).ext fun j _ => ?_⟩
    unfold rAt2
    rw [hx]; rfl⟩

/-- What words says. -/
def WdsOk (p n : Int) (rows : List (List Int)) : Prop := (rows.length : Int) = n ∧ ∀ r ∈ rows, r.length ≤ 20 ∧ ∀ x ∈ r, x < p
instance (p n : Int) (rows : List (List Int)) : Decidable (WdsOk p n rows) := by unfold WdsOk; exact inferInstance
set_option maxHeartbeats 4000000 in
theorem words_any (p n t : Int) (A : Option Addr) (c : Nat) (rows : List (List Int)) (hl : rows.length ≤ 9223372036854775807) (w : World) (h : Sll w A c rows) :
    Calls Try.prog 20 #[.slice A rows.length c, pv p n t] w fun e w' => e = .returned (.bool (decide (WdsOk p n rows))) ∧ Below w.heap.size w w' := by
  have hB1 := Lib.hid ((Below.refl _ w).alloc (Nat.le_refl _) (.cells #[.int .u64 p, .int .i64 n, .int .i64 t] 24))
  have hX1 := Lib.hid (Bx.made w p n t)
  have hS := h.push (.cells #[.int .u64 p, .int .i64 n, .int .i64 t] 24)
  unfold pv
  by_cases hn : (rows.length : Int) = n
  case neg =>
    have hn' : ((rows.length : Int) != n) = true := bne_iff_ne.2 hn
    rw [show decide (WdsOk p n rows) = false from decide_eq_false fun q => hn q.1]
    clear hn
    go_enter Try.func20, Try.ntmps20
    go_wp2
    go_ret
    exact ⟨rfl, hB1.out⟩
  have hn' : ((rows.length : Int) != n) = false := by rw [bne_eq_false_iff_eq]; exact hn
  have hnH := Lib.hid hn
  clear hn
  go_enter Try.func20, Try.ntmps20
  go_wp2
  generalize w.alloc (.cells #[.int .u64 p, .int .i64 n, .int .i64 t] 24) = W1 at *
  go_loopw [5] (fun q wr => ∃ k m : Nat, k ≤ rows.length ∧ q = .int .i64 k ∧ wr = W1.drewN m ∧ Hid (∀ r ∈ rows.take k, r.length ≤ 20 ∧ ∀ x ∈ r, x < p)) (fun q _ => rows.length - (intOf q).toNat)
  case atStart => exact ⟨0, 0, Nat.zero_le _, rfl, rfl, Lib.hid (fun r hr => by simp at hr)⟩
  case round =>
    obtain ⟨k, m, hk, rfl, rfl, hE⟩ := hrel
    have hdw := below_drewN (Below.refl W1.heap.size W1) m
    by_cases hlt : k < rows.length
    · obtain ⟨b, off, r, A1, c1, rfl, hb, hx, hc1, hs1⟩ := hS.at_ hlt
      have hkN : (k : Int) < rows.length := by omega
      have S1 := Lib.hid hs1
      obtain ⟨c0, c1', c2', _⟩ := id hX1.out
      clear hs1
      by_cases h20 : r.length ≤ 20
      case neg =>
        have h20' : (20 : Int) < r.length := by omega
        have hNo := Lib.hid (show decide (WdsOk p n rows) = false from decide_eq_false fun q => h20 (q.2 r (List.mem_of_getElem? hx)).1)
        clear hx
        go_wp2
        go_ret
        exact ⟨by rw [hNo.out]; rfl, hB1.out.trans (hdw.mono hB1.out.size)⟩
      have h20' : (r.length : Int) ≤ 20 := by omega
      have hXR := Lib.hid hx
      clear hx
      go_wp2
      go_loopw [6] (fun q wr => ∃ j m' : Nat, j ≤ r.length ∧ q = .int .i64 j ∧ wr = W1.drewN m' ∧ Hid (∀ x ∈ r.take j, x < p)) (fun q _ => r.length - (intOf q).toNat)
      case atStart => exact ⟨0, m, Nat.zero_le _, rfl, rfl, Lib.hid (fun x hx => by simp at hx)⟩
      case round =>
        obtain ⟨j, m', hj, rfl, rfl, hE2⟩ := hrel
        have hdw2 := below_drewN (Below.refl W1.heap.size W1) m'
        by_cases hjl : j < r.length
        · obtain ⟨b2, o2, x, rfl, _, hx2, hcx⟩ := S1.out.at_ hjl
          have hjI : (j : Int) < r.length := by omega
          have hXX := Lib.hid hx2
          clear hx2
          by_cases hxp : x < p
          · have hxp' : decide (p ≤ x) = false := decide_eq_false (by omega)
            have hN := Lib.hid (show ∀ y ∈ r.take (j + 1), y < p from fun y hy => by
              rw [List.take_add_one, hXX.out] at hy
              rcases List.mem_append.1 hy with h1 | h1
              · exact hE2.out y h1
              · have : y = x := by simpa using h1
                subst this; exact hxp)
            clear hxp
            go_wp2
            go_quiet (fail)
            go_wp2
            go_roundw
            case rel => exact ⟨j + 1, _, by omega, by simp, by first | rfl | (simp; rfl), hN⟩
            case measure => simp [intOf]; omega
          · have hxp' : decide (p ≤ x) = true := decide_eq_true (by omega)
            have hNo := Lib.hid (show decide (WdsOk p n rows) = false from decide_eq_false fun q => hxp ((q.2 r (List.mem_of_getElem? hXR.out)).2 x (List.mem_of_getElem? hXX.out)))
            clear hxp
            go_wp2
            go_quiet (fail)
            go_wp2
            go_ret
            exact ⟨by rw [hNo.out]; rfl, hB1.out.trans ((below_drewN hdw2 _).mono hB1.out.size)⟩
        · obtain rfl : j = r.length := by omega
          have hN := Lib.hid (show ∀ y ∈ rows.take (k + 1), y.length ≤ 20 ∧ ∀ x ∈ y, x < p from fun y hy => by
            rw [List.take_add_one, hXR.out] at hy
            rcases List.mem_append.1 hy with h1 | h1
            · exact hE.out y h1
            · have : y = r := by simpa using h1
              subst this
              have h2 := hE2.out
              rw [List.take_length] at h2
              exact ⟨h20, h2⟩)
          go_wp2
          go_roundw
          case rel => exact ⟨k + 1, m', by omega, by simp, rfl, hN⟩
          case measure => simp [intOf]; omega
    · obtain rfl : k = rows.length := by omega
      have hN := Lib.hid (show ∀ r ∈ rows, r.length ≤ 20 ∧ ∀ x ∈ r, x < p by have := hE.out; rwa [List.take_length] at this)
      go_wp2
      go_ret
      exact ⟨by rw [decide_eq_true (show WdsOk p n rows from ⟨hnH.out, hN.out⟩)]; rfl, hB1.out.trans (hdw.mono hB1.out.size)⟩
/-- A case that lies in a box. -/
structure Ax (w : World) (b : Nat) (p n t : Int) (vc vd vt : Value) (r : Int) (vm va : Value) : Prop where
  c0 : w.cell? ⟨b, 0, none⟩ = some (.int .u64 p)
  c1 : w.cell? ⟨b, 1, none⟩ = some (.int .i64 n)
  c2 : w.cell? ⟨b, 2, none⟩ = some (.int .i64 t)
  c3 : w.cell? ⟨b, 3, none⟩ = some vc
  c4 : w.cell? ⟨b, 4, none⟩ = some vd
  c5 : w.cell? ⟨b, 5, none⟩ = some vt
  c6 : w.cell? ⟨b, 6, none⟩ = some (.int .i64 r)
  c7 : w.cell? ⟨b, 7, none⟩ = some vm
  c8 : w.cell? ⟨b, 8, none⟩ = some va
  lt : b < w.heap.size
theorem Ax.made (w : World) (p n t : Int) (vc vd vt : Value) (r : Int) (vm va : Value) : Ax (w.alloc (.cells #[.int .u64 p, .int .i64 n, .int .i64 t, vc, vd, vt, .int .i64 r, vm, va] 32)) w.heap.size p n t vc vd vt r vm va := by
  refine ⟨?_, ?_, ?_, ?_, ?_, ?_, ?_, ?_, ?_, by simp⟩
  all_goals go_simp
theorem Ax.next {w w' : World} {b : Nat} {p n t : Int} {vc vd vt : Value} {r : Int} {vm va : Value} (h : Ax w b p n t vc vd vt r vm va) (hb : Below w.heap.size w w') : Ax w' b p n t vc vd vt r vm va :=
  ⟨(hb.cell h.lt).trans h.c0, (hb.cell h.lt).trans h.c1, (hb.cell h.lt).trans h.c2, (hb.cell h.lt).trans h.c3, (hb.cell h.lt).trans h.c4, (hb.cell h.lt).trans h.c5, (hb.cell h.lt).trans h.c6, (hb.cell h.lt).trans h.c7, (hb.cell h.lt).trans h.c8, Nat.lt_of_lt_of_le h.lt hb.size⟩
/-- The slices of a case, as they lie, and what is known of their lengths. -/
structure LieA (w : World) (Ac Ad At : Option Addr) (cc cd ct : Nat) (co : List Int) (ds : List Dv) (ts : List (List Int)) (Am : Option Addr) (cm : Nat) (M : List (List (List Int))) (Aa : Option Addr) (ca : Nat) (all : List (List Int)) : Prop where
  sc : Lie w Ac Ad At cc cd ct co ds ts
  ms : Sm w Am cm M
  al : Sll w Aa ca all
theorem LieA.next {w w' : World} {Ac Ad At : Option Addr} {cc cd ct : Nat} {co : List Int} {ds : List Dv} {ts : List (List Int)} {Am : Option Addr} {cm : Nat} {M : List (List (List Int))} {Aa : Option Addr} {ca : Nat} {all : List (List Int)} (h : LieA w Ac Ad At cc cd ct co ds ts Am cm M Aa ca all) (hb : Below w.heap.size w w') : LieA w' Ac Ad At cc cd ct co ds ts Am cm M Aa ca all := ⟨h.sc.next hb, h.ms.next hb, h.al.next hb⟩
structure FitA (n t : Int) (co : List Int) (ds : List Dv) (ts : List (List Int)) (M : List (List (List Int))) (all : List (List Int)) : Prop where
  sc : Fit n t co ds ts
  lm : M.length ≤ 9223372036854775807
  lr : ∀ R ∈ M, R.length ≤ 9223372036854775807
  la : all.length ≤ 9223372036854775807
/-- What may says. -/
def mayB (p n t : Int) (co : List Int) (ds : List Dv) (ts : List (List Int)) (M : List (List (List Int))) (all : List (List Int)) : Bool :=
  scB p n t co ds ts && (decide (ds.length ≤ 30) && (decide ((M.length : Int) = n) && (decide (WdsOk p n all) && M.all fun R => decide (WdsOk p n R))))
set_option maxHeartbeats 4000000 in
theorem may_any (p n t : Int) (hp : Wd p) (Ac Ad At : Option Addr) (cc cd ct : Nat) (co : List Int) (ds : List Dv) (ts : List (List Int)) (r : Int) (Am : Option Addr) (cm : Nat) (M : List (List (List Int))) (Aa : Option Addr) (ca : Nat) (all : List (List Int)) (hF : FitA n t co ds ts M all) (w : World) (h : LieA w Ac Ad At cc cd ct co ds ts Am cm M Aa ca all) :
    Calls Try.prog 10 #[.agg #[.int .u64 p, .int .i64 n, .int .i64 t, .slice Ac co.length cc, .slice Ad ds.length cd, .slice At ts.length ct, .int .i64 r, .slice Am M.length cm, .slice Aa all.length ca]] w fun e w' => e = .returned (.bool (mayB p n t co ds ts M all)) ∧ Below w.heap.size w w' := by
  have hB1 := Lib.hid ((Below.refl _ w).alloc (Nat.le_refl _) (.cells #[.int .u64 p, .int .i64 n, .int .i64 t, .slice Ac co.length cc, .slice Ad ds.length cd, .slice At ts.length ct, .int .i64 r, .slice Am M.length cm, .slice Aa all.length ca] 32))
  have hX1 := Lib.hid (Ax.made w p n t (.slice Ac co.length cc) (.slice Ad ds.length cd) (.slice At ts.length ct) r (.slice Am M.length cm) (.slice Aa all.length ca))
  have hS1 := h.next hB1.out
  have hsc := fun W hW => rScen_any p n t hp Ac Ad At cc cd ct co ds ts hF.sc W hW
  have hwd := fun W hW => words_any p n t Aa ca all hF.la W hW
  have hwr := fun R (hR : R ∈ M) A' c' W hW => words_any p n t A' c' R (hF.lr R hR) W hW
  have hlm := hF.lm
  have hld := hF.sc.lds
  unfold sv at hsc
  unfold pv at hwd hwr
  cases h0 : scB p n t co ds ts with
  | false =>
    rw [show mayB p n t co ds ts M all = false by unfold mayB; rw [h0]; rfl]
    rw [h0] at hsc
    go_enter Try.func10, Try.ntmps10
    go_wp2_with fail
    refine (hsc _ hS1.sc).mono ?_; rintro e w1 ⟨rfl, hb⟩
    go_wp2_with fail
    go_ret
    exact ⟨rfl, hB1.out.trans (hb.mono hB1.out.size)⟩
  | true =>
    rw [h0] at hsc
    by_cases h30 : ds.length ≤ 30
    case neg =>
      rw [show mayB p n t co ds ts M all = false by unfold mayB; rw [decide_eq_false h30]; simp]
      have h30' : (30 : Int) < ds.length := by omega
      go_enter Try.func10, Try.ntmps10
      go_wp2_with fail
      refine (hsc _ hS1.sc).mono ?_; rintro e w1 ⟨rfl, hb⟩
      obtain ⟨c0, c1, c2, c3, c4, c5, c6, c7, c8, hlt⟩ := hX1.out.next hb
      go_wp2_with fail
      go_ret
      exact ⟨rfl, hB1.out.trans (hb.mono hB1.out.size)⟩
    have h30' : (ds.length : Int) ≤ 30 := by omega
    by_cases hm : (M.length : Int) = n
    case neg =>
      rw [show mayB p n t co ds ts M all = false by unfold mayB; rw [decide_eq_false hm]; simp]
      have hm' : ((M.length : Int) != n) = true := bne_iff_ne.2 hm
      clear hm
      go_enter Try.func10, Try.ntmps10
      go_wp2_with fail
      refine (hsc _ hS1.sc).mono ?_; rintro e w1 ⟨rfl, hb⟩
      obtain ⟨c0, c1, c2, c3, c4, c5, c6, c7, c8, hlt⟩ := hX1.out.next hb
      go_wp2_with fail
      go_ret
      exact ⟨rfl, hB1.out.trans (hb.mono hB1.out.size)⟩
    have hm' : ((M.length : Int) != n) = false := by rw [bne_eq_false_iff_eq]; exact hm
    have hmH := Lib.hid hm
    have hE0 : mayB p n t co ds ts M all = (decide (WdsOk p n all) && M.all fun R => decide (WdsOk p n R)) := by unfold mayB; rw [h0, decide_eq_true h30, decide_eq_true hm]; rfl
    rw [hE0]
    clear hE0 hm
    cases ha : decide (WdsOk p n all) with
    | false =>
      rw [ha] at hwd
      go_enter Try.func10, Try.ntmps10
      go_wp2_with fail
      refine (hsc _ hS1.sc).mono ?_; rintro e w1 ⟨rfl, hb⟩
      obtain ⟨c0, c1, c2, c3, c4, c5, c6, c7, c8, hlt⟩ := hX1.out.next hb
      go_wp2_with fail
      refine (hwd _ (hS1.al.next hb)).mono ?_; rintro e w2 ⟨rfl, hb2⟩
      go_wp2_with fail
      go_ret
      exact ⟨rfl, hB1.out.trans ((hb.trans (hb2.mono hb.size)).mono hB1.out.size)⟩
    | true =>
      rw [ha] at hwd
      go_enter Try.func10, Try.ntmps10
      go_wp2_with fail
      refine (hsc _ hS1.sc).mono ?_; rintro e w1 ⟨rfl, hb⟩
      obtain ⟨c0, c1, c2, c3, c4, c5, c6, c7, c8, hlt⟩ := hX1.out.next hb
      go_wp2_with fail
      refine (hwd _ (hS1.al.next hb)).mono ?_; rintro e w2 ⟨rfl, hb2⟩
      have hb12 := hb.trans (hb2.mono hb.size)
      have hX2 := Lib.hid (hX1.out.next hb12)
      have hS2 := hS1.ms.next hb12
      have hB2 := Lib.hid (hB1.out.trans (hb12.mono hB1.out.size))
      clear hb hb2 hb12 c0 c1 c2 c3 c4 c5 c6 c7 c8 hlt hsc hwd hS1
      go_wp2
      go_loopw [3] (fun q wr => ∃ k : Nat, k ≤ M.length ∧ q = .int .i64 k ∧ Hid ((M.take k).all (fun R => decide (WdsOk p n R)) = true) ∧ Below w2.heap.size w2 wr) (fun q _ => M.length - (intOf q).toNat)
      case atStart => exact ⟨0, Nat.zero_le _, rfl, Lib.hid (by simp), Below.refl _ _⟩
      case round =>
        obtain ⟨k, hk, rfl, hE, hb⟩ := hrel
        obtain ⟨c0, c1, c2, c3, c4, c5, c6, c7, c8, hlt0⟩ := hX2.out.next hb
        by_cases hlt : k < M.length
        · obtain ⟨b, off, R, A1, c1', rfl, hbl, hx, hc1, hs1⟩ := (hS2.next hb).at_ hlt
          have hkN : (k : Int) < M.length := by omega
          have hbs : ∀ b : Beyond wr, Calls Try.prog 20 #[.slice A1 R.length c1', .agg #[.int .u64 p, .int .i64 n, .int .i64 t]] b.W fun e w'' => e = .returned (.bool (decide (WdsOk p n R))) ∧ ∃ b' : Beyond wr, w'' = b'.W := fun b => b.of (hwr R (List.mem_of_getElem? hx) A1 c1' b.W (hs1.next b.below))
          have C0 := fun b : Beyond wr => (b.below.cell (p := ⟨w.heap.size, 0, none⟩) hlt0).trans c0
          have C1 := fun b : Beyond wr => (b.below.cell (p := ⟨w.heap.size, 1, none⟩) hlt0).trans c1
          have C2 := fun b : Beyond wr => (b.below.cell (p := ⟨w.heap.size, 2, none⟩) hlt0).trans c2
          have C7 := fun b : Beyond wr => (b.below.cell (p := ⟨w.heap.size, 7, none⟩) hlt0).trans c7
          have D0 := fun x : Beyond wr => (x.below.cell (p := ⟨b, off + k, none⟩) hbl).trans hc1
          cases hq : decide (WdsOk p n R) with
          | true =>
            rw [hq] at hbs
            have hN := Lib.hid (show (M.take (k + 1)).all (fun R => decide (WdsOk p n R)) = true by rw [List.take_add_one, hx, List.all_append, hE.out]; simp [of_decide_eq_true hq])
            clear hx hq
            go_wp2
            refine wp_region_beyond (by kernel_rfl) (by kernel_rfl) ?_
            repeat (go_big_quiet_step (exact hbs _))
            refine wpQuiet_nil ?_
            rintro _ ⟨⟨w4, hb4⟩, rfl⟩
            clear C0 C1 C2 C7 D0 hbs
            go_wp2
            go_roundw
            case rel => exact ⟨k + 1, by omega, by simp, hN, hb.trans (hb4.mono hb.size)⟩
            case measure => simp [intOf]; omega
          | false =>
            rw [hq] at hbs
            have hN := Lib.hid (show M.all (fun R => decide (WdsOk p n R)) = false from by
              cases e : M.all (fun R => decide (WdsOk p n R)) with
              | false => rfl
              | true => rw [List.all_eq_true] at e; rw [e R (List.mem_of_getElem? hx)] at hq; cases hq)
            clear hx hq
            go_wp2
            refine wp_region_beyond (by kernel_rfl) (by kernel_rfl) ?_
            repeat (go_big_quiet_step (exact hbs _))
            refine wpQuiet_nil ?_
            rintro _ ⟨⟨w4, hb4⟩, rfl⟩
            clear C0 C1 C2 C7 D0 hbs
            go_wp2
            go_ret
            exact ⟨by rw [hN.out]; rfl, hB2.out.trans ((hb.trans (hb4.mono hb.size)).mono hB2.out.size)⟩
        · obtain rfl : k = M.length := by omega
          have hN := Lib.hid (show M.all (fun R => decide (WdsOk p n R)) = true by have := hE.out; rwa [List.take_length] at this)
          go_wp2
          go_ret
          exact ⟨by rw [hN.out]; rfl, hB2.out.trans (hb.mono hB2.out.size)⟩
end Go.Proofs.Ytbhphamfkhccpaa
