/- effective, isFor, isSquare of package adversary. Conditions: a valid scenario but for its tapes, at most 100 deviations, at most 13 lists of messages. -/
import Derived.Test.YtbhphamfkhccpaaAdCln
namespace Go.Proofs.Ytbhphamfkhccpaa
set_option maxRecDepth 100000
open Go.RowKit PolyMath FieldMath PartyMath

/-- Append of deviations, nil let in, to a row of deviations of one's own, guarded or not. -/
theorem wpList_append_dv {w : World} {ops : Array Oper} {rest : List Oper} {o : Oper} {a : Act} {Q : Exit → Act → World → Prop} (hw : Region.wanted o (yielded ops a.tmps) = true) (s x : Operand)
    (ho : o.op = .call { callee := .builtin .append, args := #[s, x], argTypes := #[26, 26] })
    (base : Nat) (v : Value) (n m : Nat) (xs us : List Dv) (hs : a.eval s = v) (hown : OD w base v n xs)
    (A : Option Addr) (c : Nat) (hx : a.eval x = .slice A m c) (hm : us.length = m) (hsl : Sd w A c us) (hl : n + m ≤ 1000000) (hbase : base ≤ w.heap.size)
    (h : ∀ v' w', OD w' base v' (n + m) (xs ++ us) → w.grownBy w' v.ownBlock → wpList Try.prog ops Q rest (a.put o.dst v') w') : wpList Try.prog ops Q (o :: rest) a w := by
  obtain ⟨i0, hi, hz0, hz1, hz2⟩ := info_parts info_dev
  subst hm
  cases A with
  | none =>
    have h0 : us = [] := by have := hsl.nil rfl; have := hsl.cap; exact List.eq_nil_of_length_eq_zero (by omega)
    have hc := hsl.nil rfl
    subst h0 hc
    refine BigFrame.wpList_want hw fun K hK => ?_
    have hrun := run_append_owned_none (P := Try.prog) (w := w) base 26 o.type 41 i0 8 Try.underlying26 hi v n (dcells xs) hown
    unfold Oper.wp
    simp [execOp, ho, resolve, invoke, builtin, hs, hx, hrun, Result.andThen]
    exact hK _ _ (h v w (by rw [List.append_nil]; exact hown) (World.grownBy.refl _ _))
  | some ad =>
    have hnw : ∀ j u, (dcells us)[j]? = some u → w.cell? (ad.add j) = some u := by
      intro j u hj
      have hjl := (List.getElem?_eq_some_iff.1 hj).1
      rw [dcells_len] at hjl
      have hd := List.getElem?_eq_getElem (show j / 8 < us.length by omega)
      obtain ⟨b, off, rfl, _, hc⟩ := hsl.rd _ rfl (fun e => by rw [e] at hjl; simp at hjl)
      have hi8 : j % 8 < 8 := Nat.mod_lt _ (by omega)
      have he := List.getElem?_eq_getElem (show j % 8 < (dcs (us[j / 8]'(by omega))).length by rw [dcs_len]; exact hi8)
      have h1 := dcells_at us (j / 8) _ hd (j % 8) _ he
      rw [show j / 8 * 8 + j % 8 = j by omega, hj] at h1
      have h2 := hc (j / 8) _ hd (j % 8) _ he
      rw [Addr.add_lit, show off + j = off + j / 8 * 8 + j % 8 by omega, h2]
      exact h1.symm
    exact BigFrame.wpList_want hw fun K hK => wp_append_own w s x 26 ho base 41 i0 _ 8 64 Try.underlying26 hi hz0 hz1 hz2 rfl (by decide) v n (dcells xs) hs hown ad us.length c (dcells us) hx (dcells_len us) hnw (dcells_one us) (by simp only [maxLen]; omega) (by omega) hbase fun v' w' h2 h3 _ => hK _ _ (h v' w' (by unfold OD; rw [dcells_append]; exact h2) h3)
theorem OD.weak {w : World} {B B' n : Nat} {v : Value} {ds : List Dv} (h : OD w B v n ds) (hB : B' ≤ B) : OD w B' v n ds := own_weak h hB
theorem OD.none (w : World) (B : Nat) : OD w B (.slice none 0 0) 0 [] := World.ownsRow_nil _ _ _ _

set_option maxHeartbeats 4000000 in
theorem effective_any (p n t : Int) (Ac Ad : Option Addr) (cc cd : Nat) (co : List Int) (ds : List Dv) (vt : Value) (r : Int) (hco : co.length ≤ 1000) (hds : ds.length ≤ 100) (w : World) (hc : Si w Ac cc co) (hd : Sd w Ad cd ds) :
    Calls Try.prog 25 #[sv p n t (.slice Ac co.length cc) (.slice Ad ds.length cd) vt, .int .i64 r] w fun e w' => ∃ v, e = .returned v ∧ OD w' w.heap.size v (ds.filter (eff co r)).length (ds.filter (eff co r)) ∧ Below w.heap.size w w' := by
  have hX1 := Lib.hid (Sx.made w p n t (.slice Ac co.length cc) (.slice Ad ds.length cd) vt)
  have hB1 := Lib.hid ((Below.refl _ w).alloc (Nat.le_refl _) (.cells #[.int .u64 p, .int .i64 n, .int .i64 t, .slice Ac co.length cc, .slice Ad ds.length cd, vt] 29))
  have hC1 := hc.next hB1.out
  have hD1 := hd.next hB1.out
  unfold sv
  go_enter Try.func25, Try.ntmps25
  go_wp2
  have hs1 := World.size_alloc w (.cells #[.int .u64 p, .int .i64 n, .int .i64 t, .slice Ac co.length cc, .slice Ad ds.length cd, vt] 29)
  generalize w.alloc (.cells #[.int .u64 p, .int .i64 n, .int .i64 t, .slice Ac co.length cc, .slice Ad ds.length cd, vt] 29) = W1 at *
  have hS1 := Lib.hid hs1
  clear hs1
  go_loopw [5, 11] (fun v i wr => ∃ k : Nat, k ≤ ds.length ∧ i = .int .i64 k ∧ Hid (OD wr W1.heap.size v ((ds.take k).filter (eff co r)).length ((ds.take k).filter (eff co r))) ∧ Below W1.heap.size W1 wr) (fun _ i _ => ds.length - (intOf i).toNat)
  case atStart => exact ⟨0, Nat.zero_le _, rfl, Lib.hid (OD.none _ _), Below.refl _ _⟩
  case round =>
    obtain ⟨k, hk, rfl, hO, hB⟩ := hrel
    obtain ⟨c0, c1, c2, c3, c4, c5, hlt0⟩ := hX1.out.next hB
    have hsz := hB.size
    by_cases hlt : k < ds.length
    · obtain ⟨b, off, d, hA, hbl, hdd, d0, d1, d2, d3, d4, d5, d6, d7⟩ := (hD1.next hB).at_ hlt
      subst hA
      have hkN : (k : Int) < ds.length := by omega
      have hcc := fun W h => contI_any Ac cc co d.frm hco W h
      have hC2 := Lib.hid ((hC1.next hB).push (.cells #[.int .i64 d.rnd, .int .i64 d.frm, .int .i64 d.to, .int .i64 d.at_, .int .i64 d.kind, .int .u64 d.k, .int .i64 d.of_, .int .i64 d.src] 41))
      have hB2 := Lib.hid (bnew hB (.cells #[.int .i64 d.rnd, .int .i64 d.frm, .int .i64 d.to, .int .i64 d.at_, .int .i64 d.kind, .int .u64 d.k, .int .i64 d.of_, .int .i64 d.src] 41) (Nat.le_refl _))
      have hO2 := Lib.hid (hO.out.push (.cells #[.int .i64 d.rnd, .int .i64 d.frm, .int .i64 d.to, .int .i64 d.at_, .int .i64 d.kind, .int .u64 d.k, .int .i64 d.of_, .int .i64 d.src] 41))
      have hne : w.heap.size ≠ wr.heap.size := by have := hS1.out; omega
      have hYES : eff co r d = true → Hid ((ds.take (k + 1)).filter (eff co r) = (ds.take k).filter (eff co r) ++ [d]) := fun h => Lib.hid (filter_yes hdd h)
      have hNO : eff co r d = false → Hid ((ds.take (k + 1)).filter (eff co r) = (ds.take k).filter (eff co r)) := fun h => Lib.hid (filter_no hdd h)
      have hflen : ((ds.take k).filter (eff co r)).length ≤ k := by have := List.length_filter_le (eff co r) (ds.take k); rw [List.length_take] at this; omega
      clear hdd hO
      by_cases h1 : d.rnd = r
      · have h1' : (d.rnd == r) = true := beq_iff_eq.2 h1
        by_cases h2 : d.frm ∈ co
        · have hN := hYES (by unfold eff; rw [decide_eq_true h1, decide_eq_true h2]; rfl)
          rw [decide_eq_true h2] at hcc
          clear h1 h2 hYES hNO
          generalize (ds.take k).filter (eff co r) = F at *
          go_wp2_with fail
          refine (hcc _ hC2.out).mono ?_; rintro e w2 ⟨rfl, rfl⟩
          have e0 := (OD.sd (OD.one (wr.alloc (.cells #[.int .i64 d.rnd, .int .i64 d.frm, .int .i64 d.to, .int .i64 d.at_, .int .i64 d.kind, .int .u64 d.k, .int .i64 d.of_, .int .i64 d.src] 41)) d (B := 0) (Nat.zero_le _)))
          rw [World.size_alloc] at e0
          have e1 := Lib.hid e0
          clear e0
          have hO3 := hO2.out.push (.cells #[.int .i64 d.rnd, .int .i64 d.frm, .int .i64 d.to, .int .i64 d.at_, .int .i64 d.kind, .int .u64 d.k, .int .i64 d.of_, .int .i64 d.src] 41)
          have hB3 := bnew hB2.out (.cells #[.int .i64 d.rnd, .int .i64 d.frm, .int .i64 d.to, .int .i64 d.at_, .int .i64 d.kind, .int .u64 d.k, .int .i64 d.of_, .int .i64 d.src] 41) (Nat.le_refl _)
          have hB3H := Lib.hid hB3
          have hO3H := Lib.hid hO3
          clear hO3 hB3
          go_wp2_with (at_builtin; refine wpList_append_dv (by rfl) _ _ rfl W1.heap.size _ F.length 1 F [d] rfl hO3H.out _ 1 rfl rfl e1.out (by omega) hB3H.out.size ?_; intro v' w3 hO4 hg4)
          have hB4 : Below W1.heap.size W1 w3 := hB3H.out.grown hg4 hB3H.out.size (fun q e => (hO3H.out.lt q e).1)
          go_roundw
          case rel => exact ⟨k + 1, by omega, by simp, by rw [hN.out, List.length_append]; exact Lib.hid hO4, hB4⟩
          case measure => simp [intOf]; omega
        · have hN := hNO (by unfold eff; rw [decide_eq_false h2]; simp)
          rw [decide_eq_false h2] at hcc
          clear h1 h2 hYES hNO
          go_wp2_with fail
          refine (hcc _ hC2.out).mono ?_; rintro e w2 ⟨rfl, rfl⟩
          go_wp2_with fail
          go_roundw
          case rel => exact ⟨k + 1, by omega, by simp, by rw [hN.out]; exact hO2, hB2.out⟩
          case measure => simp [intOf]; omega
      · have hN := hNO (by unfold eff; rw [decide_eq_false h1]; rfl)
        have h1' : (d.rnd == r) = false := beq_eq_false_iff_ne.2 h1
        clear h1 hYES hNO hcc
        go_wp2
        go_roundw
        case rel => exact ⟨k + 1, by omega, by simp, by rw [hN.out]; exact hO2, hB2.out⟩
        case measure => simp [intOf]; omega
    · obtain rfl : k = ds.length := by omega
      rw [List.take_length] at hO
      go_wp2
      go_ret
      exact ⟨_, rfl, hO.out.weak (by have := hS1.out; omega), hB1.out.trans (hB.mono (by have := hS1.out; omega))⟩
/-- A valid scenario, its tapes aside. -/
structure Ok13 (p : Int) (N T : Nat) (co : List Int) (ds : List Dv) : Prop where
  coal : Coal p N T co
  dv : ∀ d ∈ ds, dvB N d = true
  wk : ∀ d ∈ ds, Wd d.k
  len : ds.length ≤ 40
theorem Ok13.sc {p : Int} {N T : Nat} {co : List Int} {ds : List Dv} (h : Ok13 p N T co ds) : scB p N T co ds (List.replicate N []) = true := by
  unfold scB tpB
  rw [h.coal.is, List.all_eq_true.2 h.dv, List.length_replicate, decide_eq_true rfl, List.all_eq_true.2 (fun r hr => by rw [List.eq_of_mem_replicate hr]; rfl)]
  rfl
theorem Ok13.fit {p : Int} {N T : Nat} {co : List Int} {ds : List Dv} (h : Ok13 p N T co ds) : Fit N T co ds (List.replicate N []) where
  wn := by have := h.coal.n13; unfold Wi; omega
  wt := by have := h.coal.n13; have := h.coal.t3; unfold Wi; omega
  nums := h.coal.nums
  lds := by have := h.len; omega
  lts := by have := h.coal.n13; rw [List.length_replicate]; omega
  lws := fun r hr => by rw [List.eq_of_mem_replicate hr]; exact Nat.zero_le _
theorem Sll.nils {w : World} {B g N : Nat} (h : w.ownsRow B 42 1 (.slice (some ⟨g, 0, none⟩) N N) N (List.replicate N (.slice none 0 0))) : Sll w (some ⟨g, 0, none⟩) N (List.replicate N []) :=
  ⟨by rw [List.length_replicate]; exact Nat.le_refl _, (fun e => by cases e), fun ad e _ => by
    injection e with e
    subst e
    refine ⟨g, 0, rfl, (World.ownsRow.lt h g rfl).2, fun j r hr => ?_⟩
    have hj : j < N := by have := (List.getElem?_eq_some_iff.1 hr).1; rwa [List.length_replicate] at this
    have hr2 : r = [] := List.eq_of_mem_replicate (List.mem_of_getElem? hr)
    subst hr2
    refine ⟨none, 0, ?_, Sl.nothing _⟩
    rw [Nat.zero_add, World.ownsRow.cellAt h j (by omega), List.getElem?_replicate, if_pos hj]
    rfl⟩

set_option maxHeartbeats 2000000 in
theorem isFor_any (p : Int) (N T : Nat) (Ac Ad : Option Addr) (cc cd : Nat) (co : List Int) (ds : List Dv) (vt : Value) (hO : Ok13 p N T co ds) (w : World) (hc : Si w Ac cc co) (hd : Sd w Ad cd ds) :
    Calls Try.prog 22 #[sv p N T (.slice Ac co.length cc) (.slice Ad ds.length cd) vt, .int .i64 N] w fun e w' => e = .returned (.bool true) ∧ Below w.heap.size w w' := by
  obtain ⟨i0, hi, hz0, hz1, hz2⟩ := info_parts info_sl
  have hN13 := hO.coal.n13
  have hB8 : Hid (i0.bytes * N ≤ 281474976710656) := Lib.hid (by rw [hz2]; omega)
  have hN' : (N : Int) ≤ 13 := by omega
  have hsc := fun c W h => scen_any p N T Ac Ad (some ⟨w.heap.size + 1, 0, none⟩) cc cd c co ds (List.replicate N []) hO.fit (hO.coal.l1000) (by have := hO.len; omega) (by rw [List.length_replicate]; omega) (fun r hr => by rw [List.eq_of_mem_replicate hr]; exact Nat.zero_le _) W h
  rw [hO.sc, List.length_replicate] at hsc
  have hX1 := Sx.made w p N T (.slice Ac co.length cc) (.slice Ad ds.length cd) vt
  have hB1 := Lib.hid ((Below.refl _ w).alloc (Nat.le_refl _) (.cells #[.int .u64 p, .int .i64 N, .int .i64 T, .slice Ac co.length cc, .slice Ad ds.length cd, vt] 29))
  have hrow1 := heap_alloc_new w (.cells #[.int .u64 p, .int .i64 N, .int .i64 T, .slice Ac co.length cc, .slice Ad ds.length cd, vt] 29)
  have hS1 := Lib.hid (World.size_alloc w (.cells #[.int .u64 p, .int .i64 N, .int .i64 T, .slice Ac co.length cc, .slice Ad ds.length cd, vt] 29))
  clear hO
  unfold sv at hsc ⊢
  go_enter Try.func22, Try.ntmps22
  go_wp2_with (at_make; refine wpList_make_full _ rfl _ _ 27 rfl (w.heap.size + 1) 42 i0 (.slice none 0 0) 1 Try.underlying27 hi hz0 hz1 .i64 .i64 _ _ N rfl rfl (by omega) (by omega) hB8.out (by simp only [maxLen]; omega) (Nat.le_of_eq hS1.out.symm) ?_; intro w1 hown1 hgrow1; rw [World.size_alloc] at hown1; have hb1 : Below (w.alloc (.cells #[.int .u64 p, .int .i64 N, .int .i64 T, .slice Ac co.length cc, .slice Ad ds.length cd, vt] 29)).heap.size (w.alloc (.cells #[.int .u64 p, .int .i64 N, .int .i64 T, .slice Ac co.length cc, .slice Ad ds.length cd, vt] 29)) w1 := (Below.refl _ _).grown hgrow1 (Nat.le_refl _) (fun k e => by cases e); have hX2 := hX1.next hb1; obtain ⟨c0, c1, c2, c3, c4, c5, hlt⟩ := hX2; have hrow2 := (hb1.block w.heap.size hX1.lt).trans hrow1; have hfz := frozen_of_row w1 w.heap.size 5 _ _ hrow2; have hbH := Lib.hid hb1; have hoH := Lib.hid hown1; clear hb1 hown1 hgrow1; have hrH := Lib.hid hrow2; clear hrow2)
  have hst := Lib.hid (((hB1.out.trans (hbH.out.mono (by rw [hS1.out]; omega))).setCell (p := ⟨w.heap.size, 5, none⟩) (Nat.le_refl _) (.slice (some ⟨w.heap.size + 1, 0, none⟩) N N)))
  have hts := hoH.out
  simp only [Value.cells, toList_madeCells_one, Nat.mul_one] at hts
  have hts2 := Sll.nils (ownsRow_setCell_below hts (a := ⟨w.heap.size, 5, none⟩) (Nat.lt_succ_self _) (.slice (some ⟨w.heap.size + 1, 0, none⟩) N N))
  refine (hsc _ _ ⟨hc.next hst.out, hd.next hst.out, hts2⟩).mono ?_; rintro e w2 ⟨rfl, hb2⟩
  go_wp2_with fail
  go_ret
  exact ⟨rfl, hst.out.trans (hb2.mono hst.out.size)⟩
/-! ### isSquare -/
theorem sq1_any (A A' : Option Addr) (c c' N B : Nat) (w : World) (h : w.cell? ⟨B, 0, none⟩ = some (.slice A N c)) :
    Calls Try.prog 39 #[.slice A' N c', .pointer (some ⟨B, 0, none⟩)] w fun e w' => e = .returned (.bool false) ∧ w = w' := by
  go_enter Try.func39, Try.ntmps39
  go_wp2
  go_ret
  exact ⟨rfl, rfl⟩
set_option maxHeartbeats 1000000 in
theorem indexS_any (A : Option Addr) (c N : Nat) (f : Nat → Nat → List Int) (hN : N ≤ 13) (B : Nat) (w : World) (hs : S2 w A c N N f) (h : w.cell? ⟨B, 0, none⟩ = some (.slice A N c)) :
    Calls Try.prog 52 #[.slice A N c, .func (.func 39) #[] #[.pointer (some ⟨B, 0, none⟩)]] w fun e w' => e = .returned (.int .i64 (-1)) ∧ w = w' := by
  have hN' : (N : Int) ≤ 13 := by omega
  go_enter Try.func52, Try.ntmps52
  go_wp2
  go_loop [8] (fun i => ∃ k : Nat, k ≤ N ∧ i = .int .i64 k) (fun i => N - (intOf i).toNat)
  case atStart => exact ⟨0, Nat.zero_le _, rfl⟩
  case round =>
    obtain ⟨k, hk, rfl⟩ := hrel
    by_cases hlt : k < N
    · obtain ⟨b, off, A', c', rfl, hbl, c0, _⟩ := hs.at_ hlt
      have hkN : (k : Int) < N := by omega
      have hcall := sq1_any (some ⟨b, off, none⟩) A' c c' N B w h
      go_wp2_with (go_at_call 39; refine hcall.mono ?_; rintro e w2 ⟨rfl, rfl⟩)
      go_round
      case rel => exact ⟨k + 1, by omega, by simp⟩
      case measure => simp [intOf]; omega
    · obtain rfl : k = N := by omega
      go_wp2
      go_ret
      exact ⟨rfl, rfl⟩
theorem containsS_any (A : Option Addr) (c N : Nat) (f : Nat → Nat → List Int) (hN : N ≤ 13) (B : Nat) (w : World) (hs : S2 w A c N N f) (h : w.cell? ⟨B, 0, none⟩ = some (.slice A N c)) :
    Calls Try.prog 38 #[.slice A N c, .func (.func 39) #[] #[.pointer (some ⟨B, 0, none⟩)]] w fun e w' => e = .returned (.bool false) ∧ w = w' := by
  have hi := indexS_any A c N f hN B w hs h
  go_enter Try.func38, Try.ntmps38
  go_wp2_with fail
  refine hi.mono ?_; rintro e w1 ⟨rfl, rfl⟩
  go_wp2_with fail
  go_ret
  exact ⟨rfl, rfl⟩
theorem isSquare_any (A : Option Addr) (c N : Nat) (f : Nat → Nat → List Int) (hN : N ≤ 13) (w : World) (hs : S2 w A c N N f) :
    Calls Try.prog 23 #[.slice A N c] w fun e w' => e = .returned (.bool true) ∧ Below w.heap.size w w' := by
  have hc := containsS_any A c N f hN w.heap.size (w.alloc (.cells #[.slice A N c] 30)) (hs.push _) (by go_simp)
  go_enter Try.func23, Try.ntmps23
  go_wp2_with fail
  refine hc.mono ?_; rintro e w1 ⟨rfl, rfl⟩
  go_wp2_with fail
  go_ret
  exact ⟨rfl, (Below.refl _ w).alloc (Nat.le_refl _) _⟩
end Go.Proofs.Ytbhphamfkhccpaa
