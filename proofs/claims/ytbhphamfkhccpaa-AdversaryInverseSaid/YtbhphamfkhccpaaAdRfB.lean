/- heard and ApplyToBroadcasts of the reference of layer 13. Nothing that lay is changed. Conditions: a valid scenario but for its tapes, at most 40 deviations, messages of at most 20 words over the field. -/
import Derived.Test.YtbhphamfkhccpaaAdRef
import Derived.Test.YtbhphamfkhccpaaAdMs
namespace Go.Proofs.Ytbhphamfkhccpaa
set_option maxRecDepth 100000
open Go.RowKit PolyMath FieldMath PartyMath

/-- What is heard. -/
def hrd (d : Dv) (f : Nat → Nat → List Int) : List Int := if d.of_ < 1 then [] else f (d.of_ - 1).toNat (d.frm - 1).toNat
theorem ech_hrd (cor : List Int) (d : Dv) (N : Nat) (hd : dvB N d = true) (f : Nat → Nat → List Int) : ech cor d (hrd d f) = eM cor d f := by
  have hd' := hd
  unfold dvB at hd'
  have h := of_decide_eq_true hd'
  unfold eM hrd ech
  by_cases hk : d.kind = 3
  · have := h.2.2.2.2.2.2.2.2.2.2.2 hk
    rw [if_neg (show ¬ d.of_ < 1 by omega)]
  · rw [if_neg (fun q => hk q.1), if_neg (fun q => hk q.1)]
theorem hrd_ok {p : Int} {f : Nat → Nat → List Int} (hf : Fin2 p f) (d : Dv) : Okm p (hrd d f) := by
  unfold hrd
  split
  · exact ⟨(fun z hz => by cases hz), Nat.zero_le _⟩
  · exact hf _ _
set_option maxHeartbeats 2000000 in
theorem heard_any (A : Option Addr) (c N : Nat) (f : Nat → Nat → List Int) (hN : N ≤ 13) (d : Dv) (hd : dvB N d = true) (w : World) (h : S2 w A c N N f) :
    Calls Try.prog 32 #[.slice A N c, dvv d] w fun e w' => ∃ A' c', e = .returned (.slice A' (hrd d f).length c') ∧ Sl w' A' c' (hrd d f) ∧ Below w.heap.size w w' := by
  obtain ⟨rnd, frm, to, at_, kind, k, of_, src⟩ := d
  have hd' := hd
  rw [dvB_is, decide_eq_true_eq] at hd'
  obtain ⟨r0, a0, s0, f1, f2, t0, t1, k1, k2, o1, o2, o3⟩ := hd'
  have hB1 := Lib.hid ((Below.refl _ w).alloc (Nat.le_refl _) (.cells #[.int .i64 rnd, .int .i64 frm, .int .i64 to, .int .i64 at_, .int .i64 kind, .int .u64 k, .int .i64 of_, .int .i64 src] 41))
  have hN' : (N : Int) ≤ 13 := by omega
  unfold dvv
  by_cases h1 : of_ < 1
  · rw [show hrd ⟨rnd, frm, to, at_, kind, k, of_, src⟩ f = [] from if_pos h1]
    go_enter Try.func32, Try.ntmps32
    go_wp2
    go_ret
    exact ⟨none, 0, rfl, Sl.nothing _, hB1.out⟩
  · obtain ⟨m, rfl⟩ : ∃ m : Nat, of_ = (m : Int) + 1 := ⟨(of_ - 1).toNat, by omega⟩
    obtain ⟨i, rfl⟩ : ∃ i : Nat, frm = (i : Int) + 1 := ⟨(frm - 1).toNat, by omega⟩
    rw [show hrd ⟨rnd, (i : Int) + 1, to, at_, kind, k, (m : Int) + 1, src⟩ f = f m i from (if_neg h1).trans (by show f ((m : Int) + 1 - 1).toNat ((i : Int) + 1 - 1).toNat = f m i; rw [show ((m : Int) + 1 - 1).toNat = m by omega, show ((i : Int) + 1 - 1).toNat = i by omega])]
    have hX := Dx.made w ⟨rnd, (i : Int) + 1, to, at_, kind, k, (m : Int) + 1, src⟩
    have h2 := h.next hB1.out
    obtain ⟨b, off, A1, c1, rfl, hb, hc1, hs1⟩ := h2.at_ (i := m) (by omega)
    obtain ⟨b2, off2, A2, c2, rfl, hb2, hc2, hs2⟩ := hs1.at_ (j := i) (by omega)
    have hs2H := Lib.hid hs2
    have hmI : (m : Int) < N := by omega
    have hiI : (i : Int) < N := by omega
    have e1 : IntKind.i64.wrap ((m : Int) + 1 - 1) = m := by rw [show (m : Int) + 1 - 1 = m by omega]; exact IntWalk.i64_in _ (by omega)
    have e2 : IntKind.i64.wrap ((i : Int) + 1 - 1) = i := by rw [show (i : Int) + 1 - 1 = i by omega]; exact IntWalk.i64_in _ (by omega)
    have h1' : ¬ ((m : Int) + 1 < 1) := by omega
    obtain ⟨x0, x1, x2, x3, x4, x5, x6, x7, hlt⟩ := id hX
    dsimp only at x0 x1 x2 x3 x4 x5 x6 x7
    generalize f m i = l at *
    clear hs1 hs2 h2 h hX h1
    go_enter Try.func32, Try.ntmps32
    go_wp2
    generalize w.alloc (.cells #[.int .i64 rnd, .int .i64 ((i : Int) + 1), .int .i64 to, .int .i64 at_, .int .i64 kind, .int .u64 k, .int .i64 ((m : Int) + 1), .int .i64 src] 41) = W1 at *
    go_quiet (fail)
    go_wp2
    go_ret
    exact ⟨A2, c2, rfl, hs2H.out.next (below_drewN (Below.refl _ _) _), below_drewN hB1.out _⟩
/-- Append of a list of messages to a row of headers of one's own. -/
theorem wpList_append_hd {w : World} {ops : Array Oper} {rest : List Oper} {o : Oper} {a : Act} {Q : Exit → Act → World → Prop} (hw : Region.wanted o (yielded ops a.tmps) = true) (s x : Operand)
    (ho : o.op = .call { callee := .builtin .append, args := #[s, x], argTypes := #[27, 27] })
    (base : Nat) (v : Value) (n m : Nat) (xs : List Value) (hs : a.eval s = v) (hown : w.ownsRow base 42 1 v n xs)
    (b off c : Nat) (f : Nat → List Int) (R : Nat → Option Addr → Nat → Prop) (hx : a.eval x = .slice (some ⟨b, off, none⟩) m c) (hc : ∀ j, j < m → ∃ A' c', w.cell? ⟨b, off + j, none⟩ = some (.slice A' (f j).length c') ∧ R j A' c') (hl : n + m ≤ 1000000) (hbase : base ≤ w.heap.size)
    (h : ∀ (v' : Value) (w' : World) (us : List Value), us.length = m → (∀ j, j < m → ∃ A' c', us[j]? = some (.slice A' (f j).length c') ∧ R j A' c') → w'.ownsRow base 42 1 v' (n + m) (xs ++ us) → w.grownBy w' v.ownBlock → wpList Try.prog ops Q rest (a.put o.dst v') w') : wpList Try.prog ops Q (o :: rest) a w := by
  obtain ⟨i0, hi, hz0, hz1, hz2⟩ := info_parts info_sl
  have hcc : ∀ j, j < m → w.cell? ⟨b, off + j, none⟩ = some ((w.cell? ⟨b, off + j, none⟩).getD undef) := fun j hj => by
    obtain ⟨A', c', h1, _⟩ := hc j hj
    rw [h1]; rfl
  refine BigFrame.wpList_want hw fun K hK => wp_append_own w s x 27 ho base 42 i0 (.slice none 0 0) 1 24 Try.underlying27 hi hz0 hz1 hz2 rfl (by decide) v n xs hs hown ⟨b, off, none⟩ m c ((List.range m).map fun j => (w.cell? ⟨b, off + j, none⟩).getD undef) hx (by simp) (fun j u hj => ?_) (fun u hu => ?_) (by simp only [maxLen]; omega) (by omega) hbase fun v' w' h2 h3 _ => hK _ _ (h v' w' _ (by simp) (fun j hj => ?_) h2 h3)
  · have hjm : j < m := by have := (List.getElem?_eq_some_iff.1 hj).1; simpa using this
    rw [get_map _ hjm] at hj
    rw [Addr.add_lit, hcc j hjm]
    exact hj
  · obtain ⟨j, hj, rfl⟩ := List.mem_map.1 hu
    obtain ⟨A', c', h1, _⟩ := hc j (List.mem_range.1 hj)
    rw [h1]; rfl
  · obtain ⟨A', c', h1, h4⟩ := hc j hj
    exact ⟨A', c', by rw [get_map _ hj, h1]; rfl, h4⟩
/-- Headers of the call's own in block g over messages that lie in other blocks. -/
structure Hw (B : Nat) (w : World) (g N c : Nat) (f : Nat → List Int) : Prop where
  ex : ∃ vs : List Value, w.ownsRow B 42 1 (.slice (some ⟨g, 0, none⟩) N c) N vs ∧ ∀ j, j < N → ∃ A cj, vs[j]? = some (.slice A (f j).length cj) ∧ Sl w A cj (f j) ∧ (f j ≠ [] → ∀ ad, A = some ad → ad.block ≠ g)
section
variable {B : Nat} {w w' : World} {g N c : Nat} {f : Nat → List Int}
theorem Hw.lt (h : Hw B w g N c f) : B ≤ g ∧ g < w.heap.size := by
  obtain ⟨vs, h1, _⟩ := h.ex
  exact World.ownsRow.lt h1 g rfl
theorem Hw.frozen (h : Hw B w g N c f) (i : Nat) : w.frozen? ⟨g, i, none⟩ = false := by
  obtain ⟨vs, h1, _⟩ := h.ex
  exact World.ownsRow.frozenAt h1 i
theorem Hw.at_ (h : Hw B w g N c f) {j : Nat} (hj : j < N) : ∃ A cj, w.cell? ⟨g, j, none⟩ = some (.slice A (f j).length cj) ∧ Sl w A cj (f j) ∧ (f j ≠ [] → ∀ ad, A = some ad → ad.block ≠ g) := by
  obtain ⟨vs, h1, h2⟩ := h.ex
  obtain ⟨A, cj, q1, q2, q3⟩ := h2 j hj
  exact ⟨A, cj, (World.ownsRow.cellAt h1 j (by omega)).trans q1, q2, q3⟩
theorem Hw.next (h : Hw B w g N c f) (hb : Below w.heap.size w w') : Hw B w' g N c f := by
  obtain ⟨vs, h1, h2⟩ := h.ex
  refine ⟨vs, own_belowN h1 hb, fun j hj => ?_⟩
  obtain ⟨A, cj, q1, q2, q3⟩ := h2 j hj
  exact ⟨A, cj, q1, q2.next hb, q3⟩
theorem Hw.cap (h : Hw B w g N c f) : N ≤ c := by
  obtain ⟨vs, h1, _⟩ := h.ex
  rcases h1.2 with ⟨hv, _⟩ | ⟨g', cap, cur, hv, _, _, hc, _⟩
  · cases hv
  · injection hv with _ _ hv; omega
theorem Hw.sf (h : Hw B w g N c f) : Sf w (some ⟨g, 0, none⟩) c N f :=
  ⟨h.cap, fun _ => ⟨g, 0, rfl, h.lt.2, fun j hj => by
    obtain ⟨A, cj, q1, q2, _⟩ := h.at_ hj
    exact ⟨A, cj, by rw [Nat.zero_add]; exact q1, q2⟩⟩⟩
theorem Sl.far {A : Option Addr} {cj i : Nat} {xs : List Int} (h : Sl w A cj xs) (hf : xs ≠ [] → ∀ ad, A = some ad → ad.block ≠ g) (u : Value) : Sl (w.setCell ⟨g, i, none⟩ u) A cj xs :=
  ⟨h.cap, h.nil, fun ad e hn => by
    obtain ⟨b, off, rfl, hb, hc⟩ := h.rd ad e hn
    have hne : b ≠ g := hf hn _ e
    exact ⟨b, off, rfl, by simpa [World.setCell] using hb, fun k x hx => by
      rw [World.cell?_of_block (w := w) (Below.heap_setCell w ⟨g, i, none⟩ u b hne)]
      exact hc k x hx⟩⟩
theorem Hw.put (h : Hw B w g N c f) {k : Nat} (hk : k < N) {A2 : Option Addr} {c2 : Nat} {r : List Int} (hs : Sl w A2 c2 r) (hf : r ≠ [] → ∀ ad, A2 = some ad → ad.block ≠ g) : Hw B (w.setCell ⟨g, k, none⟩ (.slice A2 r.length c2)) g N c (up f k r) := by
  obtain ⟨vs, h1, h2⟩ := h.ex
  have hl : vs.length = N := by have := h1.1; omega
  have hst := World.ownsRow.stored h1 k (.slice A2 r.length c2)
  refine ⟨_, hst.1, fun j hj => ?_⟩
  by_cases e : j = k
  · subst e
    rw [up_at]
    exact ⟨A2, c2, List.getElem?_set_self (by omega), hs.far hf _, hf⟩
  · rw [up_else _ _ e]
    obtain ⟨A, cj, q1, q2, q3⟩ := h2 j hj
    exact ⟨A, cj, (List.getElem?_set_ne (fun q => e q.symm)).trans q1, q2.far q3 _, q3⟩
end
/-- The literal of no lists of messages. -/
theorem own_lit1 (w : World) {B : Nat} (hB : B ≤ w.heap.size) : (w.alloc (.cells #[] 42)).ownsRow B 42 1 (.slice (some ⟨w.heap.size, 0, none⟩) 0 0) 0 [] := World.ownsRow_lit w #[] 0 hB (Nat.zero_le _) rfl
/-- The word heard in a broadcast. -/
def hrdB (d : Dv) (f : Nat → List Int) : List Int := if 1 ≤ d.of_ then f (d.of_ - 1).toNat else []
theorem ech_hrdB (cor : List Int) (d : Dv) (N : Nat) (hd : dvB N d = true) (f : Nat → List Int) : ech cor d (hrdB d f) = eB cor d f := by
  have hd' := hd
  unfold dvB at hd'
  have h := of_decide_eq_true hd'
  unfold eB hrdB ech
  by_cases hk : d.kind = 3
  · have := h.2.2.2.2.2.2.2.2.2.2.2 hk
    rw [if_pos (show 1 ≤ d.of_ by omega)]
  · rw [if_neg (fun q => hk q.1), if_neg (fun q => hk q.1)]
theorem hrdB_ok {p : Int} {f : Nat → List Int} (hf : Fin1 p f) (d : Dv) : Okm p (hrdB d f) := by
  unfold hrdB
  split
  · exact hf _
  · exact ⟨(fun z hz => by cases hz), Nat.zero_le _⟩
theorem _root_.Go.RowKit.Below.sx {B : Nat} {w w' : World} (h : Below B w w') {b : Nat} {p n t : Int} {vc vd vt : Value} (hs : Sx w b p n t vc vd vt) (hb : b < B) : Sx w' b p n t vc vd vt :=
  ⟨(h.cell (p := ⟨b, 0, none⟩) hb).trans hs.c0, (h.cell (p := ⟨b, 1, none⟩) hb).trans hs.c1, (h.cell (p := ⟨b, 2, none⟩) hb).trans hs.c2, (h.cell (p := ⟨b, 3, none⟩) hb).trans hs.c3, (h.cell (p := ⟨b, 4, none⟩) hb).trans hs.c4, (h.cell (p := ⟨b, 5, none⟩) hb).trans hs.c5, Nat.lt_of_lt_of_le hs.lt h.size⟩
set_option maxHeartbeats 8000000 in
theorem rBc_any (p : Int) (N T : Nat) (Ac Ad : Option Addr) (cc cd : Nat) (co : List Int) (ds : List Dv) (vt : Value) (r : Int) (hO : Ok13 p N T co ds) (A : Option Addr) (c : Nat) (f : Nat → List Int) (hf : Fin1 p f)
    (w : World) (hc : Si w Ac cc co) (hd : Sd w Ad cd ds) (hm : Sf w A c N f) :
    Calls Try.prog 17 #[sv p N T (.slice Ac co.length cc) (.slice Ad ds.length cd) vt, .int .i64 r, .slice A N c] w fun e w' => ∃ A' c', e = .returned (.slice A' N c') ∧ Sf w' A' c' N (bcF p co r ds f) ∧ Below w.heap.size w w' := by
  have hN13 := hO.coal.n13
  have hN4 := hO.coal.n4
  have hN' : (N : Int) ≤ 13 := by omega
  have hp := hO.coal.ok
  have hpb := hp.bd
  have hp0 : 0 < p := by omega
  have hbad := fun x W h => bad_any p N T Ac cc co (.slice Ad ds.length cd) vt x hO.coal.l1000 W h
  have htold := fun d (hd : dvB N d = true) (hk : Wd d.k) A1 c1 l hl A2 c2 h hh W h1 h2 h3 => rTold_any p N T hp Ac cc co (.slice Ad ds.length cd) vt hO.coal.l1000 d N hd hk A1 c1 l hl A2 c2 h hh W h1 h2 h3
  have hX1 := Lib.hid (Sx.made w p N T (.slice Ac co.length cc) (.slice Ad ds.length cd) vt)
  have hB1 := Lib.hid ((Below.refl _ w).alloc (Nat.le_refl _) (.cells #[.int .u64 p, .int .i64 N, .int .i64 T, .slice Ac co.length cc, .slice Ad ds.length cd, vt] 29))
  have hs1 := Lib.hid (World.size_alloc w (.cells #[.int .u64 p, .int .i64 N, .int .i64 T, .slice Ac co.length cc, .slice Ad ds.length cd, vt] 29))
  obtain ⟨b, off, rfl, hbl, hcm⟩ := hm.rd (by omega)
  have hlit := Lib.hid (own_lit1 (w.alloc (.cells #[.int .u64 p, .int .i64 N, .int .i64 T, .slice Ac co.length cc, .slice Ad ds.length cd, vt] 29)) (B := w.heap.size + 1) (by rw [World.size_alloc]; exact Nat.le_refl _))
  rw [World.size_alloc] at hlit
  have hc2 : Hid (∀ j, j < N → ∃ A' c', ((w.alloc (.cells #[.int .u64 p, .int .i64 N, .int .i64 T, .slice Ac co.length cc, .slice Ad ds.length cd, vt] 29)).alloc (.cells #[] 42)).cell? ⟨b, off + j, none⟩ = some (.slice A' (f j).length c') ∧ Sl w A' c' (f j)) := Lib.hid fun j hj => by
    obtain ⟨A', c', h1, h2⟩ := hcm j hj
    exact ⟨A', c', ((bnew hB1.out (.cells #[] 42) (Nat.le_refl _)).cell (p := ⟨b, off + j, none⟩) hbl).trans h1, h2⟩
  unfold sv at hbad htold ⊢
  clear hcm
  go_enter Try.func17, Try.ntmps17
  go_wp2_with (at_builtin; refine wpList_append_hd (by rfl) _ _ rfl (w.heap.size + 1) _ 0 N [] rfl hlit.out b off c f (fun j A' c' => Sl w A' c' (f j)) rfl hc2.out (by omega) (by simp) ?_; intro v' w3 us hul hus hown hg)
  rw [Nat.zero_add, List.nil_append] at hown
  obtain ⟨g, cg, rfl, hgB, hg3⟩ := World.ownsRow.form hown (by omega)
  have hg' : ((w.alloc (.cells #[.int .u64 p, .int .i64 N, .int .i64 T, .slice Ac co.length cc, .slice Ad ds.length cd, vt] 29)).alloc (.cells #[] 42)).grownBy w3 (some (w.heap.size + 1)) := hg
  have hb3 : Below (w.alloc (.cells #[.int .u64 p, .int .i64 N, .int .i64 T, .slice Ac co.length cc, .slice Ad ds.length cd, vt] 29)).heap.size (w.alloc (.cells #[.int .u64 p, .int .i64 N, .int .i64 T, .slice Ac co.length cc, .slice Ad ds.length cd, vt] 29)) w3 := (bnew (Below.refl _ _) (.cells #[] 42) (Nat.le_refl _)).grown hg' (by simp) (fun q e => by injection e with e; rw [hs1.out]; omega)
  have hX3 := Lib.hid (hX1.out.next hb3)
  have hB3 := Lib.hid (hB1.out.trans (hb3.mono (by rw [hs1.out]; omega)))
  have hM3 : Hid (Hw (w.heap.size + 1) w3 g N cg (bcF p co r (ds.take 0) f)) := Lib.hid ⟨us, hown, fun j hj => by
    obtain ⟨A', c', q1, q2⟩ := hus j hj
    exact ⟨A', c', q1, q2.next hB3.out, fun hn ad e => by have := q2.base ad e hn; omega⟩⟩
  have hsz3 : w.heap.size + 1 ≤ w3.heap.size := by have := hb3.size; rw [hs1.out] at this; exact this
  clear hlit hc2 hul hus hown hg hg' hb3 hX1 hB1
  go_loopw [8] (fun q wr => ∃ k : Nat, k ≤ ds.length ∧ q = .int .i64 k ∧ Hid (Hw (w.heap.size + 1) wr g N cg (bcF p co r (ds.take k) f)) ∧ Hid (Below (w.heap.size + 1) w3 wr)) (fun q _ => ds.length - (intOf q).toNat)
  case atStart => exact ⟨0, Nat.zero_le _, rfl, hM3, Lib.hid (Below.refl _ _)⟩
  case round =>
    clear hM3
    obtain ⟨k, hk, rfl, hM, hB⟩ := hrel
    have hXr := Lib.hid (hB.out.sx hX3.out (Nat.lt_succ_self _))
    have hBr := Lib.hid (hB3.out.trans (hB.out.mono (by omega)))
    have hsr := hB.out.size
    have hlds := hO.len
    obtain ⟨y0, y1, y2, y3, y4, y5, hltx⟩ := id hXr.out
    by_cases hlt : k < ds.length
    · have hkN : (k : Int) < ds.length := by omega
      obtain ⟨bd, offd, d, hA, hbld, hdd, d0, d1, d2, d3, d4, d5, d6, d7⟩ := (hd.next hBr.out).at_ hlt
      subst hA
      have hdv := hO.dv d (List.mem_of_getElem? hdd)
      have hdk := hO.wk d (List.mem_of_getElem? hdd)
      have hdb : 1 ≤ d.frm ∧ d.frm ≤ N := by unfold dvB at hdv; have := of_decide_eq_true hdv; omega
      obtain ⟨fi, hfi⟩ : ∃ fi : Nat, d.frm = (fi : Int) + 1 := ⟨(d.frm - 1).toNat, by omega⟩
      have hfN : fi < N := by omega
      have hfI : (fi : Int) < N := by omega
      have hYES := fun h => Lib.hid ((bcF_yes (p := p) (cor := co) (r := r) (out := f) hdd h).trans (stB_up hfi.symm))
      have hNO := fun h => Lib.hid (bcF_no (p := p) (cor := co) (r := r) (out := f) hdd h)
      have hokF := fB_ok (p := p) hp0 co f ((ds.take k).filter (eff co r)) hf
      change Fin1 p (bcF p co r (ds.take k) f) at hokF
      have hofb : d.of_ ≤ N := by unfold dvB at hdv; have := of_decide_eq_true hdv; omega
      have hechB := ech_hrdB co d N hdv f
      have hokH := hrdB_ok hf d
      have hDx := Dx.made wr d
      have hB5 := (Below.refl wr.heap.size wr).alloc (Nat.le_refl _) (.cells #[.int .i64 d.rnd, .int .i64 d.frm, .int .i64 d.to, .int .i64 d.at_, .int .i64 d.kind, .int .u64 d.k, .int .i64 d.of_, .int .i64 d.src] 41)
      have hbd := fun W h => hbad d.frm W h
      generalize bcF p co r (ds.take k) f = F at *
      obtain ⟨Am, cm, hmc, hms, hmf⟩ := hM.out.at_ hfN
      have htl := fun A2 c2 hh (hok : Okm p hh) => htold d hdv hdk Am cm (F fi) (hokF fi) A2 c2 hh hok.1
      have hefE : eff co r d = (decide (d.rnd = r) && decide (d.frm ∈ co)) := rfl
      unfold dvv at htl
      rw [hfi] at d1 hDx hB5 hbd htl hefE
      have hfi' := Lib.hid hfi
      have hX5 := hXr.out.next hB5
      have hDH := Lib.hid hDx
      have hXH := Lib.hid hX5
      have hBH := Lib.hid hB5
      clear hdd hdb hdv hdk hfi hDx hX5 hB5
      by_cases h1 : d.rnd = r
      case neg =>
        have hN := hNO (by rw [hefE, decide_eq_false h1]; rfl)
        have h1' : (d.rnd == r) = false := beq_eq_false_iff_ne.2 h1
        clear h1 hYES hNO hbd htl
        go_wp2
        go_roundw
        case rel => exact ⟨k + 1, by omega, by simp, by rw [hN.out]; exact Lib.hid (hM.out.next hBH.out), Lib.hid (hB.out.trans (hBH.out.mono (by omega)))⟩
        case measure => simp [intOf]; omega
      have h1' : (d.rnd == r) = true := beq_iff_eq.2 h1
      obtain ⟨z0, z1, z2, z3, z4, z5, hltw⟩ := id hXH.out
      by_cases h2 : ((fi : Int) + 1) ∈ co
      case neg =>
        have hN := hNO (by rw [hefE, decide_eq_false h2]; simp)
        rw [decide_eq_false h2] at hbd
        clear h1 h2 hYES hNO htl
        go_wp2_with fail
        refine (hbd _ (hc.next (hBr.out.trans (hBH.out.mono hBr.out.size)))).mono ?_; rintro e w5 ⟨rfl, hb5⟩
        go_wp2_with fail
        go_roundw
        case rel => exact ⟨k + 1, by omega, by simp, by rw [hN.out]; exact Lib.hid (hM.out.next (hBH.out.trans (hb5.mono hBH.out.size))), Lib.hid (hB.out.trans ((hBH.out.trans (hb5.mono hBH.out.size)).mono (by omega)))⟩
        case measure => simp [intOf]; omega
      have hNX := hYES (by rw [hefE, decide_eq_true h1, decide_eq_true h2]; rfl)
      rw [decide_eq_true h2] at hbd
      clear h1 h2 hYES hNO hefE
      by_cases ho : 1 ≤ d.of_
      · obtain ⟨m, hm'⟩ : ∃ m : Nat, d.of_ = (m : Int) + 1 := ⟨(d.of_ - 1).toNat, by omega⟩
        have hmN : m < N := by omega
        have hmI : (m : Int) < N := by omega
        have hH : hrdB d f = f m := by unfold hrdB; rw [if_pos ho, hm', show ((m : Int) + 1 - 1).toNat = m by omega]
        rw [hH] at hechB hokH
        obtain ⟨bq, oq, Ah, ch, hAq, hblq, hcq0, hsq0⟩ := hm.at_ hmN
        injection hAq with hAq
        injection hAq with q1 q2
        subst q1 q2
        have hho : (1 : Int) ≤ (m : Int) + 1 := by omega
        have hmH := Lib.hid hm'
        rw [hm'] at d6 hXH hDH hBH htl
        go_wp2_with fail
        refine (hbd _ (hc.next (hBr.out.trans (hBH.out.mono hBr.out.size)))).mono ?_; rintro e w5 ⟨rfl, hb5⟩
        have hX5 := hXH.out.next hb5
        have hD5 := hDH.out.next hb5
        have hB5 := hBH.out.trans (hb5.mono hBH.out.size)
        have hcq := ((hBr.out.trans (hB5.mono hBr.out.size)).cell (p := ⟨b, off + m, none⟩) hblq).trans hcq0
        obtain ⟨x0, x1, x2, x3, x4, x5, x6, x7, hltz⟩ := id hD5
        rw [hfi'.out] at x1
        rw [hmH.out] at x6
        clear z0 z1 z2 z3 z4 z5 hltw y0 y1 y2 y3 y4 y5 hltx d0 d1 d2 d3 d4 d5 d6 d7 hb5 hcq0 hbd ho
        go_wp2
        have hSt : (St1 w.heap.size wr.heap.size g fi p N T (.slice Ac co.length cc) (.slice (some ⟨bd, offd, none⟩) ds.length cd) vt d (.slice Am (F fi).length cm)) w5.drew := ⟨hX5.next (Below.refl _ _).drew, hD5.next (Below.refl _ _).drew, (hB5.cell (p := ⟨g, fi, none⟩) hM.out.lt.2).trans hmc⟩
        have hB6 := Lib.hid hB5.drew
        have hTL := htl Ah ch (f m) hokH
        rw [hechB] at hTL
        clear hX5 hD5 x0 x1 x2 x3 x4 x5 x6 x7 hltz
        refine wp_region_hold 13 1 (St1 w.heap.size wr.heap.size g fi p N T (.slice Ac co.length cc) (.slice (some ⟨bd, offd, none⟩) ds.length cd) vt d (.slice Am (F fi).length cm)) (by kernel_rfl) (by kernel_rfl) hSt (fun hInh => ?_)
        simp only [List.take_succ_cons, List.take_zero, List.drop_succ_cons, List.drop_zero]
        have C0 := fun b : Hold (St1 w.heap.size wr.heap.size g fi p N T (.slice Ac co.length cc) (.slice (some ⟨bd, offd, none⟩) ds.length cd) vt d (.slice Am (F fi).length cm)) => b.ok.sx.c0
        have C1 := fun b : Hold (St1 w.heap.size wr.heap.size g fi p N T (.slice Ac co.length cc) (.slice (some ⟨bd, offd, none⟩) ds.length cd) vt d (.slice Am (F fi).length cm)) => b.ok.sx.c1
        have C2 := fun b : Hold (St1 w.heap.size wr.heap.size g fi p N T (.slice Ac co.length cc) (.slice (some ⟨bd, offd, none⟩) ds.length cd) vt d (.slice Am (F fi).length cm)) => b.ok.sx.c2
        have C3 := fun b : Hold (St1 w.heap.size wr.heap.size g fi p N T (.slice Ac co.length cc) (.slice (some ⟨bd, offd, none⟩) ds.length cd) vt d (.slice Am (F fi).length cm)) => b.ok.sx.c3
        have C4 := fun b : Hold (St1 w.heap.size wr.heap.size g fi p N T (.slice Ac co.length cc) (.slice (some ⟨bd, offd, none⟩) ds.length cd) vt d (.slice Am (F fi).length cm)) => b.ok.sx.c4
        have C5 := fun b : Hold (St1 w.heap.size wr.heap.size g fi p N T (.slice Ac co.length cc) (.slice (some ⟨bd, offd, none⟩) ds.length cd) vt d (.slice Am (F fi).length cm)) => b.ok.sx.c5
        have E0 := fun b : Hold (St1 w.heap.size wr.heap.size g fi p N T (.slice Ac co.length cc) (.slice (some ⟨bd, offd, none⟩) ds.length cd) vt d (.slice Am (F fi).length cm)) => b.ok.dx.d0
        have E1 := fun b : Hold (St1 w.heap.size wr.heap.size g fi p N T (.slice Ac co.length cc) (.slice (some ⟨bd, offd, none⟩) ds.length cd) vt d (.slice Am (F fi).length cm)) => b.ok.dx.d1
        have E2 := fun b : Hold (St1 w.heap.size wr.heap.size g fi p N T (.slice Ac co.length cc) (.slice (some ⟨bd, offd, none⟩) ds.length cd) vt d (.slice Am (F fi).length cm)) => b.ok.dx.d2
        have E3 := fun b : Hold (St1 w.heap.size wr.heap.size g fi p N T (.slice Ac co.length cc) (.slice (some ⟨bd, offd, none⟩) ds.length cd) vt d (.slice Am (F fi).length cm)) => b.ok.dx.d3
        have E4 := fun b : Hold (St1 w.heap.size wr.heap.size g fi p N T (.slice Ac co.length cc) (.slice (some ⟨bd, offd, none⟩) ds.length cd) vt d (.slice Am (F fi).length cm)) => b.ok.dx.d4
        have E5 := fun b : Hold (St1 w.heap.size wr.heap.size g fi p N T (.slice Ac co.length cc) (.slice (some ⟨bd, offd, none⟩) ds.length cd) vt d (.slice Am (F fi).length cm)) => b.ok.dx.d5
        have E6 := fun b : Hold (St1 w.heap.size wr.heap.size g fi p N T (.slice Ac co.length cc) (.slice (some ⟨bd, offd, none⟩) ds.length cd) vt d (.slice Am (F fi).length cm)) => b.ok.dx.d6
        have E7 := fun b : Hold (St1 w.heap.size wr.heap.size g fi p N T (.slice Ac co.length cc) (.slice (some ⟨bd, offd, none⟩) ds.length cd) vt d (.slice Am (F fi).length cm)) => b.ok.dx.d7
        have EH := fun b : Hold (St1 w.heap.size wr.heap.size g fi p N T (.slice Ac co.length cc) (.slice (some ⟨bd, offd, none⟩) ds.length cd) vt d (.slice Am (F fi).length cm)) => b.ok.hd
        simp only [hfi'.out] at E1
        simp only [hmH.out] at E6
        repeat (go_big_quiet_step (fail))
        refine wpQuiet_nil ?_
        clear C0 C1 C2 C3 C4 C5 E0 E1 E2 E3 E4 E5 E6 E7 EH
        refine wpListS_step (by rfl) (fun K hK => ?_)
        go_simp
        have hBw := hBr.out.trans (hB6.out.mono hBr.out.size)
        refine (hTL _ (hc.next hBw) (hms.next hB6.out) (hsq0.next hBw)).mono ?_; rintro e w7 ⟨A7, c7, rfl, hs7, hor7, hb7⟩
        have hS7 : (St1 w.heap.size wr.heap.size g fi p N T (.slice Ac co.length cc) (.slice (some ⟨bd, offd, none⟩) ds.length cd) vt d (.slice Am (F fi).length cm)) w7 := ⟨hSt.sx.next hb7, hSt.dx.next hb7, (hb7.cell (p := ⟨g, fi, none⟩) (Nat.lt_of_lt_of_le hM.out.lt.2 hB6.out.size)).trans hSt.hd⟩
        have hM7 := hM.out.next (hB6.out.trans (hb7.mono hB6.out.size))
        have hfar : told p d (F fi) (eB co d f) ≠ [] → ∀ ad, A7 = some ad → ad.block ≠ g := fun hn ad ea => by
          rcases hor7 with ⟨q1, q2⟩ | q
          · rw [q2] at hn; exact hmf hn ad (q1 ▸ ea)
          · have := q ad ea; have := hM.out.lt; have := hB6.out.size; omega
        have hMn := Lib.hid (hM7.put hfN hs7 hfar)
        rw [← hNX.out] at hMn
        have hBn := Lib.hid ((hB.out.trans ((hB6.out.trans (hb7.mono hB6.out.size)).mono (by omega))).setCell (p := ⟨g, fi, none⟩) hgB (.slice A7 (told p d (F fi) (eB co d f)).length c7))
        refine hK _ _ hS7 (fun _ => ?_)
        clear hK K hb7 hSt
        refine wpListS_end ?_
        have hcell7 := hS7.hd
        have hfz7 := hM7.frozen fi
        generalize told p d (F fi) (eB co d f) = rr at *
        clear hM7 hS7 hs7 hor7 hfar hTL
        go_wp2
        refine NoPanic.normal ?_
        go_wp2
        go_roundw
        case rel => exact ⟨k + 1, by omega, by simp, hMn, hBn⟩
        case measure => simp [intOf]; omega
      · have hH : hrdB d f = [] := by unfold hrdB; rw [if_neg ho]
        rw [hH] at hechB hokH
        have hoff := ho
        go_wp2_with fail
        refine (hbd _ (hc.next (hBr.out.trans (hBH.out.mono hBr.out.size)))).mono ?_; rintro e w5 ⟨rfl, hb5⟩
        have hX5 := hXH.out.next hb5
        have hD5 := hDH.out.next hb5
        have hB5 := hBH.out.trans (hb5.mono hBH.out.size)
        obtain ⟨x0, x1, x2, x3, x4, x5, x6, x7, hltz⟩ := id hD5
        rw [hfi'.out] at x1
        clear z0 z1 z2 z3 z4 z5 hltw y0 y1 y2 y3 y4 y5 hltx d0 d1 d2 d3 d4 d5 d6 d7 hb5 hbd
        go_wp2
        have hSt : (St1 w.heap.size wr.heap.size g fi p N T (.slice Ac co.length cc) (.slice (some ⟨bd, offd, none⟩) ds.length cd) vt d (.slice Am (F fi).length cm)) w5.drew := ⟨hX5.next (Below.refl _ _).drew, hD5.next (Below.refl _ _).drew, (hB5.cell (p := ⟨g, fi, none⟩) hM.out.lt.2).trans hmc⟩
        have hB6 := Lib.hid hB5.drew
        have hTL := htl none 0 (([] : List Int)) hokH
        rw [hechB] at hTL
        clear hX5 hD5 x0 x1 x2 x3 x4 x5 x6 x7 hltz
        refine wp_region_hold 13 1 (St1 w.heap.size wr.heap.size g fi p N T (.slice Ac co.length cc) (.slice (some ⟨bd, offd, none⟩) ds.length cd) vt d (.slice Am (F fi).length cm)) (by kernel_rfl) (by kernel_rfl) hSt (fun hInh => ?_)
        simp only [List.take_succ_cons, List.take_zero, List.drop_succ_cons, List.drop_zero]
        have C0 := fun b : Hold (St1 w.heap.size wr.heap.size g fi p N T (.slice Ac co.length cc) (.slice (some ⟨bd, offd, none⟩) ds.length cd) vt d (.slice Am (F fi).length cm)) => b.ok.sx.c0
        have C1 := fun b : Hold (St1 w.heap.size wr.heap.size g fi p N T (.slice Ac co.length cc) (.slice (some ⟨bd, offd, none⟩) ds.length cd) vt d (.slice Am (F fi).length cm)) => b.ok.sx.c1
        have C2 := fun b : Hold (St1 w.heap.size wr.heap.size g fi p N T (.slice Ac co.length cc) (.slice (some ⟨bd, offd, none⟩) ds.length cd) vt d (.slice Am (F fi).length cm)) => b.ok.sx.c2
        have C3 := fun b : Hold (St1 w.heap.size wr.heap.size g fi p N T (.slice Ac co.length cc) (.slice (some ⟨bd, offd, none⟩) ds.length cd) vt d (.slice Am (F fi).length cm)) => b.ok.sx.c3
        have C4 := fun b : Hold (St1 w.heap.size wr.heap.size g fi p N T (.slice Ac co.length cc) (.slice (some ⟨bd, offd, none⟩) ds.length cd) vt d (.slice Am (F fi).length cm)) => b.ok.sx.c4
        have C5 := fun b : Hold (St1 w.heap.size wr.heap.size g fi p N T (.slice Ac co.length cc) (.slice (some ⟨bd, offd, none⟩) ds.length cd) vt d (.slice Am (F fi).length cm)) => b.ok.sx.c5
        have E0 := fun b : Hold (St1 w.heap.size wr.heap.size g fi p N T (.slice Ac co.length cc) (.slice (some ⟨bd, offd, none⟩) ds.length cd) vt d (.slice Am (F fi).length cm)) => b.ok.dx.d0
        have E1 := fun b : Hold (St1 w.heap.size wr.heap.size g fi p N T (.slice Ac co.length cc) (.slice (some ⟨bd, offd, none⟩) ds.length cd) vt d (.slice Am (F fi).length cm)) => b.ok.dx.d1
        have E2 := fun b : Hold (St1 w.heap.size wr.heap.size g fi p N T (.slice Ac co.length cc) (.slice (some ⟨bd, offd, none⟩) ds.length cd) vt d (.slice Am (F fi).length cm)) => b.ok.dx.d2
        have E3 := fun b : Hold (St1 w.heap.size wr.heap.size g fi p N T (.slice Ac co.length cc) (.slice (some ⟨bd, offd, none⟩) ds.length cd) vt d (.slice Am (F fi).length cm)) => b.ok.dx.d3
        have E4 := fun b : Hold (St1 w.heap.size wr.heap.size g fi p N T (.slice Ac co.length cc) (.slice (some ⟨bd, offd, none⟩) ds.length cd) vt d (.slice Am (F fi).length cm)) => b.ok.dx.d4
        have E5 := fun b : Hold (St1 w.heap.size wr.heap.size g fi p N T (.slice Ac co.length cc) (.slice (some ⟨bd, offd, none⟩) ds.length cd) vt d (.slice Am (F fi).length cm)) => b.ok.dx.d5
        have E6 := fun b : Hold (St1 w.heap.size wr.heap.size g fi p N T (.slice Ac co.length cc) (.slice (some ⟨bd, offd, none⟩) ds.length cd) vt d (.slice Am (F fi).length cm)) => b.ok.dx.d6
        have E7 := fun b : Hold (St1 w.heap.size wr.heap.size g fi p N T (.slice Ac co.length cc) (.slice (some ⟨bd, offd, none⟩) ds.length cd) vt d (.slice Am (F fi).length cm)) => b.ok.dx.d7
        have EH := fun b : Hold (St1 w.heap.size wr.heap.size g fi p N T (.slice Ac co.length cc) (.slice (some ⟨bd, offd, none⟩) ds.length cd) vt d (.slice Am (F fi).length cm)) => b.ok.hd
        simp only [hfi'.out] at E1
        repeat (go_big_quiet_step (fail))
        refine wpQuiet_nil ?_
        clear C0 C1 C2 C3 C4 C5 E0 E1 E2 E3 E4 E5 E6 E7 EH
        refine wpListS_step (by rfl) (fun K hK => ?_)
        go_simp
        have hBw := hBr.out.trans (hB6.out.mono hBr.out.size)
        refine (hTL _ (hc.next hBw) (hms.next hB6.out) (Sl.nothing _)).mono ?_; rintro e w7 ⟨A7, c7, rfl, hs7, hor7, hb7⟩
        have hS7 : (St1 w.heap.size wr.heap.size g fi p N T (.slice Ac co.length cc) (.slice (some ⟨bd, offd, none⟩) ds.length cd) vt d (.slice Am (F fi).length cm)) w7 := ⟨hSt.sx.next hb7, hSt.dx.next hb7, (hb7.cell (p := ⟨g, fi, none⟩) (Nat.lt_of_lt_of_le hM.out.lt.2 hB6.out.size)).trans hSt.hd⟩
        have hM7 := hM.out.next (hB6.out.trans (hb7.mono hB6.out.size))
        have hfar : told p d (F fi) (eB co d f) ≠ [] → ∀ ad, A7 = some ad → ad.block ≠ g := fun hn ad ea => by
          rcases hor7 with ⟨q1, q2⟩ | q
          · rw [q2] at hn; exact hmf hn ad (q1 ▸ ea)
          · have := q ad ea; have := hM.out.lt; have := hB6.out.size; omega
        have hMn := Lib.hid (hM7.put hfN hs7 hfar)
        rw [← hNX.out] at hMn
        have hBn := Lib.hid ((hB.out.trans ((hB6.out.trans (hb7.mono hB6.out.size)).mono (by omega))).setCell (p := ⟨g, fi, none⟩) hgB (.slice A7 (told p d (F fi) (eB co d f)).length c7))
        refine hK _ _ hS7 (fun _ => ?_)
        clear hK K hb7 hSt
        refine wpListS_end ?_
        have hcell7 := hS7.hd
        have hfz7 := hM7.frozen fi
        generalize told p d (F fi) (eB co d f) = rr at *
        clear hM7 hS7 hs7 hor7 hfar hTL
        go_wp2
        refine NoPanic.normal ?_
        go_wp2
        go_roundw
        case rel => exact ⟨k + 1, by omega, by simp, hMn, hBn⟩
        case measure => simp [intOf]; omega
    · obtain rfl : k = ds.length := by omega
      have hM' := hM.out
      rw [List.take_length] at hM'
      have hMH := Lib.hid hM'
      clear hM'
      go_wp2
      go_ret
      exact ⟨_, _, rfl, hMH.out.sf, hBr.out⟩
end Go.Proofs.Ytbhphamfkhccpaa
