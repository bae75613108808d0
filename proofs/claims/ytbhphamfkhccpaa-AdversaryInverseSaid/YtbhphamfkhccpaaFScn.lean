/- validDeviations and validTapes of package params (over slices.ContainsFunc and IndexFunc with the code's closures): nothing that lay is changed. Conditions: at most 1000 deviations, tapes, words of a tape. -/
import Derived.Test.YtbhphamfkhccpaaFDev
import Derived.RangeFuncBox
namespace Go.Proofs.Ytbhphamfkhccpaa
set_option maxRecDepth 100000
open Go.RowKit PolyMath FieldMath PartyMath

/-- The slice at A with capacity c holds the deviations ds. -/
structure Sd (w : World) (A : Option Addr) (c : Nat) (ds : List Dv) : Prop where
  cap : ds.length ≤ c
  nil : A = none → c = 0
  rd : ∀ ad, A = some ad → ds ≠ [] → ∃ b off, ad = ⟨b, off, none⟩ ∧ b < w.heap.size ∧ ∀ j d, ds[j]? = some d → ∀ i v, (dcs d)[i]? = some v → w.cell? ⟨b, off + j * 8 + i, none⟩ = some v
section
variable {w w' : World} {A : Option Addr} {c : Nat} {ds : List Dv}
theorem Sd.nothing (w : World) : Sd w none 0 [] := ⟨Nat.le_refl _, (fun _ => rfl), (fun _ h => absurd h (by simp))⟩
theorem Sd.at_ {k : Nat} (h : Sd w A c ds) (hk : k < ds.length) : ∃ b off d, A = some ⟨b, off, none⟩ ∧ b < w.heap.size ∧ ds[k]? = some d ∧ w.cell? ⟨b, off + k * 8, none⟩ = some (.int .i64 d.rnd) ∧ w.cell? ⟨b, off + k * 8 + 1, none⟩ = some (.int .i64 d.frm) ∧ w.cell? ⟨b, off + k * 8 + 2, none⟩ = some (.int .i64 d.to) ∧ w.cell? ⟨b, off + k * 8 + 3, none⟩ = some (.int .i64 d.at_) ∧ w.cell? ⟨b, off + k * 8 + 4, none⟩ = some (.int .i64 d.kind) ∧ w.cell? ⟨b, off + k * 8 + 5, none⟩ = some (.int .u64 d.k) ∧ w.cell? ⟨b, off + k * 8 + 6, none⟩ = some (.int .i64 d.of_) ∧ w.cell? ⟨b, off + k * 8 + 7, none⟩ = some (.int .i64 d.src) := by
  cases hA : A with
  | none => have := h.nil hA; have := h.cap; omega
  | some ad =>
    obtain ⟨b, off, rfl, hb, hc⟩ := h.rd ad hA (fun e => by rw [e] at hk; simp at hk)
    have hx := List.getElem?_eq_getElem hk
    have hcc := hc k _ hx
    exact ⟨b, off, _, rfl, hb, hx, hcc 0 _ rfl, hcc 1 _ rfl, hcc 2 _ rfl, hcc 3 _ rfl, hcc 4 _ rfl, hcc 5 _ rfl, hcc 6 _ rfl, hcc 7 _ rfl⟩
theorem Sd.keep (h : Sd w A c ds) (hs : w.heap.size ≤ w'.heap.size) (hk : ∀ p : Addr, p.block < w.heap.size → w'.cell? p = w.cell? p) : Sd w' A c ds :=
  ⟨h.cap, h.nil, fun ad hA hn => by
    obtain ⟨b, off, e, hb, hc⟩ := h.rd ad hA hn
    exact ⟨b, off, e, by omega, fun j d hx i v hv => (hk ⟨b, off + j * 8 + i, none⟩ hb).trans (hc j d hx i v hv)⟩⟩
theorem Sd.next (h : Sd w A c ds) (hb : Below w.heap.size w w') : Sd w' A c ds := h.keep hb.size fun _ hp => hb.cell hp
theorem Sd.push (h : Sd w A c ds) (o : Obj) : Sd (w.alloc o) A c ds := h.next ((Below.refl _ w).alloc (Nat.le_refl _) o)
end

set_option maxHeartbeats 1000000 in
theorem dev1_any (p n t : Int) (d : Dv) (B : Nat) (w : World) (h : Bx w B p n t) :
    Calls Try.prog 61 #[dvv d, .pointer (some ⟨B, 0, none⟩)] w fun e w' => e = .returned (.bool (!dvB n d)) ∧ Below w.heap.size w w' := by
  have hd := fun W => dev_any p n t d W
  obtain ⟨c0, c1, c2, hlt⟩ := h
  have hne : B ≠ w.heap.size := by omega
  unfold pv dvv at hd
  unfold dvv
  generalize dvB n d = q at *
  go_enter Try.func61, Try.ntmps61
  go_wp2_with fail
  refine (hd _).mono ?_; rintro e w1 ⟨rfl, hb⟩
  go_wp2_with fail
  go_ret
  exact ⟨rfl, ((Below.refl _ w).alloc (Nat.le_refl _) _).trans (hb.mono (by simp))⟩
set_option maxHeartbeats 1000000 in
theorem indexD_any (p n t : Int) (A : Option Addr) (c : Nat) (ds : List Dv) (hl : ds.length ≤ 1000) (B : Nat) (w : World) (h : Sd w A c ds) (hB : Bx w B p n t) :
    Calls Try.prog 69 #[.slice A ds.length c, .func (.func 61) #[] #[.pointer (some ⟨B, 0, none⟩)]] w fun e w' => ∃ r : Int, e = .returned (.int .i64 r) ∧ decide (0 ≤ r) = (!ds.all (dvB n)) ∧ Below w.heap.size w w' := by
  go_enter Try.func69, Try.ntmps69
  go_wp2
  go_loopw [8] (fun i wr => ∃ k : Nat, k ≤ ds.length ∧ i = .int .i64 k ∧ Hid ((ds.take k).all (dvB n) = true) ∧ Below w.heap.size w wr) (fun i _ => ds.length - (intOf i).toNat)
  case atStart => exact ⟨0, Nat.zero_le _, rfl, Lib.hid (by simp), Below.refl _ _⟩
  case round =>
    obtain ⟨k, hk, rfl, hE, hb⟩ := hrel
    by_cases hlt : k < ds.length
    · obtain ⟨b, off, d, hA, hbl, hd, c0, c1, c2, c3, c4, c5, c6, c7⟩ := (h.next hb).at_ hlt
      subst hA
      have hkN : (k : Int) < ds.length := by omega
      have hcall := dev1_any p n t d B wr (hB.next hb)
      unfold dvv at hcall
      cases hq : dvB n d with
      | true =>
        rw [hq] at hcall
        have hN := Lib.hid (show (ds.take (k + 1)).all (dvB n) = true by rw [List.take_add_one, hd, List.all_append, hE.out]; simp [hq])
        clear hd hq
        go_wp2_with (go_at_call 61; refine hcall.mono ?_; rintro e w2 ⟨rfl, hb2⟩)
        go_roundw
        case rel => exact ⟨k + 1, by omega, by simp, hN, hb.trans (hb2.mono hb.size)⟩
        case measure => simp [intOf]; omega
      | false =>
        rw [hq] at hcall
        have hN := Lib.hid (show ds.all (dvB n) = false from by
          cases e : ds.all (dvB n) with
          | false => rfl
          | true => rw [List.all_eq_true] at e; rw [e d (List.mem_of_getElem? hd)] at hq; cases hq)
        clear hd hq
        go_wp2_with (go_at_call 61; refine hcall.mono ?_; rintro e w2 ⟨rfl, hb2⟩)
        go_ret
        exact ⟨k, rfl, by rw [hN.out]; simp, hb.trans (hb2.mono hb.size)⟩
    · obtain rfl : k = ds.length := by omega
      have hN := Lib.hid (show ds.all (dvB n) = true by have := hE.out; rwa [List.take_length] at this)
      go_wp2
      go_ret
      exact ⟨-1, rfl, by rw [hN.out]; rfl, hb⟩
theorem containsD_any (p n t : Int) (A : Option Addr) (c : Nat) (ds : List Dv) (hl : ds.length ≤ 1000) (B : Nat) (w : World) (h : Sd w A c ds) (hB : Bx w B p n t) :
    Calls Try.prog 60 #[.slice A ds.length c, .func (.func 61) #[] #[.pointer (some ⟨B, 0, none⟩)]] w fun e w' => e = .returned (.bool (!ds.all (dvB n))) ∧ Below w.heap.size w w' := by
  go_enter Try.func60, Try.ntmps60
  go_wp2_with fail
  refine (indexD_any p n t A c ds hl B w h hB).mono ?_; rintro e w1 ⟨r, rfl, hr, hb⟩
  have hR := Lib.hid hr
  clear hr
  go_wp2_with fail
  go_ret
  exact ⟨congrArg (fun b => Ending.returned (.bool b)) hR.out, hb⟩
set_option maxHeartbeats 1000000 in
theorem devs_any (p n t : Int) (A : Option Addr) (c : Nat) (ds : List Dv) (hl : ds.length ≤ 1000) (w : World) (h : Sd w A c ds) :
    Calls Try.prog 50 #[pv p n t, .slice A ds.length c] w fun e w' => e = .returned (.bool (ds.all (dvB n))) ∧ Below w.heap.size w w' := by
  have hB1 := Lib.hid ((Below.refl _ w).alloc (Nat.le_refl _) (.cells #[.int .u64 p, .int .i64 n, .int .i64 t] 24))
  have hX1 := Bx.made w p n t
  have hS := h.push (.cells #[.int .u64 p, .int .i64 n, .int .i64 t] 24)
  have hc := containsD_any p n t A c ds hl w.heap.size _ hS hX1
  unfold pv
  go_enter Try.func50, Try.ntmps50
  go_wp2_with fail
  refine hc.mono ?_; rintro e w1 ⟨rfl, hb⟩
  go_wp2_with fail
  go_ret
  exact ⟨by simp, hB1.out.trans (hb.mono (by simp))⟩
/-- All words are less than p. -/
def lessB (p : Int) (xs : List Int) : Bool := xs.all fun x => decide (x < p)
theorem lessB_is (p : Int) (xs : List Int) : decide (∀ x ∈ xs, x < p) = lessB p xs := by
  unfold lessB
  rw [Bool.eq_iff_iff, decide_eq_true_eq, List.all_eq_true]
  exact ⟨fun h x hx => decide_eq_true (h x hx), fun h x hx => of_decide_eq_true (h x hx)⟩
/-- The tapes are as many as the parties, and all their words less than p. -/
def tpB (p n : Int) (ts : List (List Int)) : Bool := decide ((ts.length : Int) = n) && ts.all (lessB p)

theorem word1_any (p n t x : Int) (B : Nat) (w : World) (h : Bx w B p n t) :
    Calls Try.prog 66 #[.int .u64 x, .pointer (some ⟨B, 0, none⟩)] w fun e w' => e = .returned (.bool (!decide (x < p))) ∧ w = w' := by
  obtain ⟨c0, c1, c2, hlt⟩ := h
  have hE : Hid (decide (p ≤ x) = !decide (x < p)) := Lib.hid (by
    by_cases h : x < p
    · rw [decide_eq_true h, decide_eq_false (by omega)]; rfl
    · rw [decide_eq_false h, decide_eq_true (by omega)]; rfl)
  go_enter Try.func66, Try.ntmps66
  go_wp2
  go_ret
  rw [← hE.out]
  exact ⟨rfl, rfl⟩
theorem indexW_any (p n t : Int) (A : Option Addr) (c m : Nat) (xs : List Int) (hm : xs.length = m) (hl : m ≤ 1000) (B : Nat) (w : World) (h : Sl w A c xs) (hB : Bx w B p n t) :
    Calls Try.prog 71 #[.slice A m c, .func (.func 66) #[] #[.pointer (some ⟨B, 0, none⟩)]] w fun e w' => (∃ r : Int, e = .returned (.int .i64 r) ∧ decide (0 ≤ r) = (!lessB p xs)) ∧ w = w' := by
  have HM := Lib.hid hm
  clear hm
  go_enter Try.func71, Try.ntmps71
  go_wp2
  go_loop [8] (fun i => ∃ k : Nat, k ≤ m ∧ i = .int .i64 k ∧ Hid (lessB p (xs.take k) = true)) (fun i => m - (intOf i).toNat)
  case atStart => exact ⟨0, Nat.zero_le _, rfl, Lib.hid (by simp [lessB])⟩
  case round =>
    obtain ⟨k, hk, rfl, hE⟩ := hrel
    by_cases hlt : k < m
    · obtain ⟨b, off, x, hA, hbl, hd, c0⟩ := h.at_ (k := k) (by rw [HM.out]; exact hlt)
      subst hA
      have hkN : (k : Int) < m := by omega
      have hcall := word1_any p n t x B w hB
      cases hq : decide (x < p) with
      | true =>
        rw [hq] at hcall
        have hN := Lib.hid (show lessB p (xs.take (k + 1)) = true by rw [List.take_add_one, hd]; unfold lessB; rw [List.all_append]; have := hE.out; unfold lessB at this; rw [this]; simp; exact of_decide_eq_true hq)
        clear hd hq
        go_wp2_with (go_at_call 66; refine hcall.mono ?_; rintro e w2 ⟨rfl, rfl⟩)
        go_round
        case rel => exact ⟨k + 1, by omega, by simp, hN⟩
        case measure => simp [intOf]; omega
      | false =>
        rw [hq] at hcall
        have hN := Lib.hid (show lessB p xs = false from by
          cases e : lessB p xs with
          | false => rfl
          | true => unfold lessB at e; rw [List.all_eq_true] at e; rw [e x (List.mem_of_getElem? hd)] at hq; cases hq)
        clear hd hq
        go_wp2_with (go_at_call 66; refine hcall.mono ?_; rintro e w2 ⟨rfl, rfl⟩)
        go_ret
        exact ⟨⟨k, rfl, by rw [hN.out]; simp⟩, rfl⟩
    · obtain rfl : k = m := by omega
      have hN := Lib.hid (show lessB p xs = true by have := hE.out; rwa [← HM.out, List.take_length] at this)
      go_wp2
      go_ret
      exact ⟨⟨-1, rfl, by rw [hN.out]; rfl⟩, rfl⟩
theorem containsW_any (p n t : Int) (A : Option Addr) (c m : Nat) (xs : List Int) (hm : xs.length = m) (hl : m ≤ 1000) (B : Nat) (w : World) (h : Sl w A c xs) (hB : Bx w B p n t) :
    Calls Try.prog 65 #[.slice A m c, .func (.func 66) #[] #[.pointer (some ⟨B, 0, none⟩)]] w fun e w' => e = .returned (.bool (!lessB p xs)) ∧ w = w' := by
  have hi := indexW_any p n t A c m xs hm hl B w h hB
  go_enter Try.func65, Try.ntmps65
  go_wp2_with fail
  refine hi.mono ?_; rintro e w1 ⟨⟨r, rfl, hr⟩, rfl⟩
  have hR := Lib.hid hr
  clear hr
  go_wp2_with fail
  go_ret
  exact ⟨congrArg (fun b => Ending.returned (.bool b)) hR.out, rfl⟩
theorem tape1_any (p n t : Int) (A : Option Addr) (c m : Nat) (xs : List Int) (hm : xs.length = m) (hl : m ≤ 1000) (B : Nat) (w : World) (h : Sl w A c xs) (hB : Bx w B p n t) :
    Calls Try.prog 64 #[.slice A m c, .pointer (some ⟨B, 0, none⟩)] w fun e w' => e = .returned (.bool (!lessB p xs)) ∧ w = w' := by
  have hi := containsW_any p n t A c m xs hm hl B w h hB
  go_enter Try.func64, Try.ntmps64
  go_wp2_with fail
  refine hi.mono ?_; rintro e w1 ⟨rfl, rfl⟩
  go_wp2_with fail
  go_ret
  exact ⟨rfl, rfl⟩
set_option maxHeartbeats 1000000 in
theorem indexT_any (p n t : Int) (A : Option Addr) (c : Nat) (ts : List (List Int)) (hl : ts.length ≤ 1000) (hw : ∀ r ∈ ts, r.length ≤ 1000) (B : Nat) (w : World) (h : Sll w A c ts) (hB : Bx w B p n t) :
    Calls Try.prog 70 #[.slice A ts.length c, .func (.func 64) #[] #[.pointer (some ⟨B, 0, none⟩)]] w fun e w' => (∃ r : Int, e = .returned (.int .i64 r) ∧ decide (0 ≤ r) = (!ts.all (lessB p))) ∧ w = w' := by
  go_enter Try.func70, Try.ntmps70
  go_wp2
  go_loop [8] (fun i => ∃ k : Nat, k ≤ ts.length ∧ i = .int .i64 k ∧ Hid ((ts.take k).all (lessB p) = true)) (fun i => ts.length - (intOf i).toNat)
  case atStart => exact ⟨0, Nat.zero_le _, rfl, Lib.hid (by simp)⟩
  case round =>
    obtain ⟨k, hk, rfl, hE⟩ := hrel
    by_cases hlt : k < ts.length
    · obtain ⟨b, off, r, A', c', hA, hbl, hd, c0, hs⟩ := h.at_ hlt
      subst hA
      have hkN : (k : Int) < ts.length := by omega
      have hcall := tape1_any p n t A' c' r.length r rfl (hw r (List.mem_of_getElem? hd)) B w hs hB
      generalize hrl : r.length = rl at *
      have HR := Lib.hid hrl
      clear hrl
      cases hq : lessB p r with
      | true =>
        rw [hq] at hcall
        have hN := Lib.hid (show (ts.take (k + 1)).all (lessB p) = true by rw [List.take_add_one, hd, List.all_append, hE.out]; simp [hq])
        clear hd hq
        go_wp2_with (go_at_call 64; refine hcall.mono ?_; rintro e w2 ⟨rfl, rfl⟩)
        go_round
        case rel => exact ⟨k + 1, by omega, by simp, hN⟩
        case measure => simp [intOf]; omega
      | false =>
        rw [hq] at hcall
        have hN := Lib.hid (show ts.all (lessB p) = false from by
          cases e : ts.all (lessB p) with
          | false => rfl
          | true => rw [List.all_eq_true] at e; rw [e r (List.mem_of_getElem? hd)] at hq; cases hq)
        clear hd hq
        go_wp2_with (go_at_call 64; refine hcall.mono ?_; rintro e w2 ⟨rfl, rfl⟩)
        go_ret
        exact ⟨⟨k, rfl, by rw [hN.out]; simp⟩, rfl⟩
    · obtain rfl : k = ts.length := by omega
      have hN := Lib.hid (show ts.all (lessB p) = true by have := hE.out; rwa [List.take_length] at this)
      go_wp2
      go_ret
      exact ⟨⟨-1, rfl, by rw [hN.out]; rfl⟩, rfl⟩
theorem containsT_any (p n t : Int) (A : Option Addr) (c : Nat) (ts : List (List Int)) (hl : ts.length ≤ 1000) (hw : ∀ r ∈ ts, r.length ≤ 1000) (B : Nat) (w : World) (h : Sll w A c ts) (hB : Bx w B p n t) :
    Calls Try.prog 63 #[.slice A ts.length c, .func (.func 64) #[] #[.pointer (some ⟨B, 0, none⟩)]] w fun e w' => e = .returned (.bool (!ts.all (lessB p))) ∧ w = w' := by
  have hi := indexT_any p n t A c ts hl hw B w h hB
  go_enter Try.func63, Try.ntmps63
  go_wp2_with fail
  refine hi.mono ?_; rintro e w1 ⟨⟨r, rfl, hr⟩, rfl⟩
  have hR := Lib.hid hr
  clear hr
  go_wp2_with fail
  go_ret
  exact ⟨congrArg (fun b => Ending.returned (.bool b)) hR.out, rfl⟩
set_option maxHeartbeats 1000000 in
theorem tapes_any (p n t : Int) (A : Option Addr) (c : Nat) (ts : List (List Int)) (hl : ts.length ≤ 1000) (hw : ∀ r ∈ ts, r.length ≤ 1000) (w : World) (h : Sll w A c ts) :
    Calls Try.prog 51 #[pv p n t, .slice A ts.length c] w fun e w' => e = .returned (.bool (tpB p n ts)) ∧ Below w.heap.size w w' := by
  have hB1 := Lib.hid ((Below.refl _ w).alloc (Nat.le_refl _) (.cells #[.int .u64 p, .int .i64 n, .int .i64 t] 24))
  have hX1 := Bx.made w p n t
  have hS := h.push (.cells #[.int .u64 p, .int .i64 n, .int .i64 t] 24)
  have hc := containsT_any p n t A c ts hl hw w.heap.size _ hS hX1
  unfold pv
  by_cases hn : (ts.length : Int) = n
  · have e : tpB p n ts = ts.all (lessB p) := by unfold tpB; rw [decide_eq_true hn]; rfl
    rw [e]
    have hn' : ((ts.length : Int) == n) = true := beq_iff_eq.2 hn
    clear hn
    go_enter Try.func51, Try.ntmps51
    go_wp2_with fail
    refine hc.mono ?_; rintro e w1 ⟨rfl, rfl⟩
    go_wp2_with fail
    go_ret
    exact ⟨by simp, hB1.out⟩
  · have e : tpB p n ts = false := by unfold tpB; rw [decide_eq_false hn]; rfl
    rw [e]
    have hn' : ((ts.length : Int) == n) = false := beq_eq_false_iff_ne.2 hn
    clear hn
    go_enter Try.func51, Try.ntmps51
    go_wp2
    go_ret
    exact ⟨rfl, hB1.out⟩
end Go.Proofs.Ytbhphamfkhccpaa
