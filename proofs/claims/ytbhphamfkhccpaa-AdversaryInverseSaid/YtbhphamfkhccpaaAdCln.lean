/- cloned and receivedBy of package adversary: new lists of messages. Conditions: at most 13 messages of at most 20 words. -/
import Derived.Test.YtbhphamfkhccpaaAdDev
namespace Go.Proofs.Ytbhphamfkhccpaa
set_option maxRecDepth 100000
open Go.RowKit PolyMath FieldMath PartyMath

theorem info_sl : (Try.prog.info? 42).map (fun i => (i.zero, i.size, i.bytes)) = some (some (.slice none 0 0), 1, 24) := by kernel_rfl
theorem info_sll : (Try.prog.info? 27).map (fun i => (i.zero, i.size, i.bytes)) = some (some (.slice none 0 0), 1, 24) := by kernel_rfl
theorem clone_all (A : Option Addr) (c : Nat) (xs : List Int) (n : Nat) (hn : xs.length = n) (hl : xs.length ≤ 1000) (w : World) (h : Sl w A c xs) :
    Calls Try.prog 40 #[.slice A n c] w fun e w' => Fresh w e w' xs := by
  subst hn
  have := clone_any A xs.length c xs w h (Nat.le_refl _) hl
  rwa [List.take_length] at this
/-- The first k of the messages. -/
def cutf (f : Nat → List Int) (k : Nat) : Nat → List Int := fun i => if i < k then f i else []
theorem cutf_next (f : Nat → List Int) (k : Nat) : up (cutf f k) k (f k) = cutf f (k + 1) := by
  funext i
  unfold up cutf
  by_cases e : i = k
  · subst e; rw [if_pos rfl, if_pos (Nat.lt_succ_self _)]
  · rw [if_neg e]
    by_cases h : i < k
    · rw [if_pos h, if_pos (by omega)]
    · rw [if_neg h, if_neg (by omega)]
theorem rep_map (N : Nat) (z : Value) : List.replicate N z = (List.range N).map fun _ => z := by
  refine List.ext_getElem? fun i => ?_
  by_cases h : i < N
  · rw [get_map _ h, List.getElem?_replicate, if_pos h]
  · rw [List.getElem?_eq_none (by simp; omega), List.getElem?_eq_none (by simp; omega)]
theorem OF.begin {B : Nat} {w : World} {g N : Nat} (f : Nat → List Int) (h : w.ownsRow B 42 1 (.slice (some ⟨g, 0, none⟩) N N) N (List.replicate N (.slice none 0 0))) : OF B w g N (fun _ => .slice none 0 0) (cutf f 0) := by
  rw [rep_map] at h
  exact ⟨h, fun i _ => World.ownsRow_nil _ _ _ _, fun i j e _ _ h1 => by cases h1⟩

set_option maxHeartbeats 2000000 in
theorem cloned_any (A : Option Addr) (c N : Nat) (f : Nat → List Int) (hN : N ≤ 13) (hf : ∀ i, (f i).length ≤ 20) (w : World) (h : Sf w A c N f) :
    Calls Try.prog 24 #[.slice A N c] w fun e w' => ∃ g u, e = .returned (.slice (some ⟨g, 0, none⟩) N N) ∧ OF w.heap.size w' g N u f ∧ Below w.heap.size w w' := by
  obtain ⟨i0, hi, hz0, hz1, hz2⟩ := info_parts info_sl
  have hB8 : Hid (i0.bytes * N ≤ 281474976710656) := Lib.hid (by rw [hz2]; omega)
  have hN' : (N : Int) ≤ 13 := by omega
  go_enter Try.func24, Try.ntmps24
  go_wp2_with (at_make; refine wpList_make_full _ rfl _ _ 27 rfl w.heap.size 42 i0 (.slice none 0 0) 1 Try.underlying27 hi hz0 hz1 .i64 .i64 _ _ N rfl rfl (by omega) (by omega) hB8.out (by simp only [maxLen]; omega) (Nat.le_refl _) ?_; intro w1 hown1 hgrow1)
  have hb1 : Below w.heap.size w w1 := (Below.refl _ w).grown hgrow1 (Nat.le_refl _) (fun k e => by cases e)
  simp only [Value.cells, toList_madeCells_one, Nat.mul_one] at hown1
  have hM1 := Lib.hid (OF.begin f hown1)
  clear hown1 hgrow1
  go_loopw [11] (fun i wr => ∃ (k : Nat) (u : Nat → Value), k ≤ N ∧ i = .int .i64 k ∧ Hid (OF w.heap.size wr w.heap.size N u (cutf f k)) ∧ Below w.heap.size w wr) (fun i _ => N - (intOf i).toNat)
  case atStart => exact ⟨0, _, Nat.zero_le _, rfl, hM1, hb1⟩
  case round =>
    clear hM1 hb1
    obtain ⟨k, u, hk, rfl, hM, hB⟩ := hrel
    by_cases hlt : k < N
    · have hkN : (k : Int) < N := by omega
      obtain ⟨b, off, A', c', rfl, hbl, hcell, hsl⟩ := (h.next hB).at_ hlt
      have hfk := hf k
      have hcl := clone_all A' c' (f k) (f k).length rfl (by omega) wr hsl
      have hsz := hB.size
      have HNX := Lib.hid (cutf_next f k)
      go_wp2_with fail
      refine hcl.mono ?_; rintro e w2 ⟨v, rfl, hown, hb2⟩
      obtain ⟨A2, c2, rfl, hs2⟩ := own_form hown
      have hM2 := hM.out.next hb2
      have hu2 := hM2.cell hlt
      have hfz2 := World.ownsRow.frozenAt hM2.head k
      have HP := Lib.hid (hM.out.lay hlt (row := none) ⟨hb2.os, hb2.tape, hb2.output, hb2.size, fun b hb _ => hb2.block b hb⟩ (.inl rfl) (own_weak hown hsz) (fun e he => .inl (World.ownsRow.lt hown e he).1))
      rw [HNX.out] at HP
      have HB := Lib.hid ((hB.trans (hb2.mono hsz)).setCell (p := ⟨w.heap.size, k, none⟩) (Nat.le_refl _) (.slice A2 (f k).length c2))
      clear hcl hown hs2 hM2 hM hb2
      go_wp2_with fail
      go_roundw
      case rel => exact ⟨k + 1, _, by omega, by simp, HP, HB.out⟩
      case measure => simp [intOf]; omega
    · obtain rfl : k = N := by omega
      go_wp2
      go_ret
      exact ⟨_, u, rfl, hM.out.ext fun i hi => by unfold cutf; rw [if_pos hi], hB⟩
/-- Headers of the call's own over messages that lie elsewhere: the first k of them. -/
structure Hv (B : Nat) (w : World) (g N k : Nat) (f : Nat → List Int) : Prop where
  ex : ∃ vs : List Value, w.ownsRow B 42 1 (.slice (some ⟨g, 0, none⟩) N N) N vs ∧ ∀ j, j < k → ∃ A c, vs[j]? = some (.slice A (f j).length c) ∧ Sl w A c (f j) ∧ ∀ ad, A = some ad → f j ≠ [] → ad.block < B
theorem Hv.lt {B : Nat} {w : World} {g N k : Nat} {f : Nat → List Int} (h : Hv B w g N k f) : B ≤ g ∧ g < w.heap.size := by
  obtain ⟨vs, h1, _⟩ := h.ex
  exact World.ownsRow.lt h1 g rfl
theorem Hv.head {B : Nat} {w : World} {g N k : Nat} {f : Nat → List Int} (h : Hv B w g N k f) {i : Nat} (hi : i < N) : ∃ v, w.cell? ⟨g, i, none⟩ = some v := by
  obtain ⟨vs, h1, _⟩ := h.ex
  have hl : vs.length = N := by have := h1.1; omega
  exact ⟨_, (World.ownsRow.cellAt h1 i (by omega)).trans (List.getElem?_eq_getElem (by omega))⟩
theorem Hv.frozen {B : Nat} {w : World} {g N k : Nat} {f : Nat → List Int} (h : Hv B w g N k f) (i : Nat) : w.frozen? ⟨g, i, none⟩ = false := by
  obtain ⟨vs, h1, _⟩ := h.ex
  exact World.ownsRow.frozenAt h1 i
theorem Hv.next {B : Nat} {w : World} {g N k : Nat} {f : Nat → List Int} (h : Hv B w g N k f) (hk : k < N) {A : Option Addr} {c : Nat} (hs : Sl w A c (f k)) (hA : ∀ ad, A = some ad → f k ≠ [] → ad.block < B) : Hv B (w.setCell ⟨g, k, none⟩ (.slice A (f k).length c)) g N (k + 1) f := by
  obtain ⟨vs, h1, h2⟩ := h.ex
  have hl : vs.length = N := by have := h1.1; omega
  have hst := World.ownsRow.stored h1 k (.slice A (f k).length c)
  have hB := h.lt.1
  refine ⟨_, hst.1, fun j hj => ?_⟩
  have keep : ∀ {A' : Option Addr} {c' : Nat} {xs : List Int}, Sl w A' c' xs → (∀ ad, A' = some ad → xs ≠ [] → ad.block < B) → Sl (w.setCell ⟨g, k, none⟩ (.slice A (f k).length c)) A' c' xs := fun {A' c' xs} q1 q2 =>
    ⟨q1.cap, q1.nil, fun ad e hn => by
      obtain ⟨b, off, rfl, hb, hc⟩ := q1.rd ad e hn
      have hne : b ≠ g := by have := q2 _ e hn; simp at this; omega
      exact ⟨b, off, rfl, by simpa [World.setCell] using hb, fun i x hx => hst.2.cell (hc i x hx) (by simpa using hne)⟩⟩
  by_cases e : j = k
  · subst e
    exact ⟨A, c, List.getElem?_set_self (by omega), keep hs hA, hA⟩
  · obtain ⟨A', c', q1, q2, q3⟩ := h2 j (by omega)
    exact ⟨A', c', (List.getElem?_set_ne (fun q => e q.symm)).trans q1, keep q2 q3, q3⟩
theorem Hv.sf {B : Nat} {w : World} {g N : Nat} {f : Nat → List Int} (h : Hv B w g N N f) : Sf w (some ⟨g, 0, none⟩) N N f := by
  obtain ⟨vs, h1, h2⟩ := h.ex
  refine ⟨Nat.le_refl _, fun _ => ⟨g, 0, rfl, h.lt.2, fun j hj => ?_⟩⟩
  obtain ⟨A, c, q1, q2, _⟩ := h2 j hj
  exact ⟨A, c, by rw [Nat.zero_add]; exact (World.ownsRow.cellAt h1 j (by omega)).trans q1, q2⟩
theorem Sl.base {w : World} {A : Option Addr} {c : Nat} {xs : List Int} (h : Sl w A c xs) : ∀ ad, A = some ad → xs ≠ [] → ad.block < w.heap.size := fun ad e hn => by
  obtain ⟨b, off, rfl, hb, _⟩ := h.rd ad e hn
  exact hb

set_option maxHeartbeats 2000000 in
theorem received_any (A : Option Addr) (c N i : Nat) (f : Nat → Nat → List Int) (hN : N ≤ 13) (hi : i < N) (w : World) (h : S2 w A c N N f) :
    Calls Try.prog 27 #[.int .i64 ((i : Int) + 1), .slice A N c] w fun e w' => ∃ g, e = .returned (.slice (some ⟨g, 0, none⟩) N N) ∧ Sf w' (some ⟨g, 0, none⟩) N N (fun j => f j i) ∧ Below w.heap.size w w' := by
  obtain ⟨i0, hi0, hz0, hz1, hz2⟩ := info_parts info_sl
  have hB8 : Hid (i0.bytes * N ≤ 281474976710656) := Lib.hid (by rw [hz2]; omega)
  have hN' : (N : Int) ≤ 13 := by omega
  have hiN : (i : Int) < N := by omega
  go_enter Try.func27, Try.ntmps27
  go_wp2_with (at_make; refine wpList_make_full _ rfl _ _ 27 rfl w.heap.size 42 i0 (.slice none 0 0) 1 Try.underlying27 hi0 hz0 hz1 .i64 .i64 _ _ N rfl rfl (by omega) (by omega) hB8.out (by simp only [maxLen]; omega) (Nat.le_refl _) ?_; intro w1 hown1 hgrow1)
  have hb1 : Below w.heap.size w w1 := (Below.refl _ w).grown hgrow1 (Nat.le_refl _) (fun k e => by cases e)
  have hM1 : Hid (Hv w.heap.size w1 w.heap.size N 0 (fun j => f j i)) := Lib.hid ⟨_, hown1, fun j hj => absurd hj (Nat.not_lt_zero _)⟩
  clear hown1 hgrow1
  go_loopw [13] (fun q wr => ∃ k : Nat, k ≤ N ∧ q = .int .i64 k ∧ Hid (Hv w.heap.size wr w.heap.size N k (fun j => f j i)) ∧ Below w.heap.size w wr) (fun q _ => N - (intOf q).toNat)
  case atStart => exact ⟨0, Nat.zero_le _, rfl, hM1, hb1⟩
  case round =>
    clear hM1 hb1
    obtain ⟨k, hk, rfl, hM, hB⟩ := hrel
    by_cases hlt : k < N
    · have hkN : (k : Int) < N := by omega
      obtain ⟨b, off, A', c', rfl, hbl, hcell0, hsf0⟩ := h.at_ hlt
      have hcell := (hB.cell (p := ⟨b, off + k, none⟩) hbl).trans hcell0
      obtain ⟨b2, off2, A2, c2, rfl, hbl2, hcell2', hsl0⟩ := hsf0.at_ hi
      have hcell2 := (hB.cell (p := ⟨b2, off2 + i, none⟩) hbl2).trans hcell2'
      have hsz := hB.size
      have hM2 := hM.out
      obtain ⟨v0, hu2⟩ := hM2.head hlt
      have hfz2 := hM2.frozen k
      have HP := Lib.hid (hM2.next hlt (A := A2) (c := c2) (hsl0.next hB) hsl0.base)
      have HB := Lib.hid (hB.setCell (p := ⟨w.heap.size, k, none⟩) (Nat.le_refl _) (.slice A2 (f k i).length c2))
      clear hM2 hM hsl0 hsf0 hcell0 hcell2' hB
      go_wp2
      go_roundw
      case rel => exact ⟨k + 1, by omega, by simp, HP, HB.out⟩
      case measure => simp [intOf]; omega
    · obtain rfl : k = N := by omega
      go_wp2
      go_ret
      exact ⟨_, rfl, hM.out.sf, hB⟩
end Go.Proofs.Ytbhphamfkhccpaa
