/- Take of the reference of layer 11: a call that takes n words, and one that fails. Conditions: at most 1000 words. -/
import Derived.Test.YtcogiippiaebaaaATake
import Derived.Deep.RegionHeld3
import Derived.Deep.AppendLies
import Derived.Deep.Upon
import Derived.IntWalk
namespace Go.Proofs.Ytcogiippiaebaaa
set_option maxRecDepth 100000
open Go.RowKit

section
variable {P : Program} (w : World)
/-- A step of a region that draws its order: append to a row of one's own, of as many elements as one likes. -/
theorem step_append_own {ops : Array Oper} {o : Oper} {a : Act} {K : Act → World → Prop} {Q : Exit → Act → World → Prop} {E : Prop} (hgd : o.guard = none) (s x : Operand) (t : TypeId)
    (ho : o.op = .call { callee := .builtin .append, args := #[s, x], argTypes := #[t, t] })
    (base : Nat) (e : TypeId) (i : TypeInfo) (z : Value) (size bytes : Nat) (ht : P.underlying t = some (.slice e)) (hi : P.info? e = some i) (hz : i.zero = some z)
    (hsize : i.size = size) (hby : i.bytes = bytes) (hzs : z.cells.size = size) (hsz : 0 < size)
    (v : Value) (n : Nat) (xs : List Value) (hs : a.eval s = v) (hown : w.ownsRow base e size v n xs)
    (ad : Addr) (m c : Nat) (news : List Value) (hx : a.eval x = .slice (some ad) m c) (hl : news.length = m * size) (hnews : ∀ j u, news[j]? = some u → w.cell? (ad.add j) = some u) (h1 : ∀ u ∈ news, u.oneCell' = true)
    (h63 : n + m ≤ maxLen) (hbytes : (n + m) * bytes ≤ 140737488355328) (hbase : base ≤ w.heap.size)
    (h : ∀ v' w', w'.ownsRow base e size v' (n + m) (xs ++ news) → w.grownBy w' v.ownBlock → K (a.put o.dst v') w') :
    if Region.wanted o (yielded ops a.tmps) = true then Oper.wp P o a w K Q else E := by
  have hw : Region.wanted o (yielded ops a.tmps) = true := by simp [Region.wanted, hgd]
  rw [if_pos hw]
  exact wp_append_own w s x t ho base e i z size bytes ht hi hz hsize hby hzs hsz v n xs hs hown ad m c news hx hl hnews h1 h63 hbytes hbase fun v' w' h2 h3 _ => h v' w' h2 h3
/-- .. append of nothing. -/
theorem step_append_nothing {ops : Array Oper} {o : Oper} {a : Act} {K : Act → World → Prop} {Q : Exit → Act → World → Prop} {E : Prop} (hgd : o.guard = none) (s x : Operand) (t : TypeId)
    (ho : o.op = .call { callee := .builtin .append, args := #[s, x], argTypes := #[t, t] }) (e : TypeId) (i : TypeInfo) (ht : P.underlying t = some (.slice e)) (hi : P.info? e = some i)
    (b : Option Addr) (m c : Nat) (hs : a.eval s = .slice b 0 0) (hx : a.eval x = .slice none m c) (hm : m = 0) (h : K (a.put o.dst (.slice b 0 0)) w) :
    if Region.wanted o (yielded ops a.tmps) = true then Oper.wp P o a w K Q else E := by
  subst hm
  have hw : Region.wanted o (yielded ops a.tmps) = true := by simp [Region.wanted, hgd]
  rw [if_pos hw]
  have hr := run_append_nothing (P := P) w t t o.type e i ht hi b 0 0 (Nat.le_refl _) (.slice none 0 c) (Src.ofNil w ht c)
  unfold Oper.wp execOp
  simp only [ho, resolve, invoke, builtin, Sem.run_bind, Sem.run_pure, Result.andThen_ok, List.map_toArray, List.map_cons, List.map_nil, hs, hx, hr]
  exact h
end

set_option maxHeartbeats 1000000 in
theorem rTake_bad (b : Nat) (xs : List Int) (k : Nat) (n : Int) (w : World) (h : Tp 48 w b xs k) (hl : xs.length ≤ 1000) (hn0 : -9223372036854775808 ≤ n) (hn1 : n ≤ 9223372036854775807) (hn : n < 0 ∨ (xs.length : Int) - k < n) :
    Calls Try.prog 12 #[.pointer (some ⟨b, 0, none⟩), .int .i64 n] w fun e w' => e = .returned (.tuple #[.slice none 0 0, .int .i64 10]) ∧ Below w.heap.size w w' := by
  have hr := rRemaining_any b xs k w h hl
  by_cases h0 : n < 0
  · go_enter Try.func12, Try.ntmps12
    go_wp2
    go_ret2
    exact ⟨rfl, Below.refl _ _⟩
  · have hn' : (xs.length : Int) - k < n := by omega
    have hz : ¬ n < 0 := h0
    go_enter Try.func12, Try.ntmps12
    go_wp2_with (go_at_call 15; refine hr.mono ?_; rintro e w1 ⟨rfl, hb⟩)
    go_ret2
    exact ⟨rfl, hb⟩

theorem Sl.newsD {w : World} {g off c : Nat} {xs : List Int} (h : Sl w (some ⟨g, off, none⟩) c xs) (hx : xs ≠ []) (k n : Nat) :
    ∀ j u, (((xs.drop k).take n).map (Value.int .u64))[j]? = some u → ((w.alloc (.cells #[] 37)).drew).cell? ((⟨g, off + k, none⟩ : Addr).add j) = some u := by
  intro j u hj
  obtain ⟨b', off', e, hb, hc⟩ := (h.push (.cells #[] 37)).rd _ rfl hx
  injection e with e1 e2 _
  subst e1 e2
  rw [List.getElem?_map] at hj
  obtain ⟨x, hx', rfl⟩ := Option.map_eq_some_iff.1 hj
  rw [List.getElem?_take] at hx'
  split at hx'
  · rw [List.getElem?_drop] at hx'
    rw [Addr.add_lit, Nat.add_assoc]
    exact hc (k + j) x hx'
  · cases hx'
theorem lit_drew (w : World) : Hid (((w.alloc (.cells #[] 37)).drew).ownsRow w.heap.size 37 1 (.slice (some ⟨w.heap.size, 0, none⟩) 0 0) 0 []) := own_lit0 w

/-- What a call of Take leaves, behind its store. -/
theorem put_row {T b k n : Nat} {w w1 w2 : World} {A B : Option Addr} {c d : Nat} {xs ys : List Int} (h1 : w1.heap[b]? = some (.cells #[.slice A xs.length c, .int .i64 k] T (0, 0))) (h2 : Sl w1 A c xs) (h3 : Ty w1 A) (hT : T ≠ 37) (hb : Below w.heap.size w w1) (hB : Below w1.heap.size w1 w2)
    (hs : Sl w2 B d ys) (ht : Ty w2 B) (hk : k + n ≤ xs.length) :
    Sl (w2.setCell ⟨b, 1, none⟩ (.int .i64 (k + n))) B d ys ∧ Ty (w2.setCell ⟨b, 1, none⟩ (.int .i64 (k + n))) B ∧ Tp T (w2.setCell ⟨b, 1, none⟩ (.int .i64 (k + n))) b xs (k + n) ∧ Bex b w (w2.setCell ⟨b, 1, none⟩ (.int .i64 (k + n))) := by
  have h4 : w2.heap[b]? = some (.cells #[.slice A xs.length c, .int .i64 k] T (0, 0)) := (hB.block b (heap_lt h1)).trans h1
  obtain ⟨p1, p2, p3⟩ := Tp.put (k' := k + n) h4 (h2.next hB) (h3.next hB) hT hk
  obtain ⟨q1, q2⟩ := hs.ex ht ((Bex.refl b w2).setCell 1 (.int .i64 ((k + n : Nat) : Int))) h4 hT
  exact ⟨q1, q2, p1, ((Bex.of hb).next hB).setCell 1 _⟩

set_option maxHeartbeats 2000000 in
theorem rTake_some (b : Nat) (xs : List Int) (k n : Nat) (w : World) (h : Tp 48 w b xs k) (hl : xs.length ≤ 1000) (hn : k + n ≤ xs.length) (h0 : 0 < n) :
    Calls Try.prog 12 #[.pointer (some ⟨b, 0, none⟩), .int .i64 n] w fun e w' => Taken 48 b xs k n w e w' := by
  obtain ⟨i0, hi, hz0, hz1, hz2⟩ := info_parts info_u64
  have hr := rRemaining_any b xs k w h hl
  have hn' : (n : Int) ≤ (xs.length : Int) - k := by omega
  have hg : (0 : Int) ≤ n := by omega
  have hk := h.le
  go_enter Try.func12, Try.ntmps12
  go_wp2_with fail
  refine hr.mono ?_
  rintro e w1 ⟨rfl, hb⟩
  obtain ⟨⟨A, c, h1, h2, h3⟩, _⟩ := h.next hb
  obtain ⟨g, off, x, rfl, _, _, _⟩ := h2.at_ (k := 0) (by omega)
  have c0 := cell_at h1 0
  have c1 := cell_at h1 1
  simp at c0 c1
  have hlt := heap_lt h1
  have hc := h2.cap
  have hcc : (k : Int) + n ≤ c := by omega
  have hck : ¬ c = k := by omega
  have hwr : IntKind.i64.wrap ((k : Int) + n) = (k : Int) + n := IntWalk.i64_in _ (by omega)
  have hlen : (((k : Int) + n).toNat) = k + n := by omega
  have hpos : (0 : Int) ≤ (k : Int) + n := by omega
  have hne : xs ≠ [] := fun e => by rw [e] at hn; simp at hn; omega
  have hnw := Lib.hid (h2.newsD hne k n)
  have hln : Hid (((((xs.drop k).take n).map (Value.int .u64))).length = n * 1) := Lib.hid (by rw [List.length_map, List.length_take, List.length_drop]; omega)
  have hon := Lib.hid (one_cells ((xs.drop k).take n))
  have hlitD := lit_drew w1
  have hBd := ((Below.refl w1.heap.size w1).alloc (Nat.le_refl _) (.cells #[] 37)).drew
  have k0 := (hBd.cell (p := ⟨b, 0, none⟩) hlt).trans c0
  have k1 := (hBd.cell (p := ⟨b, 1, none⟩) hlt).trans c1
  clear hBd
  replace hne := Lib.hid hne
  replace h1 := Lib.hid h1
  replace h2 := Lib.hid h2
  replace h3 := Lib.hid h3
  go_wp2_with fail
  go_region_held3 (fun w' => w'.cell? ⟨b, 0, none⟩ = some (.slice (some ⟨g, off, none⟩) xs.length c) ∧ w'.cell? ⟨b, 1, none⟩ = some (.int .i64 k))
    (first | (refine ⟨?_, ?_⟩ <;> assumption) | exact ⟨k0, k1⟩)
    (first | (refine step_append_own _ (by rfl) _ _ _ (by rfl) w1.heap.size 37 i0 (.int .u64 0) 1 8 Try.underlying22 hi hz0 hz1 hz2 rfl (by decide) _ _ _ (by rfl) hlitD.out ⟨g, off + k, none⟩ _ _ (((xs.drop k).take n).map (Value.int .u64)) (by rfl) hln.out hnw.out hon.out (by simp only [maxLen]; omega) (by omega) (by first | omega | (simp; done) | (simp; omega)) ?_; intro v2 w2 hown hgrow; have hB : Below w1.heap.size w1 w2 := (((Below.refl w1.heap.size w1).alloc (Nat.le_refl _) (.cells #[] 37)).drew).grown hgrow (by first | omega | (simp; done) | (simp; omega)) (fun q e => (World.ownsRow.lt hlitD.out q e).1); have e0 := (hB.cell (p := ⟨b, 0, none⟩) hlt).trans c0; have e1 := (hB.cell (p := ⟨b, 1, none⟩) hlt).trans c1))
  all_goals
    have hown2 : w2.ownsRow w1.heap.size 37 1 v2 n (((xs.drop k).take n).map (Value.int .u64)) := by simpa using hown
    have hfr := frozen_of_row w2 b 1 _ _ ((hB.block b hlt).trans h1.out)
    have hlt2 := Nat.lt_of_lt_of_le hlt hB.size
    obtain ⟨B, d, rfl, hs⟩ := own_form hown2
    have ht := Ty.of_own hown2
    have hP := Lib.hid (put_row h1.out h2.out h3.out apart48 hb hB hs ht hn)
    have hL : Hid (((xs.drop k).take n).length = n) := Lib.hid (by rw [List.length_take, List.length_drop]; omega)
    clear hown hown2 hgrow hs ht
    go_wp2_with fail
    go_ret2
    obtain ⟨q1, q2, q3, q4⟩ := hP.out
    exact ⟨B, d, congrArg (fun m => Ending.returned (.tuple #[.slice B m d, .int .i64 0])) hL.out, q1, q2, q3, q4⟩

set_option maxHeartbeats 2000000 in
theorem rTake_none (b : Nat) (xs : List Int) (k : Nat) (w : World) (h : Tp 48 w b xs k) (hl : xs.length ≤ 1000) :
    Calls Try.prog 12 #[.pointer (some ⟨b, 0, none⟩), .int .i64 0] w fun e w' => Taken 48 b xs k 0 w e w' := by
  obtain ⟨i0, hi, hz0, hz1, hz2⟩ := info_parts info_u64
  have hr := rRemaining_any b xs k w h hl
  have hk := h.le
  have hk' : (0 : Int) ≤ (xs.length : Int) - k := by omega
  go_enter Try.func12, Try.ntmps12
  go_wp2_with fail
  refine hr.mono ?_
  rintro e w1 ⟨rfl, hb⟩
  obtain ⟨⟨A, c, h1, h2, h3⟩, _⟩ := h.next hb
  have c0 := cell_at h1 0
  have c1 := cell_at h1 1
  simp at c0 c1
  have hlt := heap_lt h1
  have hc := h2.cap
  have hcc : (k : Int) ≤ c := by omega
  have hz : Hid ((0 : Nat) * 1 = 0) := Lib.hid rfl
  have hlitD := lit_drew w1
  have hBd := ((Below.refl w1.heap.size w1).alloc (Nat.le_refl _) (.cells #[] 37)).drew
  have k0 := (hBd.cell (p := ⟨b, 0, none⟩) hlt).trans c0
  have k1 := (hBd.cell (p := ⟨b, 1, none⟩) hlt).trans c1
  clear hBd
  replace h1 := Lib.hid h1
  cases A with
  | none =>
    obtain ⟨rfl, rfl⟩ := h2.empty rfl
    obtain rfl : k = 0 := by simpa using hk
    replace h2 := Lib.hid h2
    replace h3 := Lib.hid h3
    have hwr : IntKind.i64.wrap 0 = 0 := by decide
    go_wp2_with fail
    go_region_held3 (fun w' => w'.cell? ⟨b, 0, none⟩ = some (.slice none 0 0) ∧ w'.cell? ⟨b, 1, none⟩ = some (.int .i64 0))
      (first | (refine ⟨?_, ?_⟩ <;> assumption) | exact ⟨k0, k1⟩)
      (refine step_append_nothing _ (by rfl) _ _ _ (by rfl) 37 i0 Try.underlying22 hi _ _ _ (by rfl) (by rfl) rfl ?_)
    all_goals
      have hs := Lib.hid (Sl.blank ((w1.alloc (.cells #[] 37)).drew) ⟨w1.heap.size, 0, none⟩ 0)
      have ht : Hid (Ty ((w1.alloc (.cells #[] 37)).drew) (some ⟨w1.heap.size, 0, none⟩)) := Lib.hid (Ty.of_own hlitD.out)
      have hB := ((Below.refl w1.heap.size w1).alloc (Nat.le_refl _) (.cells #[] 37)).drew
      clear hlitD
      generalize (w1.alloc (.cells #[] 37)).drew = W2 at *
      have hfr := frozen_of_row W2 b 1 _ _ ((hB.block b hlt).trans h1.out)
      have hP := Lib.hid (put_row (n := 0) h1.out h2.out h3.out apart48 hb hB hs.out ht.out hk)
      have hlt2 := Nat.lt_of_lt_of_le hlt hB.size
      go_wp2_with fail
      go_ret2
      obtain ⟨q1, q2, q3, q4⟩ := hP.out
      exact ⟨_, _, rfl, q1, q2, q3, q4⟩
  | some ad =>
    have hwr : IntKind.i64.wrap (k : Int) = (k : Int) := IntWalk.i64_in _ (by omega)
    replace h2 := Lib.hid h2
    replace h3 := Lib.hid h3
    by_cases hck : c = k
    · obtain rfl : k = c := hck.symm
      go_wp2_with fail
      go_region_held3 (fun w' => w'.cell? ⟨b, 0, none⟩ = some (.slice (some ad) xs.length k) ∧ w'.cell? ⟨b, 1, none⟩ = some (.int .i64 k))
        (first | (refine ⟨?_, ?_⟩ <;> assumption) | exact ⟨k0, k1⟩)
        (first | (refine step_append_own _ (by rfl) _ _ _ (by rfl) w1.heap.size 37 i0 (.int .u64 0) 1 8 Try.underlying22 hi hz0 hz1 hz2 rfl (by decide) _ _ _ (by rfl) hlitD.out ad 0 _ [] (by rfl) rfl (fun j u h => by simp at h) (fun u h => by simp at h) (by simp only [maxLen]; omega) (by omega) (by first | omega | (simp; done) | (simp; omega)) ?_; intro v2 w2 hown hgrow; have hB : Below w1.heap.size w1 w2 := (((Below.refl w1.heap.size w1).alloc (Nat.le_refl _) (.cells #[] 37)).drew).grown hgrow (by first | omega | (simp; done) | (simp; omega)) (fun q e => (World.ownsRow.lt hlitD.out q e).1); have e0 := (hB.cell (p := ⟨b, 0, none⟩) hlt).trans c0; have e1 := (hB.cell (p := ⟨b, 1, none⟩) hlt).trans c1))
      all_goals
        have hown2 : w2.ownsRow w1.heap.size 37 1 v2 0 (([] : List Int).map (Value.int .u64)) := by simpa using hown
        have hfr := frozen_of_row w2 b 1 _ _ ((hB.block b hlt).trans h1.out)
        have hlt2 := Nat.lt_of_lt_of_le hlt hB.size
        obtain ⟨B, d, rfl, hs⟩ := own_form hown2
        have ht := Ty.of_own hown2
        have hP := Lib.hid (put_row (n := 0) h1.out h2.out h3.out apart48 hb hB hs ht hk)
        clear hown hown2 hgrow hs ht
        go_wp2_with fail
        go_ret2
        obtain ⟨q1, q2, q3, q4⟩ := hP.out
        exact ⟨B, d, rfl, q1, q2, q3, q4⟩
    · have hck' : ¬ c = k := hck
      go_wp2_with fail
      go_region_held3 (fun w' => w'.cell? ⟨b, 0, none⟩ = some (.slice (some ad) xs.length c) ∧ w'.cell? ⟨b, 1, none⟩ = some (.int .i64 k))
        (first | (refine ⟨?_, ?_⟩ <;> assumption) | exact ⟨k0, k1⟩)
        (first | (refine step_append_own _ (by rfl) _ _ _ (by rfl) w1.heap.size 37 i0 (.int .u64 0) 1 8 Try.underlying22 hi hz0 hz1 hz2 rfl (by decide) _ _ _ (by rfl) hlitD.out (ad.add k) 0 _ [] (by rfl) rfl (fun j u h => by simp at h) (fun u h => by simp at h) (by simp only [maxLen]; omega) (by omega) (by first | omega | (simp; done) | (simp; omega)) ?_; intro v2 w2 hown hgrow; have hB : Below w1.heap.size w1 w2 := (((Below.refl w1.heap.size w1).alloc (Nat.le_refl _) (.cells #[] 37)).drew).grown hgrow (by first | omega | (simp; done) | (simp; omega)) (fun q e => (World.ownsRow.lt hlitD.out q e).1); have e0 := (hB.cell (p := ⟨b, 0, none⟩) hlt).trans c0; have e1 := (hB.cell (p := ⟨b, 1, none⟩) hlt).trans c1))
      all_goals
        have hown2 : w2.ownsRow w1.heap.size 37 1 v2 0 (([] : List Int).map (Value.int .u64)) := by simpa using hown
        have hfr := frozen_of_row w2 b 1 _ _ ((hB.block b hlt).trans h1.out)
        have hlt2 := Nat.lt_of_lt_of_le hlt hB.size
        obtain ⟨B, d, rfl, hs⟩ := own_form hown2
        have ht := Ty.of_own hown2
        have hP := Lib.hid (put_row (n := 0) h1.out h2.out h3.out apart48 hb hB hs ht hk)
        clear hown hown2 hgrow hs ht
        go_wp2_with fail
        go_ret2
        obtain ⟨q1, q2, q3, q4⟩ := hP.out
        exact ⟨B, d, rfl, q1, q2, q3, q4⟩

theorem rTake_ok (b : Nat) (xs : List Int) (k n : Nat) (w : World) (h : Tp 48 w b xs k) (hl : xs.length ≤ 1000) (hn : k + n ≤ xs.length) :
    Calls Try.prog 12 #[.pointer (some ⟨b, 0, none⟩), .int .i64 n] w fun e w' => Taken 48 b xs k n w e w' := by
  cases n with
  | zero => exact rTake_none b xs k w h hl
  | succ m => exact rTake_some b xs k (m + 1) w h hl hn (Nat.succ_pos m)

end Go.Proofs.Ytcogiippiaebaaa
