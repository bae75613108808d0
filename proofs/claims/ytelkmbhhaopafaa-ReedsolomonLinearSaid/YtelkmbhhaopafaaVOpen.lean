/- Arguments of layer 8's laws: a byte, a slice of words with its bound, the structs Ask and Made; they read behind the call as before where only new memory was made. No conditions. -/
import Derived.Test.YtelkmbhhaopafaaMC
import Derived.Test.YtelkmbhhaopafaaME
import Derived.OpenShut
import Derived.Deep.Slices
namespace Go.Proofs.Ytelkmbhhaopafaa
set_option maxRecDepth 100000
open Go.ChangeShapes Go.WideShapes Go.ChangeAt Go.RowKit Go.Joins Go.Deep Go.WideElems PolyMath MatMath

theorem cells_ask8 : Try.prog.cellsOf 25 = 4 := by kernel_rfl
theorem cells_made8 : Try.prog.cellsOf 42 = 4 := by kernel_rfl
theorem cells_two : Try.prog.cellsOf 64 = 2 := by kernel_rfl
theorem bounds_i {a : Int} (h : (Lit.int .i64 a).wf = true) : -9223372036854775808 ≤ a ∧ a ≤ 9223372036854775807 := by
  have e1 : IntKind.i64.min = -9223372036854775808 := rfl
  have e2 : IntKind.i64.max = 9223372036854775807 := rfl
  simp only [Lit.wf, Bool.and_eq_true, decide_eq_true_eq] at h
  omega
theorem bounds_b {a : Int} (h : (Lit.int .u8 a).wf = true) : 0 ≤ a ∧ a ≤ 255 := by
  have e1 : IntKind.u8.min = 0 := rfl
  have e2 : IntKind.u8.max = 255 := rfl
  simp only [Lit.wf, Bool.and_eq_true, decide_eq_true_eq] at h
  omega
section
variable {H : Type} {enc : TypeId × Value → H}
/-- A slice of pairs of words that came in. -/
theorem open_two {W : World} {v : Value} {fuel : Nat} {y : DataW H × List MemPlace} (hf : DataW.trod enc Try.prog W 0 (fun _ => true) true fuel 40 [v] = some y) (hlt : ∀ x ∈ y.2, x.block < W.heap.size) :
    ∃ A ps c, v = .slice A ps.length c ∧ Pt W A c ps ∧ PWords ps := by
  rcases open_slice Try.underlying40 hf with ⟨hcs, hx⟩ | ⟨a, len, cap, m, n, D, Pl, hcs, _, hl, _, hm, hx, hc⟩
  · injection hcs with hcs _
    subst hcs
    exact ⟨none, [], 0, rfl, Pt.nothing _, fun x hx => (by cases hx)⟩
  · injection hcs with hcs _
    subst hcs hx
    simp only [if_true] at hm
    rw [cells_two] at hc hlt
    have each : ∀ i, ∃ q : Int × Int, i < len → W.cell? (a.add (i * 2)) = some (.int .u64 q.1) ∧ W.cell? ((a.add (i * 2)).add 1) = some (.int .u64 q.2) ∧ (0 ≤ q.1 ∧ q.1 ≤ 18446744073709551615) ∧ 0 ≤ q.2 ∧ q.2 ≤ 18446744073709551615 := by
      intro i
      by_cases hi : i < len
      · obtain ⟨cs', h1, h2⟩ := hc i (by omega)
        obtain ⟨_, hlen, hcell⟩ := World.cells?_some h1
        obtain ⟨xs, k, _, _, _, hxl, hfa⟩ := DataW.trod_array Try.underlying64 h2
        match xs, hxl, cs', hlen with
        | [y0, y1], _, [v0, v1], _ =>
          have g0 := hfa 0 (by omega)
          have g1 := hfa 1 (by omega)
          rw [cells_u64] at g0 g1
          simp at g0 g1
          obtain ⟨x0, e0, _, w0⟩ := DataW.trod_int Try.underlying22 g0
          obtain ⟨x1, e1, _, w1⟩ := DataW.trod_int Try.underlying22 g1
          simp at e0 e1
          have c0 := hcell 0 (by omega)
          have c1 := hcell 1 (by omega)
          simp at c0 c1
          refine ⟨(x0, x1), fun _ => ⟨?_, ?_, bounds_w w0, bounds_w w1⟩⟩
          · rw [e0] at c0; simpa [Addr.add] using c0
          · rw [e1] at c1; exact c1
      · exact ⟨(0, 0), fun h => absurd h hi⟩
    obtain ⟨q, hq⟩ := Classical.axiomOfChoice each
    have hlen : ((List.range len).map q).length = len := by simp
    refine ⟨some a, (List.range len).map q, cap, by rw [hlen], ⟨by omega, (fun h => by cases h), fun ad hA hn => ?_⟩, fun x hx => ?_⟩
    · injection hA with hA
      subst hA
      have hpos : 0 < len := by rw [← hlen]; exact List.length_pos_iff.2 hn
      obtain ⟨b, off, spot⟩ := a
      have hspot : spot = none := by simpa [Addr.add] using World.cell?_spot (hq 0 hpos).1
      subst hspot
      refine ⟨b, off, rfl, hlt (.cell b off) (List.mem_append_left _ (MemPlace.mem_row.2 ⟨0, by omega, by simp⟩)), fun j x hx => ?_⟩
      rw [List.getElem?_map] at hx
      obtain ⟨i, hi, rfl⟩ := Option.map_eq_some_iff.1 hx
      have hij := List.getElem?_eq_some_iff.1 hi
      obtain ⟨hj, e⟩ := hij
      rw [List.getElem_range] at e
      subst e
      rw [List.length_range] at hj
      have h1 := hq j hj
      rw [add_plain, add_plain] at h1
      exact ⟨h1.1, h1.2.1⟩
    · obtain ⟨i, hi, rfl⟩ := List.mem_map.1 hx
      exact (hq i (List.mem_range.1 hi)).2.2
theorem arg_u8 {W : World} {base : Nat} {v : Value} {d : DataW H} {p : List MemPlace} (hval : Value.okWide Try.prog W .any base 5 v) (h : DataW.Trod enc Try.prog W 0 (fun _ => true) true 5 v d p) : ∃ x : Nat, v = .int .u8 x ∧ x ≤ 255 := by
  obtain ⟨n, rfl, rfl, rfl, wf⟩ := open_int Try.underlying5 hval h
  have := bounds_b wf
  exact ⟨n.toNat, by rw [show ((n.toNat : Nat) : Int) = n by omega], by omega⟩
theorem arg_ask8 {W : World} {base : Nat} {v : Value} {d : DataW H} {p : List MemPlace} (hval : Value.okWide Try.prog W .any base 25 v) (h : DataW.Trod enc Try.prog W 0 (fun _ => true) true 25 v d p) (hlt : ∀ x ∈ p, x.block < W.heap.size) :
    ∃ (P : Int) (B : Option Addr) (ps : List (Int × Int)) (cb : Nat) (deg wr : Int), v = .agg #[.int .u64 P, .slice B ps.length cb, .int .i64 deg, .int .i64 wr] ∧ Wd P ∧ Pt W B cb ps ∧ PWords ps := by
  obtain ⟨v0, v1, v2, v3, y0, y1, y2, y3, n, rfl, _, rfl, h0, h1, h2, h3⟩ := open_agg4 Try.underlying25 (by kernel_rfl) cells_ask8 hval h
  obtain ⟨a0, e0, rfl, w0⟩ := DataW.trod_int Try.underlying22 h0
  obtain ⟨a2, e2, rfl, w2⟩ := DataW.trod_int Try.underlying3 h2
  obtain ⟨a3, e3, rfl, w3⟩ := DataW.trod_int Try.underlying3 h3
  obtain ⟨B, ps, cb, rfl, sp, wp⟩ := open_pt Try.underlying23 Try.underlying49 cells_pt rfl rfl cells_u64 cells_u64 Try.underlying22 Try.underlying22 h1 (fun x hx => hlt x (by simp [hx]))
  simp at e0 e2 e3
  subst e0 e2 e3
  exact ⟨a0, B, ps, cb, a2, a3, rfl, bounds_w w0, sp, wp⟩
theorem arg_made8 {W : World} {base : Nat} {v : Value} {d : DataW H} {p : List MemPlace} (hval : Value.okWide Try.prog W .any base 42 v) (h : DataW.Trod enc Try.prog W 0 (fun _ => true) true 42 v d p) (hlt : ∀ x ∈ p, x.block < W.heap.size) :
    ∃ (P : Int) (A : Option Addr) (f : List Int) (c : Nat) (n : Nat) (B : Option Addr) (ch : List (Int × Int)) (cb : Nat), v = .agg #[.int .u64 P, .slice A f.length c, .int .u8 n, .slice B ch.length cb] ∧ Wd P ∧ Sl W A c f ∧ Words f ∧ n ≤ 255 ∧ Pt W B cb ch ∧ PWords ch := by
  obtain ⟨v0, v1, v2, v3, y0, y1, y2, y3, n, rfl, _, rfl, h0, h1, h2, h3⟩ := open_agg4 Try.underlying42 (by kernel_rfl) cells_made8 hval h
  obtain ⟨a0, e0, rfl, w0⟩ := DataW.trod_int Try.underlying22 h0
  obtain ⟨a2, e2, rfl, w2⟩ := DataW.trod_int Try.underlying5 h2
  obtain ⟨A, f, c, rfl, sf, wf⟩ := open_sl h1 (fun x hx => hlt x (by simp [hx]))
  obtain ⟨B, ch, cb, rfl, sp, wp⟩ := open_two h3 (fun x hx => hlt x (by simp [hx]))
  simp at e0 e2
  subst e0 e2
  have b2 := bounds_b w2
  exact ⟨a0, A, f, c, a2.toNat, B, ch, cb, by rw [show ((a2.toNat : Nat) : Int) = a2 by omega], bounds_w w0, sf, wf, by omega, sp, wp⟩
theorem stay_u8 {W W' : World} {v : Value} {d : DataW H} {p : List MemPlace} (h : DataW.Trod enc Try.prog W 0 (fun _ => true) true 5 v d p) (hb : Below W.heap.size W W') (hlt : ∀ x ∈ p, x.block < W.heap.size) (sp : Nat → Bool) (hsp : ∀ x ∈ p, sp x.block = true) :
    DataW.Trod enc Try.prog W' 0 sp true 5 v d p :=
  WideElems.Trod_stays laidOut (by kernel_rfl) (of_decide_eq_true (by kernel_rfl)) h (fun x hx => hb.same (hlt x hx)) hsp
theorem stay_ask8 {W W' : World} {v : Value} {d : DataW H} {p : List MemPlace} (h : DataW.Trod enc Try.prog W 0 (fun _ => true) true 25 v d p) (hb : Below W.heap.size W W') (hlt : ∀ x ∈ p, x.block < W.heap.size) (sp : Nat → Bool) (hsp : ∀ x ∈ p, sp x.block = true) :
    DataW.Trod enc Try.prog W' 0 sp true 25 v d p :=
  WideElems.Trod_stays laidOut (by kernel_rfl) (of_decide_eq_true (by kernel_rfl)) h (fun x hx => hb.same (hlt x hx)) hsp
theorem stay_made8 {W W' : World} {v : Value} {d : DataW H} {p : List MemPlace} (h : DataW.Trod enc Try.prog W 0 (fun _ => true) true 42 v d p) (hb : Below W.heap.size W W') (hlt : ∀ x ∈ p, x.block < W.heap.size) (sp : Nat → Bool) (hsp : ∀ x ∈ p, sp x.block = true) :
    DataW.Trod enc Try.prog W' 0 sp true 42 v d p :=
  WideElems.Trod_stays laidOut (by kernel_rfl) (of_decide_eq_true (by kernel_rfl)) h (fun x hx => hb.same (hlt x hx)) hsp
end
end Go.Proofs.Ytelkmbhhaopafaa
