/- Arguments of layer 5's laws: a word, a slice of words, a slice of points, a point, the struct Ask; they read behind the call as before where only new memory was made. No conditions. -/
import Derived.Test.YtpjgpfjepcidgaaIAwake
namespace Go.Proofs.Ytpjgpfjepcidgaa
open Go.ChangeShapes Go.WideShapes Go.ChangeAt Go.RowKit Go.Joins Go.Deep Go.WideElems PolyMath

theorem cells_pt : Try.prog.cellsOf 34 = 2 := by kernel_rfl
theorem cells_ask : Try.prog.cellsOf 43 = 4 := by kernel_rfl

/-- A word. -/
def Wd (x : Int) : Prop := 0 ≤ x ∧ x ≤ 18446744073709551615

section
variable {H : Type} {enc : TypeId × Value → H}
theorem arg_word {W : World} {base : Nat} {v : Value} {d : DataW H} {p : List MemPlace} (hval : Value.okWide Try.prog W .any base 22 v) (h : DataW.Trod enc Try.prog W 0 (fun _ => true) true 22 v d p) : ∃ x, v = .int .u64 x ∧ Wd x := by
  obtain ⟨n, rfl, rfl, rfl, wf⟩ := open_int Try.underlying22 hval h
  exact ⟨n, rfl, bounds_w wf⟩
theorem arg_sl {W : World} {base : Nat} {v : Value} {d : DataW H} {p : List MemPlace} (hval : Value.okWide Try.prog W .any base 27 v) (h : DataW.Trod enc Try.prog W 0 (fun _ => true) true 27 v d p) (hlt : ∀ x ∈ p, x.block < W.heap.size) :
    ∃ A xs c, v = .slice A xs.length c ∧ Sl W A c xs ∧ Words xs := by
  obtain ⟨a0, len, cap, rfl⟩ := okWide_slice Try.underlying27 hval
  obtain ⟨fuel, hf⟩ := h
  simp only [Value.cells] at hf
  exact open_sl hf hlt
theorem arg_pt {W : World} {base : Nat} {v : Value} {d : DataW H} {p : List MemPlace} (hval : Value.okWide Try.prog W .any base 23 v) (h : DataW.Trod enc Try.prog W 0 (fun _ => true) true 23 v d p) (hlt : ∀ x ∈ p, x.block < W.heap.size) :
    ∃ A ps c, v = .slice A ps.length c ∧ Pt W A c ps ∧ PWords ps := by
  obtain ⟨a0, len, cap, rfl⟩ := okWide_slice Try.underlying23 hval
  obtain ⟨fuel, hf⟩ := h
  simp only [Value.cells] at hf
  exact open_pt Try.underlying23 Try.underlying34 cells_pt rfl rfl cells_u64 cells_u64 Try.underlying22 Try.underlying22 hf hlt
theorem arg_point {W : World} {base : Nat} {v : Value} {d : DataW H} {p : List MemPlace} (hval : Value.okWide Try.prog W .any base 34 v) (h : DataW.Trod enc Try.prog W 0 (fun _ => true) true 34 v d p) :
    ∃ x y, v = .agg #[.int .u64 x, .int .u64 y] ∧ Wd x ∧ Wd y := by
  obtain ⟨v0, v1, y0, y1, n, rfl, _, _, h0, h1⟩ := open_agg2 Try.underlying34 (by kernel_rfl) cells_pt hval h
  obtain ⟨a0, e0, rfl, w0⟩ := DataW.trod_int Try.underlying22 h0
  obtain ⟨a1, e1, rfl, w1⟩ := DataW.trod_int Try.underlying22 h1
  simp at e0 e1
  subst e0 e1
  exact ⟨a0, a1, rfl, bounds_w w0, bounds_w w1⟩
theorem arg_ask {W : World} {base : Nat} {v : Value} {d : DataW H} {p : List MemPlace} (hval : Value.okWide Try.prog W .any base 43 v) (h : DataW.Trod enc Try.prog W 0 (fun _ => true) true 43 v d p) (hlt : ∀ x ∈ p, x.block < W.heap.size) :
    ∃ P A f cf B xs cx z, v = .agg #[.int .u64 P, .slice A f.length cf, .slice B xs.length cx, .int .u64 z] ∧ Wd P ∧ Wd z ∧ Sl W A cf f ∧ Words f ∧ Sl W B cx xs ∧ Words xs := by
  obtain ⟨v0, v1, v2, v3, y0, y1, y2, y3, n, rfl, _, rfl, h0, h1, h2, h3⟩ := open_agg4 Try.underlying43 (by kernel_rfl) cells_ask hval h
  obtain ⟨a0, e0, rfl, w0⟩ := DataW.trod_int Try.underlying22 h0
  obtain ⟨a3, e3, rfl, w3⟩ := DataW.trod_int Try.underlying22 h3
  obtain ⟨A, xa, ca, rfl, sa, wa⟩ := open_sl h1 (fun x hx => hlt x (by simp [hx]))
  obtain ⟨B, xb, cb, rfl, sb, wb⟩ := open_sl h2 (fun x hx => hlt x (by simp [hx]))
  simp at e0 e3
  subst e0 e3
  exact ⟨a0, A, xa, ca, B, xb, cb, a3, rfl, bounds_w w0, bounds_w w3, sa, wa, sb, wb⟩

theorem stay_word {W W' : World} {v : Value} {d : DataW H} {p : List MemPlace} (h : DataW.Trod enc Try.prog W 0 (fun _ => true) true 22 v d p) (hb : Below W.heap.size W W') (hlt : ∀ x ∈ p, x.block < W.heap.size) (sp : Nat → Bool) (hsp : ∀ x ∈ p, sp x.block = true) :
    DataW.Trod enc Try.prog W' 0 sp true 22 v d p :=
  WideElems.Trod_stays laidOut (by kernel_rfl) (of_decide_eq_true (by kernel_rfl)) h (fun x hx => hb.same (hlt x hx)) hsp
theorem stay_pt {W W' : World} {v : Value} {d : DataW H} {p : List MemPlace} (h : DataW.Trod enc Try.prog W 0 (fun _ => true) true 23 v d p) (hb : Below W.heap.size W W') (hlt : ∀ x ∈ p, x.block < W.heap.size) (sp : Nat → Bool) (hsp : ∀ x ∈ p, sp x.block = true) :
    DataW.Trod enc Try.prog W' 0 sp true 23 v d p :=
  WideElems.Trod_stays laidOut (by kernel_rfl) (of_decide_eq_true (by kernel_rfl)) h (fun x hx => hb.same (hlt x hx)) hsp
theorem stay_point {W W' : World} {v : Value} {d : DataW H} {p : List MemPlace} (h : DataW.Trod enc Try.prog W 0 (fun _ => true) true 34 v d p) (hb : Below W.heap.size W W') (hlt : ∀ x ∈ p, x.block < W.heap.size) (sp : Nat → Bool) (hsp : ∀ x ∈ p, sp x.block = true) :
    DataW.Trod enc Try.prog W' 0 sp true 34 v d p :=
  WideElems.Trod_stays laidOut (by kernel_rfl) (of_decide_eq_true (by kernel_rfl)) h (fun x hx => hb.same (hlt x hx)) hsp
theorem stay_ask {W W' : World} {v : Value} {d : DataW H} {p : List MemPlace} (h : DataW.Trod enc Try.prog W 0 (fun _ => true) true 43 v d p) (hb : Below W.heap.size W W') (hlt : ∀ x ∈ p, x.block < W.heap.size) (sp : Nat → Bool) (hsp : ∀ x ∈ p, sp x.block = true) :
    DataW.Trod enc Try.prog W' 0 sp true 43 v d p :=
  WideElems.Trod_stays laidOut (by kernel_rfl) (of_decide_eq_true (by kernel_rfl)) h (fun x hx => hb.same (hlt x hx)) hsp
end

theorem el_of {p : Int} {xs : List Int} (hw : Words xs) (h : ∀ x ∈ xs, x < p) : El p xs := fun x hx => ⟨(hw x hx).1, h x hx⟩
theorem px_el {p : Int} {ps : List (Int × Int)} (hw : PWords ps) (h : ∀ q ∈ ps, q.1 < p ∧ q.2 < p) : El p (px ps) := fun x hx => by
  obtain ⟨q, hq, rfl⟩ := List.mem_map.1 hx
  exact ⟨(hw q hq).1.1, (h q hq).1⟩
theorem py_el {p : Int} {ps : List (Int × Int)} (hw : PWords ps) (h : ∀ q ∈ ps, q.1 < p ∧ q.2 < p) : El p (py ps) := fun x hx => by
  obtain ⟨q, hq, rfl⟩ := List.mem_map.1 hx
  exact ⟨(hw q hq).2.1, (h q hq).2⟩
/-- A number is a supported prime or not. -/
theorem sup_cases (p : Int) : (qOf p != 0) = false ∨ ((qOf p != 0) = true ∧ FieldMath.OkP p) := by
  by_cases h : FieldMath.OkP p
  · cases hb : (qOf p != 0) with
    | false => exact .inl rfl
    | true => exact .inr ⟨rfl, h⟩
  · exact .inl (by rw [qOf_other p h]; rfl)
end Go.Proofs.Ytpjgpfjepcidgaa
