/- Slices of points that a call makes by append: rows of its own under calls that make new memory, two of them side by side; a step that appends to a row of its own. No conditions. -/
import Derived.Test.YtpjgpfjepcidgaaIOpen
import Derived.Deep.AppendLies
import Derived.Deep.Upon
namespace Go.Proofs.Ytpjgpfjepcidgaa
open Go.RowKit PolyMath FieldMath

theorem info_pt : (Try.prog.info? 34).map (fun i => (i.zero, i.size, i.bytes)) = some (some (.agg #[.int .u64 0, .int .u64 0]), 2, 16) := by kernel_rfl
theorem own_belowN {w w' : World} {base t size n : Nat} {v : Value} {xs : List Value} (h : w.ownsRow base t size v n xs) (hb : Below w.heap.size w w') : w'.ownsRow base t size v n xs := by
  refine ⟨h.1, h.2.imp id ?_⟩
  rintro ⟨g, cap, cur, hv, h1, hh, r⟩
  exact ⟨g, cap, cur, hv, h1, (hb.block g (Array.getElem?_eq_some_iff.1 hh).1).trans hh, r⟩

/-- Two rows of points that lie apart. -/
structure Two (s : Nat) (w : World) (v u : Value) (k j : Nat) (P Q : List (Int × Int)) : Prop where
  a : w.ownsRow s 34 2 v k (pcells P)
  b : w.ownsRow s 34 2 u j (pcells Q)
  ne : ∀ e, v.ownBlock = some e → u.ownBlock = some e → False
theorem Two.swap {s : Nat} {w : World} {v u : Value} {k j : Nat} {P Q : List (Int × Int)} (h : Two s w v u k j P Q) : Two s w u v j k Q P := ⟨h.b, h.a, fun e h1 h2 => h.ne e h2 h1⟩
theorem Two.next {s : Nat} {w w' : World} {v u : Value} {k j : Nat} {P Q : List (Int × Int)} (h : Two s w v u k j P Q) (hb : Below w.heap.size w w') : Two s w' v u k j P Q := ⟨own_belowN h.a hb, own_belowN h.b hb, h.ne⟩
/-- One point more in the first. -/
theorem Two.add {s : Nat} {w w' : World} {v u : Value} {k j g cap H : Nat} {P Q : List (Int × Int)} {x y : Int} (h : Two s w v u k j P Q) (hH : w.heap.size = H)
    (hown : w'.ownsRow s 34 2 (.slice (some ⟨g, 0, none⟩) (k + 1) cap) (k + 1) (pcells P ++ [.int .u64 x, .int .u64 y])) (hg : w.grownBy w' v.ownBlock) (hat : v.ownBlock = some g ∨ g = H) :
    Two s w' (.slice (some ⟨g, 0, none⟩) (k + 1) cap) u (k + 1) j (P ++ [(x, y)]) Q where
  a := by rw [pcells_snoc]; exact hown
  b := World.ownsRow.kept h.b hg (by
    cases hu : u.ownBlock with
    | none => exact .inl rfl
    | some e => exact .inr fun e2 => h.ne e e2.symm hu)
  ne := fun e h1 h2 => by
    have e1 : g = e := by simpa [Value.ownBlock] using h1
    subst e1
    rcases hat with h3 | h3
    · exact h.ne g h3 h2
    · have := (World.ownsRow.lt h.b g h2).2
      omega

/-- The first k points of two lists of coordinates. -/
def zipL (xs ys : List Int) (k : Nat) : List (Int × Int) := (List.range k).map fun i => (co xs i, co ys i)
theorem zipL_len (xs ys : List Int) (k : Nat) : (zipL xs ys k).length = k := by unfold zipL; simp
theorem zipL_next (xs ys : List Int) (k : Nat) : zipL xs ys (k + 1) = zipL xs ys k ++ [(co xs k, co ys k)] := by unfold zipL; rw [List.range_succ, List.map_append]; rfl
theorem px_zipL (xs ys : List Int) {n : Nat} (h : xs.length = n) : px (zipL xs ys n) = xs := by
  unfold px zipL; rw [List.map_map, ← h]; exact range_co xs
theorem py_zipL (xs ys : List Int) {n : Nat} (h : ys.length = n) : py (zipL xs ys n) = ys := by
  unfold py zipL; rw [List.map_map, ← h]; exact range_co ys

/-- What is appended: the cells of points that are read. -/
theorem Pt.news {w : World} {ad : Addr} {c : Nat} {ps : List (Int × Int)} (h : Pt w (some ad) c ps) : ∀ j u, (pcells ps)[j]? = some u → w.cell? (ad.add j) = some u := by
  intro j u hj
  have hjl := (List.getElem?_eq_some_iff.1 hj).1
  rw [pcells_len] at hjl
  have hi : j / 2 < ps.length := by omega
  obtain ⟨b, off, x, y, hA, _, hq, hx, hy⟩ := h.at_ hi
  injection hA with hA
  subst hA
  have hp := pcells_at ps (j / 2) (x, y) hq
  rw [Addr.add_lit]
  rcases (show j = j / 2 * 2 ∨ j = j / 2 * 2 + 1 by omega) with e | e
  · rw [← e] at hx hp
    rw [hj] at hp
    rw [hx]; exact hp.1.symm
  · rw [Nat.add_assoc, ← e] at hy
    rw [← e, hj] at hp
    rw [hy]; exact hp.2.symm
theorem Pt.empty {w : World} {c : Nat} {ps : List (Int × Int)} (h : Pt w none c ps) : ps = [] ∧ c = 0 := by
  have h1 := h.nil rfl
  have h2 := h.cap
  exact ⟨List.eq_nil_of_length_eq_zero (by omega), h1⟩
theorem pc_one : ∀ (ps : List (Int × Int)), ∀ u ∈ pcells ps, u.oneCell' = true
  | [], _, h => by cases h
  | q :: qs, u, h => by
    rw [pcells] at h
    rcases List.mem_cons.1 h with h | h
    · subst h; rfl
    · rcases List.mem_cons.1 h with h | h
      · subst h; rfl
      · exact pc_one qs u h

section
variable {P : Program} (w : World)
/-- A step of a region that draws its order: append to a row of one's own, of as many elements as one likes. -/
theorem step_append_own {ops : Array Oper} {o : Oper} {a : Act} {K : Act → World → Prop} {Q : Exit → Act → World → Prop} {E : Prop} (hgd : o.guard = none) (s x : Operand) (t : TypeId)
    (ho : o.op = .call { callee := .builtin .append, args := #[s, x], argTypes := #[t, t] })
    (base : Nat) (e : TypeId) (i : TypeInfo) (z : Value) (size bytes : Nat) (ht : P.underlying t = some (.slice e)) (hi : P.info? e = some i) (hz : i.zero = some z)
    (hsize : i.size = size) (hby : i.bytes = bytes) (hzs : z.cells.size = size) (hsz : 0 < size)
    (v : Value) (n : Nat) (xs : List Value) (hs : a.eval s = v) (hown : w.ownsRow base e size v n xs)
    (ad : Addr) (m c : Nat) (news : List Value) (hx : a.eval x = .slice (some ad) m c) (hl : news.length = m * size) (hnews : ∀ j u, news[j]? = some u → w.cell? (ad.add j) = some u) (h1 : ∀ u ∈ news, u.oneCell' = true)
    (h63 : n + m ≤ maxLen) (hbytes : (n + m) * bytes ≤ 140737488355328) (hbase : base ≤ w.heap.size)
    (h : ∀ v' w', w'.ownsRow base e size v' (n + m) (xs ++ news) → w.grownBy w' v.ownBlock → K (a.put o.dst v') w') :
    if Region.wanted o (yielded ops a.tmps) = true then Oper.wp P o a w K Q else E := by
  have hw : Region.wanted o (yielded ops a.tmps) = true := by simp [Region.wanted, hgd]
  rw [if_pos hw]
  exact wp_append_own w s x t ho base e i z size bytes ht hi hz hsize hby hzs hsz v n xs hs hown ad m c news hx hl hnews h1 h63 hbytes hbase fun v' w' h2 h3 _ => h v' w' h2 h3
/-- .. append of nothing. -/
theorem step_append_nothing {ops : Array Oper} {o : Oper} {a : Act} {K : Act → World → Prop} {Q : Exit → Act → World → Prop} {E : Prop} (hgd : o.guard = none) (s x : Operand) (t : TypeId)
    (ho : o.op = .call { callee := .builtin .append, args := #[s, x], argTypes := #[t, t] }) (e : TypeId) (i : TypeInfo) (ht : P.underlying t = some (.slice e)) (hi : P.info? e = some i)
    (b : Option Addr) (m c : Nat) (hs : a.eval s = .slice b 0 0) (hx : a.eval x = .slice none m c) (hm : m = 0) (h : K (a.put o.dst (.slice b 0 0)) w) :
    if Region.wanted o (yielded ops a.tmps) = true then Oper.wp P o a w K Q else E := by
  subst hm
  have hw : Region.wanted o (yielded ops a.tmps) = true := by simp [Region.wanted, hgd]
  rw [if_pos hw]
  have hr := run_append_nothing (P := P) w t t o.type e i ht hi b 0 0 (Nat.le_refl _) (.slice none 0 c) (Src.ofNil w ht c)
  unfold Oper.wp execOp
  simp only [ho, resolve, invoke, builtin, Sem.run_bind, Sem.run_pure, Result.andThen_ok, List.map_toArray, List.map_cons, List.map_nil, hs, hx, hr]
  exact h
end
end Go.Proofs.Ytpjgpfjepcidgaa
