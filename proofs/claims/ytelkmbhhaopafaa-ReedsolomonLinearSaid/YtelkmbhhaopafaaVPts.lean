/- Points of the reference of layer 8: the first points, made points over the field, in memory of their own; nothing that lay is changed. Conditions: a supported prime, at most twenty points asked for. -/
import Derived.Test.YtelkmbhhaopafaaMF
namespace Go.Proofs.Ytelkmbhhaopafaa
set_option maxRecDepth 100000
open Go.RowKit PolyMath FieldMath

theorem row_form22 {w : World} {base t n : Nat} {v : Value} {xs : List Value} (h : w.ownsRow base t 2 v n xs) : ∃ A c, v = .slice A n c := by
  rcases h.2 with ⟨rfl, h0⟩ | ⟨g, cap, cur, rfl, _⟩
  · subst h0; exact ⟨_, _, rfl⟩
  · exact ⟨_, _, rfl⟩
/-- The first points, made points over the field. -/
def fitPs (p : Int) (ps : List (Int × Int)) (n : Nat) : List (Int × Int) := (ps.take n).map fun q => (q.1 % p, q.2 % p)
theorem fitPs_len (p : Int) (ps : List (Int × Int)) (n : Nat) : (fitPs p ps n).length ≤ n := by unfold fitPs; rw [List.length_map, List.length_take]; omega
theorem fitPs_x {p : Int} (hp : 0 < p) (ps : List (Int × Int)) (n : Nat) : El p (px (fitPs p ps n)) := fun z hz => by
  unfold fitPs px at hz
  rw [List.map_map] at hz
  obtain ⟨q, _, rfl⟩ := List.mem_map.1 hz
  exact ⟨Int.emod_nonneg _ (by omega), Int.emod_lt_of_pos _ hp⟩
theorem fitPs_y {p : Int} (hp : 0 < p) (ps : List (Int × Int)) (n : Nat) : El p (py (fitPs p ps n)) := fun z hz => by
  unfold fitPs py at hz
  rw [List.map_map] at hz
  obtain ⟨q, _, rfl⟩ := List.mem_map.1 hz
  exact ⟨Int.emod_nonneg _ (by omega), Int.emod_lt_of_pos _ hp⟩
theorem fitPs_next {p : Int} {ps : List (Int × Int)} {k : Nat} {x y : Int} (h : ps[k]? = some (x, y)) : fitPs p ps (k + 1) = fitPs p ps k ++ [(x % p, y % p)] := by
  unfold fitPs; rw [List.take_add_one, h, List.map_append]; rfl
theorem fitPs_at (p : Int) (ps : List (Int × Int)) {k : Nat} (h : k ≤ ps.length) : (fitPs p ps k).length = k := by unfold fitPs; rw [List.length_map, List.length_take]; omega
theorem fitPs_min (p : Int) (ps : List (Int × Int)) {k n : Nat} (h : k = min n ps.length) : fitPs p ps k = fitPs p ps n := by
  unfold fitPs
  congr 1
  rcases (show k = n ∨ (k = ps.length ∧ ps.length ≤ n) by omega) with rfl | ⟨rfl, h1⟩
  · rfl
  · rw [List.take_of_length_le (Nat.le_refl _), List.take_of_length_le h1]

/-- A call hands back points in a slice. -/
def RowP (w : World) (e : Ending) (w' : World) (qs : List (Int × Int)) : Prop := ∃ A c, e = .returned (.slice A qs.length c) ∧ Pt w' A c qs ∧ Below w.heap.size w w'

set_option maxHeartbeats 4000000 in
theorem points8_row (p : Int) (hp : OkP p) (B : Option Addr) (cb : Nat) (ps : List (Int × Int)) (hw : PWords ps) (n : Nat) (hn : n ≤ 20) (w : World) (sp : Pt w B cb ps) :
    Calls Try.prog 28 #[.int .u64 p, .slice B ps.length cb, .int .i64 n] w fun e w' => RowP w e w' (fitPs p ps n) := by
  obtain ⟨i0, hi, hz0, hz1, hz2⟩ := info_parts info_pt
  have hbd := hp.bd
  have hp0 : ¬ p = 0 := by omega
  go_enter Try.func28, Try.ntmps28
  go_wp2
  go_loopw [7, 8] (fun v i wr => ∃ k : Nat, k ≤ n ∧ k ≤ ps.length ∧ i = .int .i64 k ∧ wr.ownsRow w.heap.size 49 2 v k (pcells (fitPs p ps k)) ∧ Below w.heap.size w wr) (fun _ i _ => n - (intOf i).toNat)
  case atStart => exact ⟨0, Nat.zero_le _, Nat.zero_le _, rfl, World.ownsRow_nil _ _ _ _, Below.refl _ _⟩
  case round =>
    obtain ⟨k, hk, hkp, rfl, hrow, hB⟩ := hrel
    have hsz := hB.size
    by_cases hlt : k < ps.length
    · have hkL : (k : Int) < ps.length := by omega
      by_cases hlt2 : k < n
      · obtain ⟨b, off, x, y, hA, hbw, hxy, hcx0, hcy0⟩ := sp.at_ hlt
        have hcx := (hB.cell (p := ⟨b, off + k * 2, none⟩) hbw).trans hcx0
        have hcy := (hB.cell (p := ⟨b, off + k * 2 + 1, none⟩) hbw).trans hcy0
        have hbl : b < wr.heap.size := Nat.lt_of_lt_of_le hbw hsz
        subst hA
        obtain ⟨⟨hx0, hx1⟩, hy0, hy1⟩ := hw _ (List.mem_of_getElem? hxy)
        dsimp only at hx0 hx1 hy0 hy1
        have hkn : (k : Int) < n := by omega
        have hNX := Lib.hid (fitPs_next (p := p) hxy)
        have tx : x.tmod p = x % p := Int.tmod_eq_emod_of_nonneg hx0
        have ty : y.tmod p = y % p := Int.tmod_eq_emod_of_nonneg hy0
        have wx : IntKind.u64.wrap (x % p) = x % p := IntWalk.u64_in _ (by have := Int.emod_nonneg x hp0; have := Int.emod_lt_of_pos x (show 0 < p by omega); omega)
        have wy : IntKind.u64.wrap (y % p) = y % p := IntWalk.u64_in _ (by have := Int.emod_nonneg y hp0; have := Int.emod_lt_of_pos y (show 0 < p by omega); omega)
        obtain ⟨Av, cv, rfl⟩ := row_form22 hrow
        have hB1 := (bnew hB (.cells #[.int .u64 (x % p), .int .u64 (y % p)] 49) (Nat.le_refl _)).drew
        have hO1 := Lib.hid (hrow.alloc (.cells #[.int .u64 (x % p), .int .u64 (y % p)] 49))
        have hblw : b < wr.heap.size := hbl
        have dx := ((bnew (Below.refl _ wr) (.cells #[.int .u64 (x % p), .int .u64 (y % p)] 49) (Nat.le_refl _)).drew.cell (p := ⟨b, off + k * 2, none⟩) hbl).trans hcx
        have dy := ((bnew (Below.refl _ wr) (.cells #[.int .u64 (x % p), .int .u64 (y % p)] 49) (Nat.le_refl _)).drew.cell (p := ⟨b, off + k * 2 + 1, none⟩) hbl).trans hcy
        clear hxy hx0 hx1 hy0 hy1 hrow
        go_wp2_with fail
        go_region_held3 (fun w' => w'.cell? ⟨b, off + k * 2, none⟩ = some (.int .u64 x) ∧ w'.cell? ⟨b, off + k * 2 + 1, none⟩ = some (.int .u64 y))
          (first | (refine ⟨?_, ?_⟩ <;> assumption) | exact ⟨hcx, hcy⟩ | exact ⟨dx, dy⟩)
          (first
            | (refine step_append_own _ (by rfl) _ _ _ (by rfl) w.heap.size 49 i0 _ 2 16 Try.underlying23 hi hz0 hz1 hz2 rfl (by omega) _ k _ (by rfl) hO1.out ⟨wr.heap.size, 0, none⟩ 1 1 [.int .u64 (x % p), .int .u64 (y % p)] (by rfl) (by rfl) (World.news_of_block (cs := #[.int .u64 (x % p), .int .u64 (y % p)]) (t := 49) (fr := (0, 0)) (World.alloc_heap_new wr _)) (by simp [Value.oneCell']) (by simp only [maxLen]; omega) (by omega) (by first | omega | (simp; done) | (simp; omega)) ?_; intro v7 w7 hown7 hgrow7; have hB7 : Below w.heap.size w w7 := hB1.grown hgrow7 (by first | omega | (simp; done) | (simp; omega)) (fun x e => (World.ownsRow.lt hO1.out x e).1); have cx7 := (hB7.cell (p := ⟨b, off + k * 2, none⟩) hbw).trans hcx0; have cy7 := (hB7.cell (p := ⟨b, off + k * 2 + 1, none⟩) hbw).trans hcy0; have HO7 := Lib.hid hown7; obtain ⟨A7, c7, rfl⟩ := row_form22 hown7; clear hown7 hgrow7))
        all_goals
          go_wp2
          go_roundw
          case rel => exact ⟨k + 1, by omega, by omega, by simp, by rw [hNX.out, pcells_snoc]; exact HO7.out, hB7⟩
          case measure => simp [intOf]; omega
      · have hkn : ¬ (k : Int) < n := by omega
        have hD := fitPs_min p ps (k := k) (n := n) (by omega)
        rw [hD] at hrow
        obtain ⟨A2, c2, hv, hs2⟩ := pown_form hrow
        have hl2 : (fitPs p ps n).length = k := by rw [← hD]; exact fitPs_at p ps hkp
        rw [hl2] at hv
        subst hv
        have HL2 := Lib.hid hl2
        have HS := Lib.hid hs2
        clear hl2 hs2 hrow hD
        go_wp2
        go_ret
        exact ⟨A2, c2, by rw [HL2.out]; rfl, HS.out, hB⟩
    · have hkL : ¬ (k : Int) < ps.length := by omega
      have hD := fitPs_min p ps (k := k) (n := n) (by omega)
      rw [hD] at hrow
      obtain ⟨A2, c2, hv, hs2⟩ := pown_form hrow
      have hl2 : (fitPs p ps n).length = k := by rw [← hD]; exact fitPs_at p ps hkp
      rw [hl2] at hv
      subst hv
      have HL2 := Lib.hid hl2
      have HS := Lib.hid hs2
      clear hl2 hs2 hrow hD
      go_wp2
      go_ret
      exact ⟨A2, c2, by rw [HL2.out]; rfl, HS.out, hB⟩
end Go.Proofs.Ytelkmbhhaopafaa
