/- Polynomial of package interpolate: the polynomial through the points, or the error where two abscissas agree; nothing that lay is changed. Conditions: a supported prime, coordinates in its field, at most 100 points. -/
import Derived.Test.YtkkfkkicbgejaaaIScl
import Derived.Test.YtkkfkkicbgejaaaPDivR
import Derived.Deep.RegionHeld3
namespace Go.Proofs.Ytkkfkkicbgejaaa
set_option maxRecDepth 100000
open Go.RowKit PolyMath FieldMath

/-- What Polynomial hands back. -/
def PolRow (p : Int) (ps : List (Int × Int)) (w : World) (e : Ending) (w' : World) : Prop :=
  ((px ps).Nodup ∧ ∃ A c, e = .returned (.tuple #[.slice A (thru p ps).length c, .int .i64 0]) ∧ Sl w' A c (thru p ps) ∧ Below w.heap.size w w') ∨
  (¬ (px ps).Nodup ∧ e = .returned (.tuple #[.slice none 0 0, .int .i64 1]) ∧ Below w.heap.size w w')

set_option maxHeartbeats 2000000 in
theorem pol_any (p : Int) (hp : OkP p) (A : Option Addr) (c : Nat) (ps : List (Int × Int)) (hx : El p (px ps)) (hy : El p (py ps)) (hl : ps.length ≤ 100) (w : World) (h : Pt w A c ps) :
    Calls Try.prog 36 #[.int .u64 p, .slice A ps.length c] w fun e w' => PolRow p ps w e w' := by
  have hbd := hp.bd
  have hab := absc_row A c ps hl w h
  have hxl := px_len ps
  have hscl := fun W A' c' (h' : Sl W A' c' (px ps)) => scl_row p hp A' c' (px ps) hx (by omega) W h'
  have hvan := fun W A' c' (h' : Sl W A' c' (px ps)) => van_row p hp A' c' (px ps) hx (by omega) W h'
  rw [hxl] at hscl hvan
  go_enter Try.func36, Try.ntmps36
  go_wp2_with fail
  refine hab.mono ?_
  rintro e w1 ⟨A1, c1, rfl, hs1, hb1⟩
  rw [hxl]
  clear hab
  go_wp2_with fail
  refine (hscl _ _ _ hs1).mono ?_
  clear hscl
  rintro e w2 (⟨hnd, g, rfl, hO2, hb2⟩ | ⟨hnd, rfl, hb2⟩)
  case inr =>
    go_wp2_with fail
    go_ret2
    exact .inr ⟨hnd, rfl, hb1.trans (hb2.mono hb1.size)⟩
  case inl =>
    rw [hxl] at hO2 ⊢
    have hB2 := hb1.trans (hb2.mono hb1.size)
    have hND := Lib.hid hnd
    clear hnd
    go_wp2_with fail
    refine (hvan _ _ _ (hs1.next hb2)).mono ?_
    rintro e w3 ⟨A3, c3, rfl, hs3, hb3⟩
    have hO3 := hO2.next hb3
    have hB3 := hB2.trans (hb3.mono hB2.size)
    have hV : El p (van p [1] (px ps)) := van_el (by omega) _ _ (El.one (by omega))
    have hVl := van_len p (px ps) [1]
    rw [List.length_singleton, hxl] at hVl
    have hquo := fun (k : Nat) (hk : k < (px ps).length) (q r : List Int) (hd : DM p (van p [1] (px ps)) (lin p (co (px ps) k)) q r) (y : Int) => term_eq hp.good hND.out hx hk hd y
    have hQ := Lib.hid hquo
    have hdiv := fun (x : Int) W A' c' A'' c'' (h1 : Sl W A' c' (van p [1] (px ps))) (h2 : Sl W A'' c'' (lin p x)) => div_row p hp A' A'' c' c'' 1 (van p [1] (px ps)) (lin p x) hV (lin_el (by omega) x) (by omega) (by rw [lin_len]; omega) W h1 h2 (lin_tn p x)
    clear hvan hO2 hB2 hquo hs1 hb2 hb3
    generalize hvv : van p [1] (px ps) = V at *
    clear hvv
    go_wp2
    go_loopw [10, 32] (fun v i wr => ∃ (k : Nat) (A' : Option Addr) (c' : Nat), k ≤ ps.length ∧ i = .int .i64 k ∧ v = .slice A' (lag p (px ps) (py ps) k).length c' ∧ Sl wr A' c' (lag p (px ps) (py ps) k) ∧ Below w3.heap.size w3 wr) (fun _ i _ => ps.length - (intOf i).toNat)
    case atStart => exact ⟨0, none, 0, Nat.zero_le _, rfl, rfl, Sl.nothing _, Below.refl _ _⟩
    case round =>
      obtain ⟨k, A', c', hk, rfl, rfl, hf, hBr⟩ := hrel
      by_cases hlt : k < ps.length
      · obtain ⟨b, off, x, y, hA, hbl, hxy, hcx, hcy⟩ := (h.next (hB3.trans (hBr.mono hB3.size))).at_ hlt
        subst hA
        have hx1 := px_at hxy
        have hy1 := py_at hxy
        have hxb := hx.co (p := p) (by omega) k
        have hyb := hy.co (p := p) (by omega) k
        have hsb := scl_bd (p := p) (by omega) (px ps) k
        have hsget := scls_get p (xs := px ps) (i := k) (by omega)
        have hfe := lag_el (p := p) (by omega) (px ps) (py ps) k
        have hfl := lag_len p (px ps) (py ps) k (by omega)
        have hnext : lag p (px ps) (py ps) (k + 1) = padd p (lag p (px ps) (py ps) k) (pscl p (co (py ps) k) (base p (px ps) k)) := rfl
        have hq2 := hQ.out k (by omega)
        rw [hx1] at hxb hq2
        rw [hy1] at hyb hnext
        generalize scl p (px ps) k = s at *
        generalize lag p (px ps) (py ps) k = F at *
        generalize hFe : lag p (px ps) (py ps) (k + 1) = F' at *
        have hFF := Lib.hid hFe
        clear hFe
        have hQ2 := Lib.hid hq2
        have hNX := Lib.hid hnext
        have hkN : (k : Int) < ps.length := by omega
        have hne2 : b ≠ wr.heap.size := by omega
        have hms := fmul_bd p y s (by omega)
        clear hx1 hy1 hxy hnext hq2
        go_wp2_with fail
        refine (lin_row p x hp hxb _).mono ?_
        rintro e w4 ⟨A4, c4, rfl, hs4, hb4⟩
        have hBn : Below wr.heap.size wr w4 := (bnew (Below.refl _ wr) _ (Nat.le_refl _)).trans (hb4.mono (by simp))
        have cy4 : w4.cell? ⟨wr.heap.size, 1, none⟩ = some (.int .u64 y) := by rw [(bcell hb4).1 _ _ (by simp)]; go_simp
        have hl4 : wr.heap.size < w4.heap.size := by have := hb4.size; simp at this; omega
        clear hb4
        go_wp2_with fail
        refine (hdiv x _ _ _ _ _ (hs3.next (hBr.trans (hBn.mono hBr.size))) hs4).mono ?_
        rintro e w5 ⟨q, r, A5, c5, A6, c6, rfl, hs5, hs6, hDM, hql, hb5⟩
        have cy5 := (hb5.cell (p := ⟨wr.heap.size, 1, none⟩) hl4).trans cy4
        have hB5 := hBn.trans (hb5.mono hBn.size)
        have hB5' := hBr.trans (hB5.mono hBr.size)
        have hO5 := hO3.next hB5'
        have cs5 := hO5.cell hsget
        have hT := Lib.hid (hQ2.out q r hDM y)
        have hq1 := hDM.qe
        have hf5 := hf.next hB5
        have hsc := scale_row p (fmul p y s) hp hms A5 c5 q hq1 (by omega) _ hs5.drew
        rw [hT.out] at hsc
        have hadd := fun W A7 c7 (h7 : Sl W A7 c7 (pscl p y (base p (px ps) k))) (h8 : Sl W A' c' F) => add_row p hp A' A7 c' c7 F _ hfe (pscl_el (by omega) _ _) (by omega) (by have := pscl_len p y (base p (px ps) k); have := base_len p (px ps) (i := k) (by omega); omega) W h8 h7
        rw [← hNX.out] at hadd
        have hsz5 := hb5.size
        clear hs5 hs6 hDM hb5 cy4 hs4
        have hl5 : wr.heap.size < w5.heap.size := Nat.lt_of_lt_of_le hl4 hsz5
        have hg5 := hO5.lt
        go_wp2_with fail
        go_region_held3 (fun w' => w'.cell? ⟨wr.heap.size, 1, none⟩ = some (.int .u64 y) ∧ w'.cell? ⟨g, k, none⟩ = some (.int .u64 s))
          (refine ⟨?_, ?_⟩ <;> assumption)
          (first
            | (go_at_call 42; (with_reducible refine (mul_any _ _ _ hp hyb.1 hyb.2 hsb.1 hsb.2 _).mono ?_); rintro e w' ⟨rfl, rfl⟩)
            | (go_at_call 58; (with_reducible refine hsc.mono ?_); rintro e w7 ⟨A7, c7, rfl, hs7, hb7⟩; have cy7 := (hb7.cell (p := ⟨wr.heap.size, 1, none⟩) hl5).trans cy5; have cs7 := (hb7.cell (p := ⟨g, k, none⟩) hg5.2).trans cs5; have ha7 := Lib.hid (hadd w7 A7 c7 hs7 (hf5.drew.next hb7)); have hB7 := hB5.drew.trans (hb7.mono hB5.size); have hl7 := Nat.lt_of_lt_of_le hl5 hb7.size; have hg7 := Nat.lt_of_lt_of_le hg5.2 hb7.size; clear hb7 hs7 hadd)
            | (go_at_call 57; (with_reducible refine (ha7.out).mono ?_); rintro e w8 ⟨A8, c8, rfl, hs8, hb8⟩; have cy8 := (hb8.cell (p := ⟨wr.heap.size, 1, none⟩) hl7).trans cy7; have cs8 := (hb8.cell (p := ⟨g, k, none⟩) hg7).trans cs7; have hB8 := hB7.trans (hb8.mono hB7.size)))
        all_goals
          go_wp2_with fail
          go_roundw
          case rel => exact ⟨k + 1, A8, c8, by omega, by simp, by rw [hFF.out], by rw [hFF.out]; exact hs8, hBr.trans (hB8.mono hBr.size)⟩
          case measure => simp [intOf]; omega
      · obtain rfl : k = ps.length := by omega
        go_wp2_with fail
        go_ret2
        exact .inl ⟨hND.out, _, _, rfl, hf, hB3.trans (hBr.mono hB3.size)⟩
end Go.Proofs.Ytkkfkkicbgejaaa
