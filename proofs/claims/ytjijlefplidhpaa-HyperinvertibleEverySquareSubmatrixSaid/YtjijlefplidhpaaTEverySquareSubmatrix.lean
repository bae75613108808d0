/- Every square submatrix with distinct rows and distinct columns has a nonzero determinant. No conditions. -/
import Derived.Test.YtjijlefplidhpaaHRefA
namespace Go.Proofs.Ytjijlefplidhpaa.hyperinvertibleEverySquareSubmatrix
set_option maxRecDepth 100000
open Go.ChangeShapes Go.WideShapes Go.ChangeAt Go.RowKit PolyMath FieldMath MatMath

set_option maxHeartbeats 4000000 in
theorem walk_unsup (p : Int) (x y : Nat) (AR : Option Addr) (cR : Nat) (R : List Int) (AC : Option Addr) (cC : Nat) (C : List Int) (_bx : x ≤ 255) (_by_ : y ≤ 255) (_wR : Nums R) (_wC : Nums C) (X Y : Nat) (eX : x % 13 = X) (eY : y % 13 = Y) (hs : (qOf p != 0) = false) (w : World) (sR : Si w AR cR R) (sC : Si w AC cC C) :
    Calls Try.prog 5 #[.agg #[.int .u64 p, .int .u8 x, .int .u8 y, .slice AR R.length cR, .slice AC C.length cC]] w fun e w' => e = .returned (.bool true) ∧ Below w.heap.size w w' := by
  have rx : (x : Int).tmod 13 = X := by rw [← eX]; exact (Int.ofNat_tmod x 13).symm
  have ry : (y : Int).tmod 13 = Y := by rw [← eY]; exact (Int.ofNat_tmod y 13).symm
  have hX12 : X ≤ 12 := by omega
  have hY12 : Y ≤ 12 := by omega
  clear eX eY
  have gs := fun W => rSupported_any p W
  rw [hs] at gs
  replace sR := sR.push (.cells #[.int .u64 p, .int .u8 x, .int .u8 y, .slice AR R.length cR, .slice AC C.length cC] 38)
  replace sC := sC.push (.cells #[.int .u64 p, .int .u8 x, .int .u8 y, .slice AR R.length cR, .slice AC C.length cC] 38)
  have k0 : (w.alloc (.cells #[.int .u64 p, .int .u8 x, .int .u8 y, .slice AR R.length cR, .slice AC C.length cC] 38)).cell? ⟨w.heap.size, 0, none⟩ = some (.int .u64 p) := by go_simp
  have k1 : (w.alloc (.cells #[.int .u64 p, .int .u8 x, .int .u8 y, .slice AR R.length cR, .slice AC C.length cC] 38)).cell? ⟨w.heap.size, 1, none⟩ = some (.int .u8 x) := by go_simp
  have k2 : (w.alloc (.cells #[.int .u64 p, .int .u8 x, .int .u8 y, .slice AR R.length cR, .slice AC C.length cC] 38)).cell? ⟨w.heap.size, 2, none⟩ = some (.int .u8 y) := by go_simp
  have k3 : (w.alloc (.cells #[.int .u64 p, .int .u8 x, .int .u8 y, .slice AR R.length cR, .slice AC C.length cC] 38)).cell? ⟨w.heap.size, 3, none⟩ = some (.slice AR R.length cR) := by go_simp
  have k4 : (w.alloc (.cells #[.int .u64 p, .int .u8 x, .int .u8 y, .slice AR R.length cR, .slice AC C.length cC] 38)).cell? ⟨w.heap.size, 4, none⟩ = some (.slice AC C.length cC) := by go_simp
  have hq : w.heap.size < (w.alloc (.cells #[.int .u64 p, .int .u8 x, .int .u8 y, .slice AR R.length cR, .slice AC C.length cC] 38)).heap.size := by simp
  have hB := bnew (Below.refl w.heap.size w) (.cells #[.int .u64 p, .int .u8 x, .int .u8 y, .slice AR R.length cR, .slice AC C.length cC] 38) (Nat.le_refl _)
  go_enter Try.func5, Try.ntmps5
  go_wp2_with fail
  refine (awake7_any _).mono ?_
  rintro e w1 ⟨rfl, hb⟩
  replace sR := sR.next hb
  replace sC := sC.next hb
  replace hB := hB.trans (hb.mono hB.size)
  replace k0 := (hb.cell (p := ⟨w.heap.size, 0, none⟩) hq).trans k0
  replace k1 := (hb.cell (p := ⟨w.heap.size, 1, none⟩) hq).trans k1
  replace k2 := (hb.cell (p := ⟨w.heap.size, 2, none⟩) hq).trans k2
  replace k3 := (hb.cell (p := ⟨w.heap.size, 3, none⟩) hq).trans k3
  replace k4 := (hb.cell (p := ⟨w.heap.size, 4, none⟩) hq).trans k4
  replace hq := Nat.lt_of_lt_of_le hq hb.size
  clear hb
  go_wp2_with fail
  refine (gs _).mono ?_
  rintro e w2 ⟨rfl, hb⟩
  replace sR := sR.next hb
  replace sC := sC.next hb
  replace hB := hB.trans (hb.mono hB.size)
  replace k0 := (hb.cell (p := ⟨w.heap.size, 0, none⟩) hq).trans k0
  replace k1 := (hb.cell (p := ⟨w.heap.size, 1, none⟩) hq).trans k1
  replace k2 := (hb.cell (p := ⟨w.heap.size, 2, none⟩) hq).trans k2
  replace k3 := (hb.cell (p := ⟨w.heap.size, 3, none⟩) hq).trans k3
  replace k4 := (hb.cell (p := ⟨w.heap.size, 4, none⟩) hq).trans k4
  replace hq := Nat.lt_of_lt_of_le hq hb.size
  clear hb
  go_wp2_with fail
  go_ret
  exact ⟨rfl, hB⟩

set_option maxHeartbeats 4000000 in
theorem walk_ne (p : Int) (x y : Nat) (AR : Option Addr) (cR : Nat) (R : List Int) (AC : Option Addr) (cC : Nat) (C : List Int) (_bx : x ≤ 255) (_by_ : y ≤ 255) (_wR : Nums R) (_wC : Nums C) (X Y : Nat) (eX : x % 13 = X) (eY : y % 13 = Y) (hs : (qOf p != 0) = true) (h1 : R.length ≠ C.length) (w : World) (sR : Si w AR cR R) (sC : Si w AC cC C) :
    Calls Try.prog 5 #[.agg #[.int .u64 p, .int .u8 x, .int .u8 y, .slice AR R.length cR, .slice AC C.length cC]] w fun e w' => e = .returned (.bool true) ∧ Below w.heap.size w w' := by
  have rx : (x : Int).tmod 13 = X := by rw [← eX]; exact (Int.ofNat_tmod x 13).symm
  have ry : (y : Int).tmod 13 = Y := by rw [← eY]; exact (Int.ofNat_tmod y 13).symm
  have hX12 : X ≤ 12 := by omega
  have hY12 : Y ≤ 12 := by omega
  clear eX eY
  have gs := fun W => rSupported_any p W
  rw [hs] at gs
  have h1' : ((R.length : Int) != C.length) = true := bne_iff_ne.2 (by omega)
  replace sR := sR.push (.cells #[.int .u64 p, .int .u8 x, .int .u8 y, .slice AR R.length cR, .slice AC C.length cC] 38)
  replace sC := sC.push (.cells #[.int .u64 p, .int .u8 x, .int .u8 y, .slice AR R.length cR, .slice AC C.length cC] 38)
  have k0 : (w.alloc (.cells #[.int .u64 p, .int .u8 x, .int .u8 y, .slice AR R.length cR, .slice AC C.length cC] 38)).cell? ⟨w.heap.size, 0, none⟩ = some (.int .u64 p) := by go_simp
  have k1 : (w.alloc (.cells #[.int .u64 p, .int .u8 x, .int .u8 y, .slice AR R.length cR, .slice AC C.length cC] 38)).cell? ⟨w.heap.size, 1, none⟩ = some (.int .u8 x) := by go_simp
  have k2 : (w.alloc (.cells #[.int .u64 p, .int .u8 x, .int .u8 y, .slice AR R.length cR, .slice AC C.length cC] 38)).cell? ⟨w.heap.size, 2, none⟩ = some (.int .u8 y) := by go_simp
  have k3 : (w.alloc (.cells #[.int .u64 p, .int .u8 x, .int .u8 y, .slice AR R.length cR, .slice AC C.length cC] 38)).cell? ⟨w.heap.size, 3, none⟩ = some (.slice AR R.length cR) := by go_simp
  have k4 : (w.alloc (.cells #[.int .u64 p, .int .u8 x, .int .u8 y, .slice AR R.length cR, .slice AC C.length cC] 38)).cell? ⟨w.heap.size, 4, none⟩ = some (.slice AC C.length cC) := by go_simp
  have hq : w.heap.size < (w.alloc (.cells #[.int .u64 p, .int .u8 x, .int .u8 y, .slice AR R.length cR, .slice AC C.length cC] 38)).heap.size := by simp
  have hB := bnew (Below.refl w.heap.size w) (.cells #[.int .u64 p, .int .u8 x, .int .u8 y, .slice AR R.length cR, .slice AC C.length cC] 38) (Nat.le_refl _)
  go_enter Try.func5, Try.ntmps5
  go_wp2_with fail
  refine (awake7_any _).mono ?_
  rintro e w1 ⟨rfl, hb⟩
  replace sR := sR.next hb
  replace sC := sC.next hb
  replace hB := hB.trans (hb.mono hB.size)
  replace k0 := (hb.cell (p := ⟨w.heap.size, 0, none⟩) hq).trans k0
  replace k1 := (hb.cell (p := ⟨w.heap.size, 1, none⟩) hq).trans k1
  replace k2 := (hb.cell (p := ⟨w.heap.size, 2, none⟩) hq).trans k2
  replace k3 := (hb.cell (p := ⟨w.heap.size, 3, none⟩) hq).trans k3
  replace k4 := (hb.cell (p := ⟨w.heap.size, 4, none⟩) hq).trans k4
  replace hq := Nat.lt_of_lt_of_le hq hb.size
  clear hb
  go_wp2_with fail
  refine (gs _).mono ?_
  rintro e w2 ⟨rfl, hb⟩
  replace sR := sR.next hb
  replace sC := sC.next hb
  replace hB := hB.trans (hb.mono hB.size)
  replace k0 := (hb.cell (p := ⟨w.heap.size, 0, none⟩) hq).trans k0
  replace k1 := (hb.cell (p := ⟨w.heap.size, 1, none⟩) hq).trans k1
  replace k2 := (hb.cell (p := ⟨w.heap.size, 2, none⟩) hq).trans k2
  replace k3 := (hb.cell (p := ⟨w.heap.size, 3, none⟩) hq).trans k3
  replace k4 := (hb.cell (p := ⟨w.heap.size, 4, none⟩) hq).trans k4
  replace hq := Nat.lt_of_lt_of_le hq hb.size
  clear hb
  go_wp2_with fail
  go_ret
  exact ⟨rfl, hB⟩

set_option maxHeartbeats 4000000 in
theorem walk_lt (p : Int) (x y : Nat) (AR : Option Addr) (cR : Nat) (R : List Int) (AC : Option Addr) (cC : Nat) (C : List Int) (_bx : x ≤ 255) (_by_ : y ≤ 255) (_wR : Nums R) (_wC : Nums C) (X Y : Nat) (eX : x % 13 = X) (eY : y % 13 = Y) (hs : (qOf p != 0) = true) (h1 : R.length = C.length) (h2 : R.length < 1) (w : World) (sR : Si w AR cR R) (sC : Si w AC cC C) :
    Calls Try.prog 5 #[.agg #[.int .u64 p, .int .u8 x, .int .u8 y, .slice AR R.length cR, .slice AC C.length cC]] w fun e w' => e = .returned (.bool true) ∧ Below w.heap.size w w' := by
  have rx : (x : Int).tmod 13 = X := by rw [← eX]; exact (Int.ofNat_tmod x 13).symm
  have ry : (y : Int).tmod 13 = Y := by rw [← eY]; exact (Int.ofNat_tmod y 13).symm
  have hX12 : X ≤ 12 := by omega
  have hY12 : Y ≤ 12 := by omega
  clear eX eY
  have gs := fun W => rSupported_any p W
  rw [hs] at gs
  have h1' : ((R.length : Int) != C.length) = false := by rw [h1]; simp
  have H1 := Lib.hid h1
  clear h1
  have h2' : (R.length : Int) < 1 := by omega
  replace sR := sR.push (.cells #[.int .u64 p, .int .u8 x, .int .u8 y, .slice AR R.length cR, .slice AC C.length cC] 38)
  replace sC := sC.push (.cells #[.int .u64 p, .int .u8 x, .int .u8 y, .slice AR R.length cR, .slice AC C.length cC] 38)
  have k0 : (w.alloc (.cells #[.int .u64 p, .int .u8 x, .int .u8 y, .slice AR R.length cR, .slice AC C.length cC] 38)).cell? ⟨w.heap.size, 0, none⟩ = some (.int .u64 p) := by go_simp
  have k1 : (w.alloc (.cells #[.int .u64 p, .int .u8 x, .int .u8 y, .slice AR R.length cR, .slice AC C.length cC] 38)).cell? ⟨w.heap.size, 1, none⟩ = some (.int .u8 x) := by go_simp
  have k2 : (w.alloc (.cells #[.int .u64 p, .int .u8 x, .int .u8 y, .slice AR R.length cR, .slice AC C.length cC] 38)).cell? ⟨w.heap.size, 2, none⟩ = some (.int .u8 y) := by go_simp
  have k3 : (w.alloc (.cells #[.int .u64 p, .int .u8 x, .int .u8 y, .slice AR R.length cR, .slice AC C.length cC] 38)).cell? ⟨w.heap.size, 3, none⟩ = some (.slice AR R.length cR) := by go_simp
  have k4 : (w.alloc (.cells #[.int .u64 p, .int .u8 x, .int .u8 y, .slice AR R.length cR, .slice AC C.length cC] 38)).cell? ⟨w.heap.size, 4, none⟩ = some (.slice AC C.length cC) := by go_simp
  have hq : w.heap.size < (w.alloc (.cells #[.int .u64 p, .int .u8 x, .int .u8 y, .slice AR R.length cR, .slice AC C.length cC] 38)).heap.size := by simp
  have hB := bnew (Below.refl w.heap.size w) (.cells #[.int .u64 p, .int .u8 x, .int .u8 y, .slice AR R.length cR, .slice AC C.length cC] 38) (Nat.le_refl _)
  go_enter Try.func5, Try.ntmps5
  go_wp2_with fail
  refine (awake7_any _).mono ?_
  rintro e w1 ⟨rfl, hb⟩
  replace sR := sR.next hb
  replace sC := sC.next hb
  replace hB := hB.trans (hb.mono hB.size)
  replace k0 := (hb.cell (p := ⟨w.heap.size, 0, none⟩) hq).trans k0
  replace k1 := (hb.cell (p := ⟨w.heap.size, 1, none⟩) hq).trans k1
  replace k2 := (hb.cell (p := ⟨w.heap.size, 2, none⟩) hq).trans k2
  replace k3 := (hb.cell (p := ⟨w.heap.size, 3, none⟩) hq).trans k3
  replace k4 := (hb.cell (p := ⟨w.heap.size, 4, none⟩) hq).trans k4
  replace hq := Nat.lt_of_lt_of_le hq hb.size
  clear hb
  go_wp2_with fail
  refine (gs _).mono ?_
  rintro e w2 ⟨rfl, hb⟩
  replace sR := sR.next hb
  replace sC := sC.next hb
  replace hB := hB.trans (hb.mono hB.size)
  replace k0 := (hb.cell (p := ⟨w.heap.size, 0, none⟩) hq).trans k0
  replace k1 := (hb.cell (p := ⟨w.heap.size, 1, none⟩) hq).trans k1
  replace k2 := (hb.cell (p := ⟨w.heap.size, 2, none⟩) hq).trans k2
  replace k3 := (hb.cell (p := ⟨w.heap.size, 3, none⟩) hq).trans k3
  replace k4 := (hb.cell (p := ⟨w.heap.size, 4, none⟩) hq).trans k4
  replace hq := Nat.lt_of_lt_of_le hq hb.size
  clear hb
  go_wp2_with fail
  go_ret
  exact ⟨rfl, hB⟩

set_option maxHeartbeats 4000000 in
theorem walk_gt (p : Int) (x y : Nat) (AR : Option Addr) (cR : Nat) (R : List Int) (AC : Option Addr) (cC : Nat) (C : List Int) (_bx : x ≤ 255) (_by_ : y ≤ 255) (_wR : Nums R) (_wC : Nums C) (X Y : Nat) (eX : x % 13 = X) (eY : y % 13 = Y) (hs : (qOf p != 0) = true) (h1 : R.length = C.length) (h2 : 8 < R.length) (w : World) (sR : Si w AR cR R) (sC : Si w AC cC C) :
    Calls Try.prog 5 #[.agg #[.int .u64 p, .int .u8 x, .int .u8 y, .slice AR R.length cR, .slice AC C.length cC]] w fun e w' => e = .returned (.bool true) ∧ Below w.heap.size w w' := by
  have rx : (x : Int).tmod 13 = X := by rw [← eX]; exact (Int.ofNat_tmod x 13).symm
  have ry : (y : Int).tmod 13 = Y := by rw [← eY]; exact (Int.ofNat_tmod y 13).symm
  have hX12 : X ≤ 12 := by omega
  have hY12 : Y ≤ 12 := by omega
  clear eX eY
  have gs := fun W => rSupported_any p W
  rw [hs] at gs
  have h1' : ((R.length : Int) != C.length) = false := by rw [h1]; simp
  have H1 := Lib.hid h1
  clear h1
  have h2' : ¬ (R.length : Int) < 1 := by omega
  have h3' : (8 : Int) < R.length := by omega
  replace sR := sR.push (.cells #[.int .u64 p, .int .u8 x, .int .u8 y, .slice AR R.length cR, .slice AC C.length cC] 38)
  replace sC := sC.push (.cells #[.int .u64 p, .int .u8 x, .int .u8 y, .slice AR R.length cR, .slice AC C.length cC] 38)
  have k0 : (w.alloc (.cells #[.int .u64 p, .int .u8 x, .int .u8 y, .slice AR R.length cR, .slice AC C.length cC] 38)).cell? ⟨w.heap.size, 0, none⟩ = some (.int .u64 p) := by go_simp
  have k1 : (w.alloc (.cells #[.int .u64 p, .int .u8 x, .int .u8 y, .slice AR R.length cR, .slice AC C.length cC] 38)).cell? ⟨w.heap.size, 1, none⟩ = some (.int .u8 x) := by go_simp
  have k2 : (w.alloc (.cells #[.int .u64 p, .int .u8 x, .int .u8 y, .slice AR R.length cR, .slice AC C.length cC] 38)).cell? ⟨w.heap.size, 2, none⟩ = some (.int .u8 y) := by go_simp
  have k3 : (w.alloc (.cells #[.int .u64 p, .int .u8 x, .int .u8 y, .slice AR R.length cR, .slice AC C.length cC] 38)).cell? ⟨w.heap.size, 3, none⟩ = some (.slice AR R.length cR) := by go_simp
  have k4 : (w.alloc (.cells #[.int .u64 p, .int .u8 x, .int .u8 y, .slice AR R.length cR, .slice AC C.length cC] 38)).cell? ⟨w.heap.size, 4, none⟩ = some (.slice AC C.length cC) := by go_simp
  have hq : w.heap.size < (w.alloc (.cells #[.int .u64 p, .int .u8 x, .int .u8 y, .slice AR R.length cR, .slice AC C.length cC] 38)).heap.size := by simp
  have hB := bnew (Below.refl w.heap.size w) (.cells #[.int .u64 p, .int .u8 x, .int .u8 y, .slice AR R.length cR, .slice AC C.length cC] 38) (Nat.le_refl _)
  go_enter Try.func5, Try.ntmps5
  go_wp2_with fail
  refine (awake7_any _).mono ?_
  rintro e w1 ⟨rfl, hb⟩
  replace sR := sR.next hb
  replace sC := sC.next hb
  replace hB := hB.trans (hb.mono hB.size)
  replace k0 := (hb.cell (p := ⟨w.heap.size, 0, none⟩) hq).trans k0
  replace k1 := (hb.cell (p := ⟨w.heap.size, 1, none⟩) hq).trans k1
  replace k2 := (hb.cell (p := ⟨w.heap.size, 2, none⟩) hq).trans k2
  replace k3 := (hb.cell (p := ⟨w.heap.size, 3, none⟩) hq).trans k3
  replace k4 := (hb.cell (p := ⟨w.heap.size, 4, none⟩) hq).trans k4
  replace hq := Nat.lt_of_lt_of_le hq hb.size
  clear hb
  go_wp2_with fail
  refine (gs _).mono ?_
  rintro e w2 ⟨rfl, hb⟩
  replace sR := sR.next hb
  replace sC := sC.next hb
  replace hB := hB.trans (hb.mono hB.size)
  replace k0 := (hb.cell (p := ⟨w.heap.size, 0, none⟩) hq).trans k0
  replace k1 := (hb.cell (p := ⟨w.heap.size, 1, none⟩) hq).trans k1
  replace k2 := (hb.cell (p := ⟨w.heap.size, 2, none⟩) hq).trans k2
  replace k3 := (hb.cell (p := ⟨w.heap.size, 3, none⟩) hq).trans k3
  replace k4 := (hb.cell (p := ⟨w.heap.size, 4, none⟩) hq).trans k4
  replace hq := Nat.lt_of_lt_of_le hq hb.size
  clear hb
  go_wp2_with fail
  go_ret
  exact ⟨rfl, hB⟩

set_option maxHeartbeats 4000000 in
theorem walk_u1 (p : Int) (x y : Nat) (AR : Option Addr) (cR : Nat) (R : List Int) (AC : Option Addr) (cC : Nat) (C : List Int) (_bx : x ≤ 255) (_by_ : y ≤ 255) (_wR : Nums R) (_wC : Nums C) (X Y : Nat) (eX : x % 13 = X) (eY : y % 13 = Y) (hs : (qOf p != 0) = true) (h1 : R.length = C.length) (h2 : 1 ≤ R.length) (h3 : R.length ≤ 8) (h4 : unlB R (1 + (X : Int)) = false) (w : World) (sR : Si w AR cR R) (sC : Si w AC cC C) :
    Calls Try.prog 5 #[.agg #[.int .u64 p, .int .u8 x, .int .u8 y, .slice AR R.length cR, .slice AC C.length cC]] w fun e w' => e = .returned (.bool true) ∧ Below w.heap.size w w' := by
  have rx : (x : Int).tmod 13 = X := by rw [← eX]; exact (Int.ofNat_tmod x 13).symm
  have ry : (y : Int).tmod 13 = Y := by rw [← eY]; exact (Int.ofNat_tmod y 13).symm
  have hX12 : X ≤ 12 := by omega
  have hY12 : Y ≤ 12 := by omega
  clear eX eY
  have gs := fun W => rSupported_any p W
  rw [hs] at gs
  have hC8 : C.length ≤ 8 := by omega
  have h1' : ((R.length : Int) != C.length) = false := by rw [h1]; simp
  have H1 := Lib.hid h1
  clear h1
  have h2' : ¬ (R.length : Int) < 1 := by omega
  have h3' : ¬ (8 : Int) < R.length := by omega
  have gu := fun W (q : Si W AR cR R) => unl_any AR cR R (1 + (X : Int)) (by omega) W q
  have gv := fun W (q : Si W AC cC C) => unl_any AC cC C (1 + (Y : Int)) (by omega) W q
  rw [h4] at gu
  replace sR := sR.push (.cells #[.int .u64 p, .int .u8 x, .int .u8 y, .slice AR R.length cR, .slice AC C.length cC] 38)
  replace sC := sC.push (.cells #[.int .u64 p, .int .u8 x, .int .u8 y, .slice AR R.length cR, .slice AC C.length cC] 38)
  have k0 : (w.alloc (.cells #[.int .u64 p, .int .u8 x, .int .u8 y, .slice AR R.length cR, .slice AC C.length cC] 38)).cell? ⟨w.heap.size, 0, none⟩ = some (.int .u64 p) := by go_simp
  have k1 : (w.alloc (.cells #[.int .u64 p, .int .u8 x, .int .u8 y, .slice AR R.length cR, .slice AC C.length cC] 38)).cell? ⟨w.heap.size, 1, none⟩ = some (.int .u8 x) := by go_simp
  have k2 : (w.alloc (.cells #[.int .u64 p, .int .u8 x, .int .u8 y, .slice AR R.length cR, .slice AC C.length cC] 38)).cell? ⟨w.heap.size, 2, none⟩ = some (.int .u8 y) := by go_simp
  have k3 : (w.alloc (.cells #[.int .u64 p, .int .u8 x, .int .u8 y, .slice AR R.length cR, .slice AC C.length cC] 38)).cell? ⟨w.heap.size, 3, none⟩ = some (.slice AR R.length cR) := by go_simp
  have k4 : (w.alloc (.cells #[.int .u64 p, .int .u8 x, .int .u8 y, .slice AR R.length cR, .slice AC C.length cC] 38)).cell? ⟨w.heap.size, 4, none⟩ = some (.slice AC C.length cC) := by go_simp
  have hq : w.heap.size < (w.alloc (.cells #[.int .u64 p, .int .u8 x, .int .u8 y, .slice AR R.length cR, .slice AC C.length cC] 38)).heap.size := by simp
  have hB := bnew (Below.refl w.heap.size w) (.cells #[.int .u64 p, .int .u8 x, .int .u8 y, .slice AR R.length cR, .slice AC C.length cC] 38) (Nat.le_refl _)
  go_enter Try.func5, Try.ntmps5
  go_wp2_with fail
  refine (awake7_any _).mono ?_
  rintro e w1 ⟨rfl, hb⟩
  replace sR := sR.next hb
  replace sC := sC.next hb
  replace hB := hB.trans (hb.mono hB.size)
  replace k0 := (hb.cell (p := ⟨w.heap.size, 0, none⟩) hq).trans k0
  replace k1 := (hb.cell (p := ⟨w.heap.size, 1, none⟩) hq).trans k1
  replace k2 := (hb.cell (p := ⟨w.heap.size, 2, none⟩) hq).trans k2
  replace k3 := (hb.cell (p := ⟨w.heap.size, 3, none⟩) hq).trans k3
  replace k4 := (hb.cell (p := ⟨w.heap.size, 4, none⟩) hq).trans k4
  replace hq := Nat.lt_of_lt_of_le hq hb.size
  clear hb
  go_wp2_with fail
  refine (gs _).mono ?_
  rintro e w2 ⟨rfl, hb⟩
  replace sR := sR.next hb
  replace sC := sC.next hb
  replace hB := hB.trans (hb.mono hB.size)
  replace k0 := (hb.cell (p := ⟨w.heap.size, 0, none⟩) hq).trans k0
  replace k1 := (hb.cell (p := ⟨w.heap.size, 1, none⟩) hq).trans k1
  replace k2 := (hb.cell (p := ⟨w.heap.size, 2, none⟩) hq).trans k2
  replace k3 := (hb.cell (p := ⟨w.heap.size, 3, none⟩) hq).trans k3
  replace k4 := (hb.cell (p := ⟨w.heap.size, 4, none⟩) hq).trans k4
  replace hq := Nat.lt_of_lt_of_le hq hb.size
  clear hb
  go_wp2_with fail
  refine (gu _ sR).mono ?_
  rintro e w3 ⟨rfl, hb⟩
  replace sR := sR.next hb
  replace sC := sC.next hb
  replace hB := hB.trans (hb.mono hB.size)
  replace k0 := (hb.cell (p := ⟨w.heap.size, 0, none⟩) hq).trans k0
  replace k1 := (hb.cell (p := ⟨w.heap.size, 1, none⟩) hq).trans k1
  replace k2 := (hb.cell (p := ⟨w.heap.size, 2, none⟩) hq).trans k2
  replace k3 := (hb.cell (p := ⟨w.heap.size, 3, none⟩) hq).trans k3
  replace k4 := (hb.cell (p := ⟨w.heap.size, 4, none⟩) hq).trans k4
  replace hq := Nat.lt_of_lt_of_le hq hb.size
  clear hb
  go_wp2_with fail
  go_ret
  exact ⟨rfl, hB⟩

set_option maxHeartbeats 4000000 in
theorem walk_u2 (p : Int) (x y : Nat) (AR : Option Addr) (cR : Nat) (R : List Int) (AC : Option Addr) (cC : Nat) (C : List Int) (_bx : x ≤ 255) (_by_ : y ≤ 255) (_wR : Nums R) (_wC : Nums C) (X Y : Nat) (eX : x % 13 = X) (eY : y % 13 = Y) (hs : (qOf p != 0) = true) (h1 : R.length = C.length) (h2 : 1 ≤ R.length) (h3 : R.length ≤ 8) (h4 : unlB R (1 + (X : Int)) = true) (h5 : unlB C (1 + (Y : Int)) = false) (w : World) (sR : Si w AR cR R) (sC : Si w AC cC C) :
    Calls Try.prog 5 #[.agg #[.int .u64 p, .int .u8 x, .int .u8 y, .slice AR R.length cR, .slice AC C.length cC]] w fun e w' => e = .returned (.bool true) ∧ Below w.heap.size w w' := by
  have rx : (x : Int).tmod 13 = X := by rw [← eX]; exact (Int.ofNat_tmod x 13).symm
  have ry : (y : Int).tmod 13 = Y := by rw [← eY]; exact (Int.ofNat_tmod y 13).symm
  have hX12 : X ≤ 12 := by omega
  have hY12 : Y ≤ 12 := by omega
  clear eX eY
  have gs := fun W => rSupported_any p W
  rw [hs] at gs
  have hC8 : C.length ≤ 8 := by omega
  have h1' : ((R.length : Int) != C.length) = false := by rw [h1]; simp
  have H1 := Lib.hid h1
  clear h1
  have h2' : ¬ (R.length : Int) < 1 := by omega
  have h3' : ¬ (8 : Int) < R.length := by omega
  have gu := fun W (q : Si W AR cR R) => unl_any AR cR R (1 + (X : Int)) (by omega) W q
  have gv := fun W (q : Si W AC cC C) => unl_any AC cC C (1 + (Y : Int)) (by omega) W q
  rw [h4] at gu
  rw [h5] at gv
  replace sR := sR.push (.cells #[.int .u64 p, .int .u8 x, .int .u8 y, .slice AR R.length cR, .slice AC C.length cC] 38)
  replace sC := sC.push (.cells #[.int .u64 p, .int .u8 x, .int .u8 y, .slice AR R.length cR, .slice AC C.length cC] 38)
  have k0 : (w.alloc (.cells #[.int .u64 p, .int .u8 x, .int .u8 y, .slice AR R.length cR, .slice AC C.length cC] 38)).cell? ⟨w.heap.size, 0, none⟩ = some (.int .u64 p) := by go_simp
  have k1 : (w.alloc (.cells #[.int .u64 p, .int .u8 x, .int .u8 y, .slice AR R.length cR, .slice AC C.length cC] 38)).cell? ⟨w.heap.size, 1, none⟩ = some (.int .u8 x) := by go_simp
  have k2 : (w.alloc (.cells #[.int .u64 p, .int .u8 x, .int .u8 y, .slice AR R.length cR, .slice AC C.length cC] 38)).cell? ⟨w.heap.size, 2, none⟩ = some (.int .u8 y) := by go_simp
  have k3 : (w.alloc (.cells #[.int .u64 p, .int .u8 x, .int .u8 y, .slice AR R.length cR, .slice AC C.length cC] 38)).cell? ⟨w.heap.size, 3, none⟩ = some (.slice AR R.length cR) := by go_simp
  have k4 : (w.alloc (.cells #[.int .u64 p, .int .u8 x, .int .u8 y, .slice AR R.length cR, .slice AC C.length cC] 38)).cell? ⟨w.heap.size, 4, none⟩ = some (.slice AC C.length cC) := by go_simp
  have hq : w.heap.size < (w.alloc (.cells #[.int .u64 p, .int .u8 x, .int .u8 y, .slice AR R.length cR, .slice AC C.length cC] 38)).heap.size := by simp
  have hB := bnew (Below.refl w.heap.size w) (.cells #[.int .u64 p, .int .u8 x, .int .u8 y, .slice AR R.length cR, .slice AC C.length cC] 38) (Nat.le_refl _)
  go_enter Try.func5, Try.ntmps5
  go_wp2_with fail
  refine (awake7_any _).mono ?_
  rintro e w1 ⟨rfl, hb⟩
  replace sR := sR.next hb
  replace sC := sC.next hb
  replace hB := hB.trans (hb.mono hB.size)
  replace k0 := (hb.cell (p := ⟨w.heap.size, 0, none⟩) hq).trans k0
  replace k1 := (hb.cell (p := ⟨w.heap.size, 1, none⟩) hq).trans k1
  replace k2 := (hb.cell (p := ⟨w.heap.size, 2, none⟩) hq).trans k2
  replace k3 := (hb.cell (p := ⟨w.heap.size, 3, none⟩) hq).trans k3
  replace k4 := (hb.cell (p := ⟨w.heap.size, 4, none⟩) hq).trans k4
  replace hq := Nat.lt_of_lt_of_le hq hb.size
  clear hb
  go_wp2_with fail
  refine (gs _).mono ?_
  rintro e w2 ⟨rfl, hb⟩
  replace sR := sR.next hb
  replace sC := sC.next hb
  replace hB := hB.trans (hb.mono hB.size)
  replace k0 := (hb.cell (p := ⟨w.heap.size, 0, none⟩) hq).trans k0
  replace k1 := (hb.cell (p := ⟨w.heap.size, 1, none⟩) hq).trans k1
  replace k2 := (hb.cell (p := ⟨w.heap.size, 2, none⟩) hq).trans k2
  replace k3 := (hb.cell (p := ⟨w.heap.size, 3, none⟩) hq).trans k3
  replace k4 := (hb.cell (p := ⟨w.heap.size, 4, none⟩) hq).trans k4
  replace hq := Nat.lt_of_lt_of_le hq hb.size
  clear hb
  go_wp2_with fail
  refine (gu _ sR).mono ?_
  rintro e w3 ⟨rfl, hb⟩
  replace sR := sR.next hb
  replace sC := sC.next hb
  replace hB := hB.trans (hb.mono hB.size)
  replace k0 := (hb.cell (p := ⟨w.heap.size, 0, none⟩) hq).trans k0
  replace k1 := (hb.cell (p := ⟨w.heap.size, 1, none⟩) hq).trans k1
  replace k2 := (hb.cell (p := ⟨w.heap.size, 2, none⟩) hq).trans k2
  replace k3 := (hb.cell (p := ⟨w.heap.size, 3, none⟩) hq).trans k3
  replace k4 := (hb.cell (p := ⟨w.heap.size, 4, none⟩) hq).trans k4
  replace hq := Nat.lt_of_lt_of_le hq hb.size
  clear hb
  go_wp2_with fail
  refine (gv _ sC).mono ?_
  rintro e w4 ⟨rfl, hb⟩
  replace sR := sR.next hb
  replace sC := sC.next hb
  replace hB := hB.trans (hb.mono hB.size)
  replace k0 := (hb.cell (p := ⟨w.heap.size, 0, none⟩) hq).trans k0
  replace k1 := (hb.cell (p := ⟨w.heap.size, 1, none⟩) hq).trans k1
  replace k2 := (hb.cell (p := ⟨w.heap.size, 2, none⟩) hq).trans k2
  replace k3 := (hb.cell (p := ⟨w.heap.size, 3, none⟩) hq).trans k3
  replace k4 := (hb.cell (p := ⟨w.heap.size, 4, none⟩) hq).trans k4
  replace hq := Nat.lt_of_lt_of_le hq hb.size
  clear hb
  go_wp2_with fail
  go_ret
  exact ⟨rfl, hB⟩

set_option maxHeartbeats 4000000 in
theorem walk_ok (p : Int) (x y : Nat) (AR : Option Addr) (cR : Nat) (R : List Int) (AC : Option Addr) (cC : Nat) (C : List Int) (_bx : x ≤ 255) (_by_ : y ≤ 255) (_wR : Nums R) (_wC : Nums C) (X Y : Nat) (eX : x % 13 = X) (eY : y % 13 = Y) (hs : (qOf p != 0) = true) (h1 : R.length = C.length) (h2 : 1 ≤ R.length) (h3 : R.length ≤ 8) (hp : OkP p) (h4 : unlB R (1 + (X : Int)) = true) (h5 : unlB C (1 + (Y : Int)) = true) (w : World) (sR : Si w AR cR R) (sC : Si w AC cC C) :
    Calls Try.prog 5 #[.agg #[.int .u64 p, .int .u8 x, .int .u8 y, .slice AR R.length cR, .slice AC C.length cC]] w fun e w' => e = .returned (.bool true) ∧ Below w.heap.size w w' := by
  have rx : (x : Int).tmod 13 = X := by rw [← eX]; exact (Int.ofNat_tmod x 13).symm
  have ry : (y : Int).tmod 13 = Y := by rw [← eY]; exact (Int.ofNat_tmod y 13).symm
  have hX12 : X ≤ 12 := by omega
  have hY12 : Y ≤ 12 := by omega
  clear eX eY
  have gs := fun W => rSupported_any p W
  rw [hs] at gs
  have hbd := hp.bd
  obtain ⟨r1, r2⟩ := of_decide_eq_true h4
  obtain ⟨c1, c2⟩ := of_decide_eq_true h5
  have cX : ((1 + X : Nat) : Int) = 1 + (X : Int) := by omega
  have cY : ((1 + Y : Nat) : Int) = 1 + (Y : Int) := by omega
  have gn := fun W => new_ok p hp (1 + X) (1 + Y) (by omega) (by omega) (by omega) W
  rw [cX, cY] at gn
  have hMat := nw_mat (p := p) (by omega) (1 + X) (1 + Y)
  have hSB : subB (nw p (1 + X) (1 + Y)) R C = true := subB_iff.2 ⟨fun i hi => by rw [nw_len]; have := r1 i hi; omega, fun i hi j hj => by
    have := r1 i hi
    rw [(hMat.ro (show i.toNat < 1 + X by omega)).1]
    have := c1 j hj
    omega⟩
  have gb := fun W A c (q1 : Sll W A c (nw p (1 + X) (1 + Y))) (q2 : Si W AR cR R) (q3 : Si W AC cC C) => sub_ok A AR AC c cR cC (nw p (1 + X) (1 + Y)) R C (by rw [nw_len]; omega) (fun i => by
    by_cases hi : i < 1 + X
    · rw [(hMat.ro hi).1]; omega
    · unfold ro; rw [List.getElem?_eq_none (by rw [nw_len]; omega)]; exact Nat.zero_le _) (by omega) (by omega) hSB W q1 q2 q3
  obtain ⟨d1, d2⟩ := sub_det hp.good (rows := 1 + X) (cols := 1 + Y) (by omega) (fun i hi => by have := r1 i hi; omega) (fun i hi => by have := c1 i hi; omega) r2 c2 h1 (by omega)
  have hMS := subM_mat (p := p) (by omega) hMat R C (fun i hi => by have := r1 i hi; omega)
  have gd := fun W A c (q : Sll W A c (subM (nw p (1 + X) (1 + Y)) R C)) => det_ok p hp A c _ (hMS.sized (by omega) (by omega)) hMS.els d1 W q
  have d2' : (dtm p (subM (nw p (1 + X) (1 + Y)) R C) != 0) = true := bne_iff_ne.2 d2
  have hC8 : C.length ≤ 8 := by omega
  have h1' : ((R.length : Int) != C.length) = false := by rw [h1]; simp
  have H1 := Lib.hid h1
  clear h1
  have h2' : ¬ (R.length : Int) < 1 := by omega
  have h3' : ¬ (8 : Int) < R.length := by omega
  have gu := fun W (q : Si W AR cR R) => unl_any AR cR R (1 + (X : Int)) (by omega) W q
  have gv := fun W (q : Si W AC cC C) => unl_any AC cC C (1 + (Y : Int)) (by omega) W q
  rw [h4] at gu
  rw [h5] at gv
  clear d1 d2 hMS hSB hMat r1 r2 c1 c2
  generalize subM (nw p (1 + X) (1 + Y)) R C = SQ at *
  generalize dtm p SQ = D at *
  generalize nw p (1 + X) (1 + Y) = MM at *
  replace sR := sR.push (.cells #[.int .u64 p, .int .u8 x, .int .u8 y, .slice AR R.length cR, .slice AC C.length cC] 38)
  replace sC := sC.push (.cells #[.int .u64 p, .int .u8 x, .int .u8 y, .slice AR R.length cR, .slice AC C.length cC] 38)
  have k0 : (w.alloc (.cells #[.int .u64 p, .int .u8 x, .int .u8 y, .slice AR R.length cR, .slice AC C.length cC] 38)).cell? ⟨w.heap.size, 0, none⟩ = some (.int .u64 p) := by go_simp
  have k1 : (w.alloc (.cells #[.int .u64 p, .int .u8 x, .int .u8 y, .slice AR R.length cR, .slice AC C.length cC] 38)).cell? ⟨w.heap.size, 1, none⟩ = some (.int .u8 x) := by go_simp
  have k2 : (w.alloc (.cells #[.int .u64 p, .int .u8 x, .int .u8 y, .slice AR R.length cR, .slice AC C.length cC] 38)).cell? ⟨w.heap.size, 2, none⟩ = some (.int .u8 y) := by go_simp
  have k3 : (w.alloc (.cells #[.int .u64 p, .int .u8 x, .int .u8 y, .slice AR R.length cR, .slice AC C.length cC] 38)).cell? ⟨w.heap.size, 3, none⟩ = some (.slice AR R.length cR) := by go_simp
  have k4 : (w.alloc (.cells #[.int .u64 p, .int .u8 x, .int .u8 y, .slice AR R.length cR, .slice AC C.length cC] 38)).cell? ⟨w.heap.size, 4, none⟩ = some (.slice AC C.length cC) := by go_simp
  have hq : w.heap.size < (w.alloc (.cells #[.int .u64 p, .int .u8 x, .int .u8 y, .slice AR R.length cR, .slice AC C.length cC] 38)).heap.size := by simp
  have hB := bnew (Below.refl w.heap.size w) (.cells #[.int .u64 p, .int .u8 x, .int .u8 y, .slice AR R.length cR, .slice AC C.length cC] 38) (Nat.le_refl _)
  go_enter Try.func5, Try.ntmps5
  go_wp2_with fail
  refine (awake7_any _).mono ?_
  rintro e w1 ⟨rfl, hb⟩
  replace sR := sR.next hb
  replace sC := sC.next hb
  replace hB := hB.trans (hb.mono hB.size)
  replace k0 := (hb.cell (p := ⟨w.heap.size, 0, none⟩) hq).trans k0
  replace k1 := (hb.cell (p := ⟨w.heap.size, 1, none⟩) hq).trans k1
  replace k2 := (hb.cell (p := ⟨w.heap.size, 2, none⟩) hq).trans k2
  replace k3 := (hb.cell (p := ⟨w.heap.size, 3, none⟩) hq).trans k3
  replace k4 := (hb.cell (p := ⟨w.heap.size, 4, none⟩) hq).trans k4
  replace hq := Nat.lt_of_lt_of_le hq hb.size
  clear hb
  go_wp2_with fail
  refine (gs _).mono ?_
  rintro e w2 ⟨rfl, hb⟩
  replace sR := sR.next hb
  replace sC := sC.next hb
  replace hB := hB.trans (hb.mono hB.size)
  replace k0 := (hb.cell (p := ⟨w.heap.size, 0, none⟩) hq).trans k0
  replace k1 := (hb.cell (p := ⟨w.heap.size, 1, none⟩) hq).trans k1
  replace k2 := (hb.cell (p := ⟨w.heap.size, 2, none⟩) hq).trans k2
  replace k3 := (hb.cell (p := ⟨w.heap.size, 3, none⟩) hq).trans k3
  replace k4 := (hb.cell (p := ⟨w.heap.size, 4, none⟩) hq).trans k4
  replace hq := Nat.lt_of_lt_of_le hq hb.size
  clear hb
  go_wp2_with fail
  refine (gu _ sR).mono ?_
  rintro e w3 ⟨rfl, hb⟩
  replace sR := sR.next hb
  replace sC := sC.next hb
  replace hB := hB.trans (hb.mono hB.size)
  replace k0 := (hb.cell (p := ⟨w.heap.size, 0, none⟩) hq).trans k0
  replace k1 := (hb.cell (p := ⟨w.heap.size, 1, none⟩) hq).trans k1
  replace k2 := (hb.cell (p := ⟨w.heap.size, 2, none⟩) hq).trans k2
  replace k3 := (hb.cell (p := ⟨w.heap.size, 3, none⟩) hq).trans k3
  replace k4 := (hb.cell (p := ⟨w.heap.size, 4, none⟩) hq).trans k4
  replace hq := Nat.lt_of_lt_of_le hq hb.size
  clear hb
  go_wp2_with fail
  refine (gv _ sC).mono ?_
  rintro e w4 ⟨rfl, hb⟩
  replace sR := sR.next hb
  replace sC := sC.next hb
  replace hB := hB.trans (hb.mono hB.size)
  replace k0 := (hb.cell (p := ⟨w.heap.size, 0, none⟩) hq).trans k0
  replace k1 := (hb.cell (p := ⟨w.heap.size, 1, none⟩) hq).trans k1
  replace k2 := (hb.cell (p := ⟨w.heap.size, 2, none⟩) hq).trans k2
  replace k3 := (hb.cell (p := ⟨w.heap.size, 3, none⟩) hq).trans k3
  replace k4 := (hb.cell (p := ⟨w.heap.size, 4, none⟩) hq).trans k4
  replace hq := Nat.lt_of_lt_of_le hq hb.size
  clear hb
  go_wp2_with fail
  refine (gn _).mono ?_
  rintro e w5 ⟨Am, cm, rfl, sm, hb⟩
  replace sR := sR.next hb
  replace sC := sC.next hb
  replace hB := hB.trans (hb.mono hB.size)
  replace k0 := (hb.cell (p := ⟨w.heap.size, 0, none⟩) hq).trans k0
  replace k1 := (hb.cell (p := ⟨w.heap.size, 1, none⟩) hq).trans k1
  replace k2 := (hb.cell (p := ⟨w.heap.size, 2, none⟩) hq).trans k2
  replace k3 := (hb.cell (p := ⟨w.heap.size, 3, none⟩) hq).trans k3
  replace k4 := (hb.cell (p := ⟨w.heap.size, 4, none⟩) hq).trans k4
  replace hq := Nat.lt_of_lt_of_le hq hb.size
  clear hb
  go_wp2_with fail
  refine (gb _ _ _ sm sR sC).mono ?_
  rintro e w6 ⟨Aq, cq, rfl, sq, hb⟩
  replace sR := sR.next hb
  replace sC := sC.next hb
  replace hB := hB.trans (hb.mono hB.size)
  replace k0 := (hb.cell (p := ⟨w.heap.size, 0, none⟩) hq).trans k0
  replace k1 := (hb.cell (p := ⟨w.heap.size, 1, none⟩) hq).trans k1
  replace k2 := (hb.cell (p := ⟨w.heap.size, 2, none⟩) hq).trans k2
  replace k3 := (hb.cell (p := ⟨w.heap.size, 3, none⟩) hq).trans k3
  replace k4 := (hb.cell (p := ⟨w.heap.size, 4, none⟩) hq).trans k4
  replace hq := Nat.lt_of_lt_of_le hq hb.size
  clear hb sm
  go_wp2_with fail
  refine (gd _ _ _ sq).mono ?_
  rintro e w7 ⟨rfl, hb⟩
  replace sR := sR.next hb
  replace sC := sC.next hb
  replace hB := hB.trans (hb.mono hB.size)
  replace k0 := (hb.cell (p := ⟨w.heap.size, 0, none⟩) hq).trans k0
  replace k1 := (hb.cell (p := ⟨w.heap.size, 1, none⟩) hq).trans k1
  replace k2 := (hb.cell (p := ⟨w.heap.size, 2, none⟩) hq).trans k2
  replace k3 := (hb.cell (p := ⟨w.heap.size, 3, none⟩) hq).trans k3
  replace k4 := (hb.cell (p := ⟨w.heap.size, 4, none⟩) hq).trans k4
  replace hq := Nat.lt_of_lt_of_le hq hb.size
  clear hb sq
  go_wp2_with fail
  go_ret
  exact ⟨rfl, hB⟩

set_option maxHeartbeats 4000000 in
theorem walk (p : Int) (x y : Nat) (AR : Option Addr) (cR : Nat) (R : List Int) (AC : Option Addr) (cC : Nat) (C : List Int) (bx : x ≤ 255) (by_ : y ≤ 255) (wR : Nums R) (wC : Nums C)  (w : World) (sR : Si w AR cR R) (sC : Si w AC cC C) :
    Calls Try.prog 5 #[.agg #[.int .u64 p, .int .u8 x, .int .u8 y, .slice AR R.length cR, .slice AC C.length cC]] w fun e w' => e = .returned (.bool true) ∧ Below w.heap.size w w' := by
  rcases sup_cases p with hs | ⟨hs, hp⟩
  · exact walk_unsup p x y AR cR R AC cC C bx by_ wR wC (x % 13) (y % 13) rfl rfl hs w sR sC
  · by_cases h1 : R.length = C.length
    · by_cases h2 : R.length < 1
      · exact walk_lt p x y AR cR R AC cC C bx by_ wR wC (x % 13) (y % 13) rfl rfl hs h1 h2 w sR sC
      · by_cases h3 : 8 < R.length
        · exact walk_gt p x y AR cR R AC cC C bx by_ wR wC (x % 13) (y % 13) rfl rfl hs h1 h3 w sR sC
        · cases h4 : unlB R (1 + ((x % 13 : Nat) : Int)) with
          | false => exact walk_u1 p x y AR cR R AC cC C bx by_ wR wC (x % 13) (y % 13) rfl rfl hs h1 (by omega) (by omega) h4 w sR sC
          | true =>
            cases h5 : unlB C (1 + ((y % 13 : Nat) : Int)) with
            | false => exact walk_u2 p x y AR cR R AC cC C bx by_ wR wC (x % 13) (y % 13) rfl rfl hs h1 (by omega) (by omega) h4 h5 w sR sC
            | true => exact walk_ok p x y AR cR R AC cC C bx by_ wR wC (x % 13) (y % 13) rfl rfl hs h1 (by omega) (by omega) hp h4 h5 w sR sC
    · exact walk_ne p x y AR cR R AC cC C bx by_ wR wC (x % 13) (y % 13) rfl rfl hs h1 w sR sC

theorem lifted (os : Os) (started : os.Started) (H : Type) (enc : TypeId × Value → H) :
    ReturnsInHanded {} Try.checked os 5 .any (Rows.hyperinvertibleEverySquareSubmatrixSpec.pre6 enc Try.prog Try.f5 Rows.hyperinvertibleEverySquareSubmatrixRow.domain false) (Rows.hyperinvertibleEverySquareSubmatrixSpec.post enc Try.prog Try.f5 false true false false) := by
  refine returnsInHanded_of_change (C := Try.checked) own started (by kernel_rfl) Try.func5
    (ChangeSpec.witness6 (enc := enc) (C := Try.checked) false ⟨#[], #[.agg #[.int .u64 0, .int .u8 0, .int .u8 0, .slice none 0 0, .slice none 0 0]], []⟩ 8 (by kernel_rfl) (by kernel_rfl) (by kernel_rfl) (by kernel_rfl)) ?_
  intro W base args ds gs before hval0 hW hcnd _
  have hval : ∀ (j : Nat) t v, Try.f5.params[j]? = some t → args[j]? = some v → Value.okWide Try.prog W .any base t v := hval0
  have hW' := hW
  obtain ⟨p, q, hA0, hV, rfl, hfz, hnd⟩ := hW
  have hA : DataW.TrodAll enc Try.prog W 0 (fun _ => true) true Try.f5.params.toList args.toList ds p := hA0
  rw [Try.params5] at hA hval
  obtain ⟨v0, d0, rfl, rfl, t0⟩ := trodAll_one hA
  obtain ⟨rfl, rfl⟩ := trodVars_none hV
  clear hA0 hval0
  simp only [List.append_nil] at hW'
  have l0 : ∀ x ∈ p, x.block < W.heap.size := fun x hx => hW'.lt x (by simp [hx])
  obtain ⟨x0, y0, z0, A0, R0, c0, B0, C0, e0, rfl, b1, b2, s1, w1, s2, w2⟩ := arg_ask7 (hval 0 38 v0 rfl rfl) t0 l0
  refine (walk x0 y0 z0 A0 c0 R0 B0 e0 C0 b1 b2 w1 w2 W s1 s2).mono fun e W' ⟨he, hb⟩ => ?_
  subst he
  exact ⟨_, rfl, post_of_below (pa := p) (pv := []) hW' (fun _ _ _ => (trodAll_cons_mk (shut_bool Try.underlying4 _) trodAll_mk0)) (fun sp hsp => trodAll_mk1 (stay_ask7 t0 hb l0 sp (fun x hx => hsp x (by simp [hx])))) (fun _ _ => rfl) (by simp)
    hb (ok_one (by kernel_rfl) rfl (okWide_bool_mk Try.underlying4 _))⟩

theorem over : Rows.hyperinvertibleEverySquareSubmatrixRow.holds Try.pinned (OpenSpec.ofChange Rows.hyperinvertibleEverySquareSubmatrixSpec) :=
  OpenClaim.holds_of_wide 5 Try.f5 rfl rfl rfl rfl rfl rfl rfl ⟨rfl, rfl, rfl, rfl, rfl⟩ rfl rfl rfl rfl rfl (by kernel_rfl) Try.func5 (by kernel_rfl)
    (of_decide_eq_true (by kernel_rfl)) (by unfold Func.isWrapper; first | (rw [if_pos (by decide +kernel)]; kernel_rfl) | (rw [if_neg (by decide +kernel)]; exact ⟨rfl, rfl⟩))
    (fun os started H enc _ => lifted os started H enc)

theorem proved : Rows.HyperinvertibleEverySquareSubmatrixSaid := over
end Go.Proofs.Ytjijlefplidhpaa.hyperinvertibleEverySquareSubmatrix
