/- Add and Sub of package poly: the trimmed sum and difference; nothing that lay is changed. Conditions: a supported prime, polynomials over its field of at most 400 coefficients. -/
import Derived.Test.YtkkfkkicbgejaaaPMul
namespace Go.Proofs.Ytkkfkkicbgejaaa
set_option maxRecDepth 100000
open Go.RowKit PolyMath FieldMath

/-- The entries made so far. -/
def cmbL (o : Int → Int → Int) (a b : List Int) (N k : Nat) : List Int := (List.range N).map fun n => if n < k then o (co a n) (co b n) else 0
theorem cmbL_len (o : Int → Int → Int) (a b : List Int) (N k : Nat) : (cmbL o a b N k).length = N := by unfold cmbL; simp
theorem cmbL_start (o : Int → Int → Int) (a b : List Int) (N : Nat) : cmbL o a b N 0 = List.replicate N 0 := by
  rw [← map_zero 1]; exact map_ext fun n _ => by rw [if_neg (by omega), Int.zero_emod]
theorem cmbL_get (o : Int → Int → Int) (a b : List Int) (N k n : Nat) (h : n < N) : (cmbL o a b N k)[n]? = some (if n < k then o (co a n) (co b n) else 0) := map_get (fun n => if n < k then o (co a n) (co b n) else 0) h
theorem cmbL_set (o : Int → Int → Int) (a b : List Int) (N k : Nat) : (cmbL o a b N k).set k (o (co a k) (co b k)) = cmbL o a b N (k + 1) :=
  map_set N k (by rw [if_pos (by omega)]) fun n hn => by
    by_cases h : n < k
    · rw [if_pos h, if_pos (by omega)]
    · rw [if_neg h, if_neg (by omega)]
theorem co_cmbL (o : Int → Int → Int) (a b : List Int) (N n : Nat) (h0 : o 0 0 = 0) (ha : tn a ≤ N) (hb : tn b ≤ N) : co (cmbL o a b N N) n = o (co a n) (co b n) := by
  unfold cmbL
  rw [co_map]
  by_cases h : n < N
  · rw [if_pos h, if_pos h]
  · rw [if_neg h, tn_fin a n (by omega), tn_fin b n (by omega), h0]
theorem cmbL_add (p : Int) (a b : List Int) (N : Nat) (ha : tn a ≤ N) (hb : tn b ≤ N) : trim (cmbL (fadd p) a b N N) = padd p a b :=
  nf_of (padd_fin a b).mod fun n => co_cmbL (fadd p) a b N n (by unfold fadd; simp) ha hb
theorem cmbL_sub (p : Int) (a b : List Int) (N : Nat) (ha : tn a ≤ N) (hb : tn b ≤ N) : trim (cmbL (fsub p) a b N N) = psub p a b :=
  nf_of (psub_fin a b).mod fun n => co_cmbL (fsub p) a b N n (by unfold fsub; simp) ha hb

set_option maxHeartbeats 2000000 in
theorem combine_add (p : Int) (hp : OkP p) (A B : Option Addr) (ca cb : Nat) (a b : List Int) (ha : El p a) (hb : El p b) (la : a.length ≤ 400) (lb : b.length ≤ 400) (w : World)
    (hra : Sl w A ca a) (hrb : Sl w B cb b) :
    Calls Try.prog 80 #[.int .u64 p, .slice A a.length ca, .slice B b.length cb, .func (.func 41) #[] #[]] w fun e w' => Row w e w' (padd p a b) := by
  obtain ⟨i0, hi, hz0, hz1, hz2⟩ := info_parts info_u64
  have hbd := hp.bd
  have hd1 := degree_any A ca a w hra (by omega)
  have hd2 := degree_any B cb b w hrb (by omega)
  have hla := tn_le a
  have hlb := tn_le b
  obtain ⟨N, hN⟩ : ∃ N : Nat, N = max (tn a) (tn b) := ⟨_, rfl⟩
  have hE := Lib.hid (cmbL_add p a b N (by omega) (by omega))
  have hN400 : N ≤ 400 := by omega
  have hNI : max ((tn a : Int) - 1) ((tn b : Int) - 1) + 1 = N := by omega
  have hb8 : i0.bytes * N ≤ 281474976710656 := by rw [hz2]; omega
  have hB8 := Lib.hid hb8
  clear hb8 hN
  generalize tn a = m at *
  generalize tn b = n at *
  have hNH := Lib.hid hNI
  clear hNI
  go_enter Try.func80, Try.ntmps80
  go_wp2_with fail
  refine hd1.mono ?_; rintro e w' ⟨rfl, rfl⟩
  go_wp2_with fail
  refine hd2.mono ?_; rintro e w' ⟨rfl, rfl⟩
  go_wp2_with (at_make; refine wpList_make_full _ rfl _ _ 33 rfl w.heap.size 22 i0 (.int .u64 0) 1 Try.underlying33 hi hz0 hz1 .i64 .i64 _ _ N rfl rfl (by have := hNH.out; omega) (by have := hNH.out; omega) hB8.out (by simp only [maxLen]; omega) (Nat.le_refl _) ?_; intro w1 hown1 hgrow1)
  all_goals
    have hb1 : Below w.heap.size w w1 := (Below.refl _ w).grown hgrow1 (Nat.le_refl _) (fun k e => by cases e)
    simp only [Value.cells, toList_madeCells_one, Nat.mul_one] at hown1
    have hown2 : OwnAt w1 w.heap.size w.heap.size N N (cmbL (fadd p) a b N 0) := by
      unfold OwnAt; rw [cmbL_start]; simpa using hown1
    clear hown1 hgrow1
    go_loopw [20] (fun i wr => ∃ k : Nat, k ≤ N ∧ i = .int .i64 k ∧ OwnAt wr w.heap.size w.heap.size N N (cmbL (fadd p) a b N k) ∧ Below w.heap.size w wr) (fun i _ => N - (intOf i).toNat)
    case atStart => exact ⟨0, Nat.zero_le _, rfl, hown2, hb1⟩
    case round =>
      obtain ⟨k, hk, rfl, hO, hB⟩ := hrel
      by_cases hlt : k < N
      · have hbx := coef_any A ca a k wr (hra.next hB)
        have hby := coef_any B cb b k wr (hrb.next hB)
        rw [coI_nat] at hbx hby
        have hxb := ha.co (p := p) (by omega) k
        have hyb := hb.co (p := p) (by omega) k
        have hset := cmbL_set (fadd p) a b N k
        generalize co a k = x at *
        generalize co b k = y at *
        have hS := Lib.hid hset
        have hcell := hO.cell (cmbL_get (fadd p) a b N k k hlt)
        have hfz := hO.frozen k
        have hput := Lib.hid (hO.put k (fadd p x y))
        have hkN : (k : Int) < N := by omega
        clear hset
        go_wp2_with (first | (go_at_call 75; refine hbx.mono ?_; clear hbx; rintro e w' ⟨rfl, rfl⟩) | (go_at_call 75; refine hby.mono ?_; clear hby; rintro e w' ⟨rfl, rfl⟩) | (go_at_call 41; refine (add_any _ _ _ hp hxb.1 hxb.2 hyb.1 hyb.2 _).mono ?_; rintro e w' ⟨rfl, rfl⟩))
        go_roundw
        case rel => exact ⟨k + 1, by omega, by simp, by rw [← hS.out]; exact hput.out, hB.setCell (p := ⟨w.heap.size, k, none⟩) (Nat.le_refl _) _⟩
        case measure => simp [intOf]; omega
      · obtain rfl : k = N := by omega
        have ht3 := trimmed_any _ _ _ wr hO.sl (by rw [cmbL_len]; omega)
        rw [cmbL_len, hE.out] at ht3
        have hs3 := hO.sl.trims
        rw [hE.out] at hs3
        have hS3 := Lib.hid hs3
        clear hs3 hO
        go_wp2_with (go_at_call 78; refine ht3.mono ?_; rintro e w' ⟨rfl, rfl⟩)
        go_ret
        exact ⟨_, _, rfl, hS3.out, hB⟩

theorem add_row (p : Int) (hp : OkP p) (A B : Option Addr) (ca cb : Nat) (a b : List Int) (ha : El p a) (hb : El p b) (la : a.length ≤ 400) (lb : b.length ≤ 400) (w : World)
    (hra : Sl w A ca a) (hrb : Sl w B cb b) :
    Calls Try.prog 57 #[.int .u64 p, .slice A a.length ca, .slice B b.length cb] w fun e w' => Row w e w' (padd p a b) := by
  have hm := combine_add p hp A B ca cb a b ha hb la lb w hra hrb
  go_enter Try.func57, Try.ntmps57
  go_wp2_with fail
  refine hm.mono ?_; rintro e w2 ⟨A2, c2, rfl, hs2, hb2⟩
  have hS := Lib.hid hs2
  clear hs2 hm
  go_wp2_with fail
  go_ret
  exact ⟨A2, c2, rfl, hS.out, hb2⟩

set_option maxHeartbeats 2000000 in
theorem combine_sub (p : Int) (hp : OkP p) (A B : Option Addr) (ca cb : Nat) (a b : List Int) (ha : El p a) (hb : El p b) (la : a.length ≤ 400) (lb : b.length ≤ 400) (w : World)
    (hra : Sl w A ca a) (hrb : Sl w B cb b) :
    Calls Try.prog 80 #[.int .u64 p, .slice A a.length ca, .slice B b.length cb, .func (.func 77) #[] #[]] w fun e w' => Row w e w' (psub p a b) := by
  obtain ⟨i0, hi, hz0, hz1, hz2⟩ := info_parts info_u64
  have hbd := hp.bd
  have hd1 := degree_any A ca a w hra (by omega)
  have hd2 := degree_any B cb b w hrb (by omega)
  have hla := tn_le a
  have hlb := tn_le b
  obtain ⟨N, hN⟩ : ∃ N : Nat, N = max (tn a) (tn b) := ⟨_, rfl⟩
  have hE := Lib.hid (cmbL_sub p a b N (by omega) (by omega))
  have hN400 : N ≤ 400 := by omega
  have hNI : max ((tn a : Int) - 1) ((tn b : Int) - 1) + 1 = N := by omega
  have hb8 : i0.bytes * N ≤ 281474976710656 := by rw [hz2]; omega
  have hB8 := Lib.hid hb8
  clear hb8 hN
  generalize tn a = m at *
  generalize tn b = n at *
  have hNH := Lib.hid hNI
  clear hNI
  go_enter Try.func80, Try.ntmps80
  go_wp2_with fail
  refine hd1.mono ?_; rintro e w' ⟨rfl, rfl⟩
  go_wp2_with fail
  refine hd2.mono ?_; rintro e w' ⟨rfl, rfl⟩
  go_wp2_with (at_make; refine wpList_make_full _ rfl _ _ 33 rfl w.heap.size 22 i0 (.int .u64 0) 1 Try.underlying33 hi hz0 hz1 .i64 .i64 _ _ N rfl rfl (by have := hNH.out; omega) (by have := hNH.out; omega) hB8.out (by simp only [maxLen]; omega) (Nat.le_refl _) ?_; intro w1 hown1 hgrow1)
  all_goals
    have hb1 : Below w.heap.size w w1 := (Below.refl _ w).grown hgrow1 (Nat.le_refl _) (fun k e => by cases e)
    simp only [Value.cells, toList_madeCells_one, Nat.mul_one] at hown1
    have hown2 : OwnAt w1 w.heap.size w.heap.size N N (cmbL (fsub p) a b N 0) := by
      unfold OwnAt; rw [cmbL_start]; simpa using hown1
    clear hown1 hgrow1
    go_loopw [20] (fun i wr => ∃ k : Nat, k ≤ N ∧ i = .int .i64 k ∧ OwnAt wr w.heap.size w.heap.size N N (cmbL (fsub p) a b N k) ∧ Below w.heap.size w wr) (fun i _ => N - (intOf i).toNat)
    case atStart => exact ⟨0, Nat.zero_le _, rfl, hown2, hb1⟩
    case round =>
      obtain ⟨k, hk, rfl, hO, hB⟩ := hrel
      by_cases hlt : k < N
      · have hbx := coef_any A ca a k wr (hra.next hB)
        have hby := coef_any B cb b k wr (hrb.next hB)
        rw [coI_nat] at hbx hby
        have hxb := ha.co (p := p) (by omega) k
        have hyb := hb.co (p := p) (by omega) k
        have hset := cmbL_set (fsub p) a b N k
        generalize co a k = x at *
        generalize co b k = y at *
        have hS := Lib.hid hset
        have hcell := hO.cell (cmbL_get (fsub p) a b N k k hlt)
        have hfz := hO.frozen k
        have hput := Lib.hid (hO.put k (fsub p x y))
        have hkN : (k : Int) < N := by omega
        clear hset
        go_wp2_with (first | (go_at_call 75; refine hbx.mono ?_; clear hbx; rintro e w' ⟨rfl, rfl⟩) | (go_at_call 75; refine hby.mono ?_; clear hby; rintro e w' ⟨rfl, rfl⟩) | (go_at_call 77; refine (sub_any _ _ _ hp hxb.1 hxb.2 hyb.1 hyb.2 _).mono ?_; rintro e w' ⟨rfl, rfl⟩))
        go_roundw
        case rel => exact ⟨k + 1, by omega, by simp, by rw [← hS.out]; exact hput.out, hB.setCell (p := ⟨w.heap.size, k, none⟩) (Nat.le_refl _) _⟩
        case measure => simp [intOf]; omega
      · obtain rfl : k = N := by omega
        have ht3 := trimmed_any _ _ _ wr hO.sl (by rw [cmbL_len]; omega)
        rw [cmbL_len, hE.out] at ht3
        have hs3 := hO.sl.trims
        rw [hE.out] at hs3
        have hS3 := Lib.hid hs3
        clear hs3 hO
        go_wp2_with (go_at_call 78; refine ht3.mono ?_; rintro e w' ⟨rfl, rfl⟩)
        go_ret
        exact ⟨_, _, rfl, hS3.out, hB⟩

end Go.Proofs.Ytkkfkkicbgejaaa
