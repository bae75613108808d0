/- Width of package bits and of the reference; the functions of the reference that only read: Are, Same, Less, Equal, ToUint; and ToUint of package bits. Conditions: lists of at most 1000 elements where a loop goes through them. -/
import Derived.WalkSmall
import Derived.Test.YtcjibadnhhnpmaaBMem
namespace Go.Proofs.Ytcjibadnhhnpmaa
open Go.RowKit BitMath

/-- How many bits a positive number needs, and 0 else. -/
def wz (q : Int) : Int := if 0 < q then (wid q.toNat : Int) else 0
/-- How many bits a number needs, at least one. -/
def widI (n : Int) : Int := 1 + wz (n / 2)

theorem wz_zero {q : Int} (h : q ≤ 0) : wz q = 0 := if_neg (by omega)
theorem wz_step {q : Int} (h : 0 < q) : wz q = 1 + wz (q / 2) := by
  unfold wz
  rw [if_pos h]
  rcases Int.lt_or_le 1 q with h1 | h1
  · rw [wid_big (by omega), if_pos (by omega), show (q / 2).toNat = q.toNat / 2 from by omega]; omega
  · rw [wid_small (by omega), if_neg (by omega)]; rfl
theorem wz_nonneg (q : Int) : 0 ≤ wz q := by unfold wz; split <;> omega
theorem widI_eq {n : Int} (h : 0 ≤ n) : widI n = (wid n.toNat : Int) := by
  unfold widI
  rcases Int.lt_or_le 0 n with h1 | h1
  · rw [← wz_step h1]; exact if_pos h1
  · obtain rfl : n = 0 := by omega
    rw [show (0 : Int).toNat = 0 from rfl, wid_small (by omega)]; rfl
theorem widI_le64 {n : Int} (h : 0 ≤ n) (h1 : n ≤ 18446744073709551615) : widI n ≤ 64 := by
  rw [widI_eq h]; have := wid_le64 n.toNat (by omega); omega
theorem widI_le {n : Int} (h : 0 ≤ n) {k : Nat} (hk : 1 ≤ k) : widI n ≤ k ↔ n < 2 ^ k := by
  obtain ⟨j, rfl⟩ : ∃ j, k = j + 1 := ⟨k - 1, by omega⟩
  rw [widI_eq h]
  have h1 := wid_le j n.toNat
  have h2 : (n.toNat : Int) = n := Int.toNat_of_nonneg h
  constructor
  · intro h3
    have h4 : n.toNat < 2 ^ (j + 1) := h1.1 (by omega)
    have h5 : ((n.toNat : Nat) : Int) < ((2 ^ (j + 1) : Nat) : Int) := Int.ofNat_lt.2 h4
    rw [h2, Int.natCast_pow] at h5
    exact h5
  · intro h3
    have h4 : n.toNat < 2 ^ (j + 1) := Int.ofNat_lt.1 (by rw [h2, Int.natCast_pow]; exact h3)
    have := h1.2 h4
    omega

theorem width_any (n : Int) (h0 : 0 ≤ n) (h1 : n ≤ 18446744073709551615) (w : World) :
    Calls Try.prog 14 #[.int .u64 n] w fun e w' => e = .returned (.int .i64 (widI n)) ∧ w = w' := by
  have hle := widI_le64 h0 h1
  obtain ⟨T, hT⟩ : ∃ T, widI n = T := ⟨_, rfl⟩
  have h2 : (1 : Int) + wz (n / 2) = T := hT
  rw [hT] at hle ⊢
  have H2 := Lib.hid h2
  clear h2 hT
  go_enter Try.func14, Try.ntmps14
  go_wp2
  go_loop [0, 3] (fun a b => ∃ q v : Int, 0 ≤ q ∧ q ≤ 18446744073709551615 ∧ a = .int .u64 q ∧ b = .int .i64 v ∧ 0 ≤ v ∧ Hid (v + wz q = T)) (fun a _ => (intOf a).toNat)
  case atStart => exact ⟨n / 2, 1, by omega, by omega, rfl, rfl, by omega, H2⟩
  case round =>
    obtain ⟨q, v, hq0, hq1, rfl, rfl, hv0, hE⟩ := hrel
    have hw := wz_nonneg q
    have hvT : v ≤ T := by have := hE.out; omega
    clear hw
    go_wp2
    · have hlt : 0 < q := by assumption
      have hs := wz_step hlt
      go_round
      case rel => exact ⟨q / 2, v + 1, by omega, by omega, rfl, rfl, by omega, Lib.hid (by have := hE.out; omega)⟩
      case measure => simp [intOf]; omega
    · have hge : q ≤ 0 := by assumption
      go_ret
      exact ⟨by have := hE.out; rw [wz_zero hge] at this; rw [← this, Int.add_zero]; rfl, rfl⟩

theorem rWidth_any (n : Int) (h0 : 0 ≤ n) (h1 : n ≤ 18446744073709551615) (w : World) :
    Calls Try.prog 15 #[.int .u64 n] w fun e w' => e = .returned (.int .i64 (widI n)) ∧ w = w' := by
  have hle := widI_le64 h0 h1
  obtain ⟨T, hT⟩ : ∃ T, widI n = T := ⟨_, rfl⟩
  have h2 : (1 : Int) + wz (n / 2) = T := hT
  rw [hT] at hle ⊢
  have H2 := Lib.hid h2
  clear h2 hT
  go_enter Try.func15, Try.ntmps15
  go_wp2
  go_loop [0, 3] (fun a b => ∃ q v : Int, 0 ≤ q ∧ q ≤ 18446744073709551615 ∧ a = .int .u64 q ∧ b = .int .i64 v ∧ 0 ≤ v ∧ Hid (v + wz (q / 2) = T)) (fun a _ => (intOf a).toNat)
  case atStart => exact ⟨n, 1, by omega, by omega, rfl, rfl, by omega, H2⟩
  case round =>
    obtain ⟨q, v, hq0, hq1, rfl, rfl, hv0, hE⟩ := hrel
    have hw := wz_nonneg (q / 2)
    have hvT : v ≤ T := by have := hE.out; omega
    clear hw
    go_wp2
    · have hlt : 1 < q := by assumption
      have hs := wz_step (q := q / 2) (by omega)
      go_round
      case rel => exact ⟨q / 2, v + 1, by omega, by omega, rfl, rfl, by omega, Lib.hid (by have := hE.out; omega)⟩
      case measure => simp [intOf]; omega
    · have hge : q ≤ 1 := by assumption
      go_ret
      exact ⟨by have := hE.out; rw [wz_zero (q := q / 2) (by omega)] at this; rw [← this, Int.add_zero]; rfl, rfl⟩

/-- No element is above 1. -/
def isBits (xs : List Int) : Bool := xs.all fun x => decide (x ≤ 1)
theorem isBits_snoc (xs : List Int) (x : Int) : isBits (xs ++ [x]) = (isBits xs && decide (x ≤ 1)) := by simp [isBits]
theorem isBits_iff {xs : List Int} (h : ∀ x ∈ xs, 0 ≤ x) : isBits xs = true ↔ Bits xs := by
  unfold isBits Bits
  rw [List.all_eq_true]
  constructor
  · intro h1 x hx; have := of_decide_eq_true (h1 x hx); have := h x hx; omega
  · intro h1 x hx; have := h1 x hx; exact decide_eq_true (by omega)
theorem isBits_of {xs : List Int} (h : Bits xs) : isBits xs = true := (isBits_iff fun x hx => by have := h x hx; omega).2 h
theorem isBits_bad {xs : List Int} {k : Nat} {x : Int} (hx : xs[k]? = some x) (h : 1 < x) : isBits xs = false := by
  cases e : isBits xs with
  | false => rfl
  | true => have := of_decide_eq_true ((List.all_eq_true.1 e) x (List.mem_of_getElem? hx)); omega
theorem isBits_next {xs : List Int} {k : Nat} {x : Int} (hx : xs[k]? = some x) (h : x ≤ 1) (hb : isBits (xs.take k) = true) : isBits (xs.take (k + 1)) = true := by
  obtain ⟨hk, e⟩ := List.getElem?_eq_some_iff.1 hx
  rw [List.take_succ_eq_append_getElem hk, isBits_snoc, hb, e, decide_eq_true h]; rfl

theorem are_any (A : Option Addr) (xs : List Int) (c B : Nat) (w : World) (h : Rd B w A xs) (hl : xs.length ≤ 1000) :
    Calls Try.prog 30 #[.slice A xs.length c] w fun e w' => e = .returned (.bool (isBits xs)) ∧ w = w' := by
  go_enter Try.func30, Try.ntmps30
  go_wp2
  go_loop [3] (fun i => ∃ k : Nat, k ≤ xs.length ∧ i = .int .i64 k ∧ Hid (isBits (xs.take k) = true)) (fun i => xs.length - (intOf i).toNat)
  case atStart => exact ⟨0, Nat.zero_le _, rfl, Lib.hid rfl⟩
  case round =>
    obtain ⟨k, hk, rfl, hE⟩ := hrel
    by_cases hlt : k < xs.length
    · obtain ⟨b, off, x, rfl, _, hx, hc⟩ := h.at_ hlt
      have hX := Lib.hid hx
      clear hx
      go_wp2
      · have h1 : 1 < x := by assumption
        go_ret
        exact ⟨by rw [isBits_bad hX.out h1]; rfl, rfl⟩
      · have h1 : x ≤ 1 := by assumption
        go_round
        case rel => exact ⟨k + 1, by omega, by simp, Lib.hid (isBits_next hX.out h1 hE.out)⟩
        case measure => simp [intOf]; omega
    · obtain rfl : k = xs.length := by omega
      go_wp2
      go_ret
      exact ⟨by have := hE.out; rw [take_all (Nat.le_refl _)] at this; rw [this]; rfl, rfl⟩

theorem take_next {xs ys : List Int} {k : Nat} {x : Int} (hx : xs[k]? = some x) (hy : ys[k]? = some x) (h : xs.take k = ys.take k) : xs.take (k + 1) = ys.take (k + 1) := by
  obtain ⟨h1, e1⟩ := List.getElem?_eq_some_iff.1 hx
  obtain ⟨h2, e2⟩ := List.getElem?_eq_some_iff.1 hy
  rw [List.take_succ_eq_append_getElem h1, List.take_succ_eq_append_getElem h2, h, e1, e2]

theorem same_any (A A' : Option Addr) (xs ys : List Int) (c c' : Nat) (w : World) (h : Rd w.heap.size w A xs) (h' : Rd w.heap.size w A' ys) (hl : xs.length ≤ 1000) :
    Calls Try.prog 13 #[.slice A xs.length c, .slice A' ys.length c'] w fun e w' => e = .returned (.bool (decide (xs = ys))) ∧ Below w.heap.size w w' := by
  by_cases hn : xs.length = ys.length
  · go_enter Try.func13, Try.ntmps13
    go_wp2
    go_loopw [5] (fun i wr => ∃ k : Nat, k ≤ xs.length ∧ i = .int .i64 k ∧ Hid (xs.take k = ys.take k) ∧ Below w.heap.size w wr) (fun i _ => xs.length - (intOf i).toNat)
    case atStart => exact ⟨0, Nat.zero_le _, rfl, Lib.hid rfl, Below.refl _ _⟩
    case round =>
      obtain ⟨k, hk, rfl, hE, hB⟩ := hrel
      by_cases hlt : k < xs.length
      · obtain ⟨b, off, x, rfl, _, hx, hc⟩ := (h.below hB).at_ hlt
        obtain ⟨b', off', y, rfl, _, hy, hc'⟩ := (h'.below hB).at_ (show k < ys.length by omega)
        have hX := Lib.hid hx
        have hY := Lib.hid hy
        have hi1 : (k : Int) < xs.length := by omega
        have hi2 : (k : Int) < ys.length := by omega
        clear hx hy
        by_cases hxy : x = y
        · subst hxy
          go_wp2
          go_quiet (fail)
          go_wp2
          go_roundw
          case rel => exact ⟨k + 1, by omega, by simp, Lib.hid (take_next hX.out hY.out hE.out), below_drewN hB _⟩
          case measure => simp [intOf]; omega
        · go_wp2
          go_quiet (fail)
          go_wp2
          go_ret
          exact ⟨by rw [decide_eq_false (fun e => hxy (by have h1 := hX.out; have h2 := hY.out; rw [e, h2] at h1; injection h1 with h1; exact h1.symm))]; rfl, below_drewN hB _⟩
      · obtain rfl : k = xs.length := by omega
        go_wp2
        go_ret
        exact ⟨by rw [decide_eq_true (by have := hE.out; rw [take_all (Nat.le_refl _), take_all (by omega)] at this; exact this)]; rfl, hB⟩
  · go_enter Try.func13, Try.ntmps13
    have hn' : ¬ (xs.length : Int) = ys.length := by omega
    go_wp2
    go_ret
    exact ⟨by rw [decide_eq_false (fun e => hn (by rw [e]))]; rfl, Below.refl _ _⟩

/-- The value and the error number of ToUint. -/
def tuVal (xs : List Int) : Int := if xs.length ≤ 60 ∧ isBits xs = true then val xs else 0
def tuErr (xs : List Int) : Int := if xs.length ≤ 60 ∧ isBits xs = true then 0 else 7
theorem tu_bad {xs : List Int} (h : ¬ (xs.length ≤ 60 ∧ isBits xs = true)) : tuVal xs = 0 ∧ tuErr xs = 7 := ⟨if_neg h, if_neg h⟩
theorem tu_good {xs : List Int} (h : xs.length ≤ 60 ∧ isBits xs = true) : tuVal xs = val xs ∧ tuErr xs = 0 := ⟨if_pos h, if_pos h⟩

theorem or_step {V x : Int} {k : Nat} (h0 : 0 ≤ V) (h1 : V < 2 ^ k) (hk : k ≤ 60) (hx : x = 0 ∨ x = 1) : bits BinOp.or IntKind.u64 V (IntKind.u64.wrap (x * 2 ^ k)) = V + 2 ^ k * x := by
  have hp : (2 : Nat) ^ k ≤ 2 ^ 60 := Nat.pow_le_pow_right (by omega) hk
  have hp' : (2 : Nat) ^ 60 = 1152921504606846976 := by decide
  have hv : (V.toNat : Int) = V := Int.toNat_of_nonneg h0
  have hlt : V.toNat < 2 ^ k := Int.ofNat_lt.1 (by rw [hv, Int.natCast_pow]; exact h1)
  rw [IntKind.wrap_u64]
  rcases hx with rfl | rfl
  · have h := bits_or_u64_nat V.toNat 0 (by omega) (by omega)
    rw [hv, Nat.or_zero, hv] at h
    rw [Int.zero_mul, Int.mul_zero, Int.add_zero]
    exact h
  · have h := bits_or_u64_nat V.toNat (2 ^ k) (by omega) (by omega)
    have e := Nat.two_pow_add_eq_or_of_lt hlt 1
    rw [Nat.mul_one, Nat.or_comm] at e
    rw [← e, hv] at h
    have e2 : ((2 ^ k : Nat) : Int) = 2 ^ k := Int.natCast_pow 2 k
    rw [Int.natCast_add, hv, e2] at h
    have e3 : (1 : Int) * 2 ^ k % 18446744073709551616 = 2 ^ k := by rw [Int.one_mul, ← e2]; omega
    rw [e3, Int.mul_one, h]; omega

theorem toUint_any (A : Option Addr) (xs : List Int) (c B : Nat) (w : World) (h : Rd B w A xs) (hpos : ∀ x ∈ xs, 0 ≤ x) :
    Calls Try.prog 16 #[.slice A xs.length c] w fun e w' => e = .returned (.tuple #[.int .u64 (tuVal xs), .int .i64 (tuErr xs)]) ∧ w = w' := by
  by_cases hl : xs.length ≤ 60
  · go_enter Try.func16, Try.ntmps16
    go_wp2
    go_loop [4, 12] (fun v i => ∃ k : Nat, k ≤ xs.length ∧ i = .int .i64 k ∧ v = .int .u64 (val (xs.take k)) ∧ Hid (isBits (xs.take k) = true)) (fun _ i => xs.length - (intOf i).toNat)
    case atStart => exact ⟨0, Nat.zero_le _, rfl, rfl, Lib.hid rfl⟩
    case round =>
      obtain ⟨k, hk, rfl, rfl, hE⟩ := hrel
      by_cases hlt : k < xs.length
      · obtain ⟨b, off, x, rfl, _, hx, hc⟩ := h.at_ hlt
        have hX := Lib.hid hx
        have hx0 := hpos x (List.mem_of_getElem? hx)
        have hB : Bits (xs.take k) := (isBits_iff (fun x hx => hpos x (List.mem_of_mem_take hx))).1 hE.out
        have a1 := val_nonneg hB
        have a2 := val_lt hB
        rw [List.length_take, Nat.min_eq_left (by omega)] at a2
        have hst := Lib.hid (fun hx1 : x = 0 ∨ x = 1 => or_step a1 a2 (by omega) hx1)
        clear hx a1 a2
        go_wp2
        · have h1 : 1 < x := by assumption
          go_ret2
          obtain ⟨e1, e2⟩ := tu_bad (xs := xs) (fun h => by rw [isBits_bad hX.out h1] at h; exact absurd h.2 (by decide))
          exact ⟨by rw [e1, e2]; rfl, rfl⟩
        · have h1 : x ≤ 1 := by assumption
          go_round
          case rel => exact ⟨k + 1, by omega, by simp, by rw [hst.out (by omega), val_take_succ, hX.out]; rfl, Lib.hid (isBits_next hX.out h1 hE.out)⟩
          case measure => simp [intOf]; omega
      · obtain rfl : k = xs.length := by omega
        go_wp2
        go_ret2
        have hE' := hE.out
        rw [take_all (Nat.le_refl _)] at hE'
        obtain ⟨e1, e2⟩ := tu_good (xs := xs) ⟨hl, hE'⟩
        exact ⟨by rw [e1, e2]; rfl, rfl⟩
  · obtain ⟨e1, e2⟩ := tu_bad (xs := xs) (fun h => hl h.1)
    rw [e1, e2]
    have hl' : (60 : Int) < xs.length := by omega
    go_enter Try.func16, Try.ntmps16
    go_wp2
    go_ret2
    exact ⟨rfl, rfl⟩

/-- The value from the upper end down. -/
theorem val_drop (xs : List Int) (k : Nat) (x : Int) (h : xs[k]? = some x) : val (xs.drop k) = x + 2 * val (xs.drop (k + 1)) := by
  obtain ⟨hk, e⟩ := List.getElem?_eq_some_iff.1 h
  rw [List.drop_eq_getElem_cons hk, e]; rfl

theorem rToUint_any (A : Option Addr) (xs : List Int) (c B : Nat) (w : World) (h : Rd B w A xs) (hpos : ∀ x ∈ xs, 0 ≤ x) :
    Calls Try.prog 17 #[.slice A xs.length c] w fun e w' => e = .returned (.tuple #[.int .u64 (tuVal xs), .int .i64 (tuErr xs)]) ∧ w = w' := by
  by_cases hl : xs.length ≤ 60
  · have hA := are_any A xs c B w h (by omega)
    cases hb : isBits xs with
    | true =>
      rw [hb] at hA
      obtain ⟨e1, e2⟩ := tu_good (xs := xs) ⟨hl, hb⟩
      rw [e1, e2]
      have hB : Bits xs := (isBits_iff hpos).1 hb
      have hl' : (xs.length : Int) ≤ 60 := by omega
      clear e1 e2 hb
      go_enter Try.func17, Try.ntmps17
      go_wp2_with (go_at_call 30; refine hA.mono ?_; clear hA; rintro e w' ⟨rfl, rfl⟩)
      go_loop [4, 5] (fun v i => ∃ k : Nat, k ≤ xs.length ∧ i = .int .i64 (k - 1) ∧ v = .int .u64 (val (xs.drop k))) (fun _ i => (intOf i + 1).toNat)
      case atStart => exact ⟨xs.length, Nat.le_refl _, rfl, by simp [val]⟩
      case round =>
        obtain ⟨k, hk, rfl, rfl⟩ := hrel
        cases k with
        | succ k =>
          obtain ⟨b, off, x, rfl, _, hx, hc⟩ := h.at_ (show k < xs.length by omega)
          have hst := Lib.hid (val_drop xs k x hx)
          have hx1 := hB x (List.mem_of_getElem? hx)
          have a1 := val_nonneg (hB.drop (k + 1))
          have a2 := Int.lt_of_lt_of_le (val_lt (hB.drop (k + 1))) (p2le (show (xs.drop (k + 1)).length ≤ 60 by rw [List.length_drop]; omega))
          have a3 : (2 : Int) ^ 60 = 1152921504606846976 := by decide
          rw [a3] at a2
          clear hx a3
          have ek : ((k + 1 : Nat) : Int) - 1 = k := by omega
          rw [ek]
          go_wp2
          go_round
          case rel => exact ⟨k, by omega, by simp, by rw [hst.out]; congr 1; omega⟩
          case measure => simp [intOf]
        | zero =>
          go_wp2
          go_ret2
          exact ⟨rfl, rfl⟩
    | false =>
      rw [hb] at hA
      obtain ⟨e1, e2⟩ := tu_bad (xs := xs) (fun h => by rw [hb] at h; exact absurd h.2 (by decide))
      rw [e1, e2]
      have hl' : (xs.length : Int) ≤ 60 := by omega
      go_enter Try.func17, Try.ntmps17
      go_wp2_with (go_at_call 30; refine hA.mono ?_; clear hA; rintro e w' ⟨rfl, rfl⟩)
      go_ret2
      exact ⟨rfl, rfl⟩
  · obtain ⟨e1, e2⟩ := tu_bad (xs := xs) (fun h => hl h.1)
    rw [e1, e2]
    have hl' : (60 : Int) < xs.length := by omega
    go_enter Try.func17, Try.ntmps17
    go_wp2
    go_ret2
    exact ⟨rfl, rfl⟩

theorem number_any (A : Option Addr) (xs : List Int) (c B : Nat) (w : World) (h : Rd B w A xs) (hpos : ∀ x ∈ xs, 0 ≤ x) :
    Calls Try.prog 21 #[.slice A xs.length c] w fun e w' => e = .returned (.int .u64 (tuVal xs)) ∧ w = w' := by
  have hT := rToUint_any A xs c B w h hpos
  go_enter Try.func21, Try.ntmps21
  go_wp2_with (go_at_call 17; refine hT.mono ?_; clear hT; rintro e w' ⟨rfl, rfl⟩)
  go_ret
  exact ⟨rfl, rfl⟩

/-- Whether a slice is a bit vector of at most m elements. -/
def isSmall (xs : List Int) (m : Nat) : Bool := decide (xs.length ≤ m) && isBits xs

theorem small_any (A : Option Addr) (xs : List Int) (c B m : Nat) (w : World) (h : Rd B w A xs) (hm : m ≤ 100) :
    Calls Try.prog 18 #[.slice A xs.length c, .int .i64 m] w fun e w' => e = .returned (.bool (isSmall xs m)) ∧ w = w' := by
  unfold isSmall
  by_cases hl : xs.length ≤ m
  · have hA := are_any A xs c B w h (by omega)
    have hl' : (xs.length : Int) ≤ m := by omega
    rw [decide_eq_true hl, Bool.true_and]
    go_enter Try.func18, Try.ntmps18
    go_wp2_with (go_at_call 30; refine hA.mono ?_; clear hA; rintro e w' ⟨rfl, rfl⟩)
    go_ret
    exact ⟨rfl, rfl⟩
  · have hl' : (m : Int) < xs.length := by omega
    rw [decide_eq_false hl, Bool.false_and]
    go_enter Try.func18, Try.ntmps18
    go_wp2
    go_ret
    exact ⟨rfl, rfl⟩

end Go.Proofs.Ytcjibadnhhnpmaa
