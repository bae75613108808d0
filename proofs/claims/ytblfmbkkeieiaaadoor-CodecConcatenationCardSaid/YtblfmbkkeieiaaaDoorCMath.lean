/- The encoding of words as bytes, of lists of lists as words, and the decimal form: plain functions on lists and what holds of them. No Go; no conditions. -/
import Derived.Lib.ParseIntB
import Derived.Lib.ItoaNum
namespace CodMath
open Go.Lib

/-! ### Words as bytes -/
/-- Byte k of the word n, the lowest first. -/
def byteAt (n : Int) (k : Nat) : UInt8 := UInt8.ofNat (n.toNat / 256 ^ k % 256)
def wb (n : Int) : List UInt8 := [byteAt n 0, byteAt n 1, byteAt n 2, byteAt n 3, byteAt n 4, byteAt n 5, byteAt n 6, byteAt n 7]
def enc : List Int → List UInt8
  | [] => []
  | x :: xs => wb x ++ enc xs
/-- The number that bytes spell, the lowest first. -/
def word : List UInt8 → Int
  | [] => 0
  | b :: l => b.toNat + 256 * word l
def dec : List UInt8 → List Int
  | a :: b :: c :: d :: e :: f :: g :: h :: r => word [a, b, c, d, e, f, g, h] :: dec r
  | _ => []
/-- Each element is a word. -/
def Words (xs : List Int) : Prop := ∀ x ∈ xs, 0 ≤ x ∧ x ≤ 18446744073709551615

theorem wb_length (n : Int) : (wb n).length = 8 := rfl
theorem enc_length : ∀ xs : List Int, (enc xs).length = 8 * xs.length
  | [] => rfl
  | x :: xs => by rw [enc, List.length_append, wb_length, enc_length xs, List.length_cons]; omega
theorem enc_append : ∀ xs ys : List Int, enc (xs ++ ys) = enc xs ++ enc ys
  | [], _ => rfl
  | x :: xs, ys => by rw [List.cons_append, enc, enc, enc_append xs ys, List.append_assoc]
theorem byteAt_toNat (n : Int) (k : Nat) : (byteAt n k).toNat = n.toNat / 256 ^ k % 256 := by
  unfold byteAt
  rw [UInt8.toNat_ofNat']
  exact Nat.mod_mod _ _
theorem word_wb {n : Int} (h0 : 0 ≤ n) (h1 : n ≤ 18446744073709551615) : word (wb n) = n := by
  obtain ⟨m, rfl⟩ : ∃ m : Nat, n = m := ⟨n.toNat, by omega⟩
  simp only [wb, word, byteAt_toNat, Int.toNat_natCast, Nat.reducePow]
  omega
theorem word_nonneg : ∀ l : List UInt8, 0 ≤ word l
  | [] => by simp [word]
  | b :: l => by have := word_nonneg l; simp only [word]; omega
theorem u8_eq {a b : UInt8} (h : a.toNat = b.toNat) : a = b := UInt8.toNat_inj.1 h
theorem word8_le (a b c d e f g h : UInt8) : word [a, b, c, d, e, f, g, h] ≤ 18446744073709551615 := by
  simp only [word]
  have := a.toNat_lt; have := b.toNat_lt; have := c.toNat_lt; have := d.toNat_lt; have := e.toNat_lt; have := f.toNat_lt; have := g.toNat_lt; have := h.toNat_lt
  omega
theorem wb_word (a b c d e f g h : UInt8) : wb (word [a, b, c, d, e, f, g, h]) = [a, b, c, d, e, f, g, h] := by
  have h0 := word_nonneg [a, b, c, d, e, f, g, h]
  obtain ⟨m, hm⟩ : ∃ m : Nat, word [a, b, c, d, e, f, g, h] = m := ⟨(word [a, b, c, d, e, f, g, h]).toNat, by omega⟩
  rw [hm]
  simp only [word] at hm
  have := a.toNat_lt; have := b.toNat_lt; have := c.toNat_lt; have := d.toNat_lt; have := e.toNat_lt; have := f.toNat_lt; have := g.toNat_lt; have := h.toNat_lt
  have hk : m = a.toNat + 256 * (b.toNat + 256 * (c.toNat + 256 * (d.toNat + 256 * (e.toNat + 256 * (f.toNat + 256 * (g.toNat + 256 * h.toNat)))))) := by omega
  clear hm h0
  simp only [wb]
  congr 1
  · refine u8_eq ?_; rw [byteAt_toNat]; simp only [Int.toNat_natCast, Nat.reducePow]; omega
  congr 1
  · refine u8_eq ?_; rw [byteAt_toNat]; simp only [Int.toNat_natCast, Nat.reducePow]; omega
  congr 1
  · refine u8_eq ?_; rw [byteAt_toNat]; simp only [Int.toNat_natCast, Nat.reducePow]; omega
  congr 1
  · refine u8_eq ?_; rw [byteAt_toNat]; simp only [Int.toNat_natCast, Nat.reducePow]; omega
  congr 1
  · refine u8_eq ?_; rw [byteAt_toNat]; simp only [Int.toNat_natCast, Nat.reducePow]; omega
  congr 1
  · refine u8_eq ?_; rw [byteAt_toNat]; simp only [Int.toNat_natCast, Nat.reducePow]; omega
  congr 1
  · refine u8_eq ?_; rw [byteAt_toNat]; simp only [Int.toNat_natCast, Nat.reducePow]; omega
  congr 1
  · refine u8_eq ?_; rw [byteAt_toNat]; simp only [Int.toNat_natCast, Nat.reducePow]; omega

theorem dec_cons (x : Int) (l : List UInt8) : dec (wb x ++ l) = word (wb x) :: dec l := by simp only [wb, List.cons_append, List.nil_append, dec]
theorem dec_enc : ∀ {xs : List Int}, Words xs → dec (enc xs) = xs
  | [], _ => by simp [enc, dec]
  | x :: xs, h => by
    rw [enc, dec_cons, word_wb (h x (by simp)).1 (h x (by simp)).2, dec_enc fun y hy => h y (by simp [hy])]
theorem eight {l : List UInt8} (h : 8 ≤ l.length) : ∃ a b c d e f g h r, l = a :: b :: c :: d :: e :: f :: g :: h :: r := by
  match l, h with
  | a :: b :: c :: d :: e :: f :: g :: h :: r, _ => exact ⟨a, b, c, d, e, f, g, h, r, rfl⟩
theorem dec_short {l : List UInt8} (h : l.length < 8) : dec l = [] := by
  match l, h with
  | [], _ => rfl
  | [_], _ => rfl
  | [_, _], _ => rfl
  | [_, _, _], _ => rfl
  | [_, _, _, _], _ => rfl
  | [_, _, _, _, _], _ => rfl
  | [_, _, _, _, _, _], _ => rfl
  | [_, _, _, _, _, _, _], _ => rfl
  | _ :: _ :: _ :: _ :: _ :: _ :: _ :: _ :: r, h => simp only [List.length_cons] at h; omega
theorem dec_all (n : Nat) : ∀ l : List UInt8, l.length = 8 * n → enc (dec l) = l ∧ (dec l).length = n ∧ Words (dec l) := by
  induction n with
  | zero => intro l hl; rw [List.length_eq_zero_iff.1 (by omega : l.length = 0)]; exact ⟨rfl, rfl, fun x hx => by cases hx⟩
  | succ n ih =>
    intro l hl
    obtain ⟨a, b, c, d, e, f, g, h, r, rfl⟩ := eight (l := l) (by omega)
    simp only [List.length_cons] at hl
    obtain ⟨h1, h2, h3⟩ := ih r (by omega)
    refine ⟨?_, ?_, ?_⟩
    · rw [dec, enc, h1, wb_word]; rfl
    · rw [dec, List.length_cons, h2]
    · rw [dec]
      intro x hx
      rcases List.mem_cons.1 hx with rfl | hx
      · exact ⟨word_nonneg _, word8_le _ _ _ _ _ _ _ _⟩
      · exact h3 x hx
theorem enc_dec {l : List UInt8} (h : l.length % 8 = 0) : enc (dec l) = l := (dec_all (l.length / 8) l (by omega)).1
theorem dec_words {l : List UInt8} (h : l.length % 8 = 0) : Words (dec l) := (dec_all (l.length / 8) l (by omega)).2.2
theorem dec_length {l : List UInt8} (h : l.length % 8 = 0) : (dec l).length = l.length / 8 := (dec_all (l.length / 8) l (by omega)).2.1
theorem dec_at : ∀ (i : Nat) (l : List UInt8), 8 * i + 8 ≤ l.length → (dec l)[i]? = some (word ((l.drop (8 * i)).take 8))
  | 0, l, h => by
    obtain ⟨a, b, c, d, e, f, g, h, r, rfl⟩ := eight (l := l) (by omega)
    simp [dec]
  | i + 1, l, h => by
    obtain ⟨a, b, c, d, e, f, g, h', r, rfl⟩ := eight (l := l) (by omega)
    simp only [List.length_cons] at h
    rw [dec, List.getElem?_cons_succ, dec_at i r (by omega), show 8 * (i + 1) = 8 * i + 8 from by omega]
    simp [List.drop_succ_cons]
theorem enc_inj {xs ys : List Int} (hx : Words xs) (hy : Words ys) (h : enc xs = enc ys) : xs = ys := by rw [← dec_enc hx, ← dec_enc hy, h]
theorem words_append {xs ys : List Int} : Words (xs ++ ys) ↔ Words xs ∧ Words ys :=
  ⟨fun h => ⟨fun x hx => h x (by simp [hx]), fun x hx => h x (by simp [hx])⟩, fun h x hx => (List.mem_append.1 hx).elim (h.1 x) (h.2 x)⟩

/-! ### Lists of lists as words -/
def rows : List (List Int) → List Int
  | [] => []
  | l :: r => (l.length : Int) :: (l ++ rows r)
def flat (ls : List (List Int)) : List Int := (ls.length : Int) :: rows ls
def encL (ls : List (List Int)) : List UInt8 := enc (flat ls)
def first : List Int → Option (List Int × List Int)
  | [] => none
  | k :: ws => if k ≤ ws.length then some (ws.take k.toNat, ws.drop k.toNat) else none
def par : Nat → List Int → Option (List (List Int))
  | 0, ws => if ws = [] then some [] else none
  | n + 1, ws => match first ws with
    | none => none
    | some (l, r) => (par n r).map (l :: ·)
def parW : List Int → Option (List (List Int))
  | [] => none
  | n :: ws => par n.toNat ws
def decL (l : List UInt8) : Option (List (List Int)) := if l.length % 8 = 0 then parW (dec l) else none

theorem rows_append (a b : List (List Int)) : rows (a ++ b) = rows a ++ rows b := by
  induction a with
  | nil => rfl
  | cons l r ih => simp [rows, ih]
theorem rows_split (ls : List (List Int)) (j : Nat) : rows ls = rows (ls.take j) ++ rows (ls.drop j) := by rw [← rows_append, List.take_append_drop]
theorem rows_succ {ls : List (List Int)} {j : Nat} {l : List Int} (h : ls[j]? = some l) : rows (ls.take (j + 1)) = rows (ls.take j) ++ ((l.length : Int) :: l) := by
  rw [List.take_add_one, h, Option.toList_some, rows_append]
  simp [rows]
theorem first_row (l r : List Int) : first ((l.length : Int) :: (l ++ r)) = some (l, r) := by
  simp only [first, List.length_append]
  rw [if_pos (by omega)]
  simp
theorem first_some {ws l r : List Int} (hw : Words ws) (h : first ws = some (l, r)) : ws = (l.length : Int) :: (l ++ r) := by
  match ws, h with
  | k :: ws, h =>
    simp only [first] at h
    split at h
    · rename_i hk
      simp only [Option.some.injEq, Prod.mk.injEq] at h
      obtain ⟨rfl, rfl⟩ := h
      have := (hw k (by simp)).1
      rw [List.take_append_drop, List.length_take]
      congr 1
      omega
    · cases h
theorem par_rows (ls : List (List Int)) : par ls.length (rows ls) = some ls := by
  induction ls with
  | nil => rfl
  | cons l r ih => simp only [List.length_cons, par, rows, first_row, ih, Option.map_some]
theorem par_some : ∀ {n : Nat} {ws : List Int} {ls : List (List Int)}, Words ws → par n ws = some ls → ls.length = n ∧ ws = rows ls
  | 0, ws, ls, _, h => by
    simp only [par] at h
    split at h
    · rename_i e
      cases h
      exact ⟨rfl, e⟩
    · cases h
  | n + 1, ws, ls, hw, h => by
    simp only [par] at h
    split at h
    · cases h
    · rename_i l r hf
      have e := first_some hw hf
      subst e
      cases hp : par n r with
      | none => rw [hp] at h; cases h
      | some ls' =>
        rw [hp] at h
        simp only [Option.map_some, Option.some.injEq] at h
        subst h
        obtain ⟨h1, h2⟩ := par_some (fun x hx => hw x (by simp [hx])) hp
        exact ⟨by rw [List.length_cons, h1], by rw [rows, ← h2]⟩
theorem par_more (ls : List (List Int)) (more : List Int) : par ls.length (rows ls ++ more) = if more = [] then some ls else none := by
  induction ls with
  | nil => rfl
  | cons l r ih =>
    simp only [List.length_cons, par, rows, List.cons_append, List.append_assoc, first_row, ih]
    split <;> rfl

def WordsL (ls : List (List Int)) : Prop := ls.length ≤ 18446744073709551615 ∧ ∀ l ∈ ls, l.length ≤ 18446744073709551615 ∧ Words l
theorem rows_words : ∀ {ls : List (List Int)}, (∀ l ∈ ls, l.length ≤ 18446744073709551615 ∧ Words l) → Words (rows ls)
  | [], _ => fun x hx => by cases hx
  | l :: r, h => by
    intro x hx
    simp only [rows, List.mem_cons, List.mem_append] at hx
    rcases hx with rfl | hx | hx
    · have := (h l (by simp)).1; omega
    · exact (h l (by simp)).2 x hx
    · exact rows_words (fun l' hl' => h l' (by simp [hl'])) x hx
theorem flat_words {ls : List (List Int)} (h : WordsL ls) : Words (flat ls) := by
  intro x hx
  rcases List.mem_cons.1 hx with rfl | hx
  · have := h.1; omega
  · exact rows_words h.2 x hx
theorem parW_flat (ls : List (List Int)) : parW (flat ls) = some ls := by simp only [parW, flat, Int.toNat_natCast, par_rows]
theorem decL_encL {ls : List (List Int)} (h : WordsL ls) : decL (encL ls) = some ls := by
  unfold decL encL
  rw [if_pos (by rw [enc_length]; omega), dec_enc (flat_words h), parW_flat]
theorem parW_some {ws : List Int} {ls : List (List Int)} (hw : Words ws) (h : parW ws = some ls) : ws = flat ls := by
  match ws, h with
  | n :: ws, h =>
    obtain ⟨h1, h2⟩ := par_some (fun x hx => hw x (by simp [hx])) (show par n.toNat ws = some ls from h)
    have := (hw n (by simp)).1
    rw [flat, ← h2, h1]
    congr 1
    omega
theorem encL_decL {l : List UInt8} {ls : List (List Int)} (h : decL l = some ls) : encL ls = l := by
  unfold decL at h
  split at h
  · rename_i h8
    rw [encL, ← parW_some (dec_words h8) h, enc_dec h8]
  · cases h
theorem encL_inj {a b : List (List Int)} (ha : WordsL a) (hb : WordsL b) (h : encL a = encL b) : a = b := by
  have h1 := decL_encL ha
  rw [h, decL_encL hb] at h1
  exact (Option.some.inj h1).symm
theorem encL_len (ls : List (List Int)) : (encL ls).length % 8 = 0 := by unfold encL; rw [enc_length]; omega
theorem decL_more {ls : List (List Int)} (h : WordsL ls) {more : List Int} (hm : Words more) : decL (encL ls ++ enc more) = if more = [] then some ls else none := by
  unfold decL encL
  rw [← enc_append, if_pos (by rw [enc_length]; omega), dec_enc (words_append.2 ⟨flat_words h, hm⟩)]
  simp only [flat, List.cons_append, parW, Int.toNat_natCast, par_more]
theorem decL_cut {ls : List (List Int)} (h : WordsL ls) {n : Nat} (hn : n < (encL ls).length) : decL ((encL ls).take n) = none := by
  cases hd : decL ((encL ls).take n) with
  | none => rfl
  | some ls' =>
    exfalso
    have he := encL_decL hd
    have hlen : (encL ls').length = n := by rw [he, List.length_take]; omega
    have h8 : n % 8 = 0 := by rw [← hlen]; exact encL_len ls'
    have hrest : ((encL ls).drop n).length % 8 = 0 := by rw [List.length_drop]; have := encL_len ls; omega
    have hw' : WordsL ls' := by
      have hd' := hd
      unfold decL at hd'
      split at hd'
      · rename_i h8'
        have hf := parW_some (dec_words h8') hd'
        have hw := dec_words h8'
        rw [hf] at hw
        refine ⟨by have := (hw ls'.length (by simp [flat])).2; omega, fun l hl => ?_⟩
        have hm : ∀ x ∈ (l.length : Int) :: l, x ∈ rows ls' := by
          clear hf hw hd' hd he hlen
          induction ls' with
          | nil => cases hl
          | cons a r ih =>
            intro x hx
            simp only [rows, List.mem_cons, List.mem_append] at hx ⊢
            rcases List.mem_cons.1 hl with rfl | hl
            · rcases hx with rfl | hx
              · exact .inl rfl
              · exact .inr (.inl hx)
            · exact .inr (.inr (ih hl x (List.mem_cons.2 hx)))
        refine ⟨?_, fun x hx => hw x (List.mem_cons.2 (.inr (hm x (by simp [hx]))))⟩
        have := (hw l.length (List.mem_cons.2 (.inr (hm _ (by simp))))).2
        omega
      · cases hd'
    have e : encL ls = encL ls' ++ enc (dec ((encL ls).drop n)) := by rw [enc_dec hrest, he, List.take_append_drop]
    have := decL_more hw' (dec_words hrest)
    rw [← e, decL_encL h] at this
    split at this
    · rename_i hnil
      have h0 := dec_length hrest
      rw [hnil, List.length_drop, List.length_nil] at h0
      have := encL_len ls
      omega
    · cases this

/-! ### The decimal form -/
def isDig (c : UInt8) : Bool := decide (48 ≤ c.toNat) && decide (c.toNat ≤ 57)
def isDec (l : List UInt8) : Bool := decide (l ≠ []) && !(decide (l.head? = some 48) && decide (1 < l.length)) && l.all isDig
/-- The number that digits spell, behind what was read. -/
def numD : Nat → List Nat → Nat
  | a, [] => a
  | a, d :: l => numD (a * 10 + d) l
def dg (c : UInt8) : Nat := c.toNat - 48
def numF (a : Nat) (l : List UInt8) : Nat := numD a (l.map dg)
def num (l : List UInt8) : Nat := numF 0 l
theorem numF_nil (a : Nat) : numF a [] = a := by unfold numF; rw [List.map_nil, numD]
theorem numF_cons (a : Nat) (c : UInt8) (l : List UInt8) : numF a (c :: l) = numF (a * 10 + (c.toNat - 48)) l := by unfold numF; rw [List.map_cons, numD, dg]
theorem numF_push (l : List UInt8) (a : Nat) (c : UInt8) : numF a (l ++ [c]) = numF a l * 10 + (c.toNat - 48) := by
  induction l generalizing a with
  | nil => rw [List.nil_append, numF_cons, numF_nil, numF_nil]
  | cons d l ih => rw [List.cons_append, numF_cons, numF_cons, ih]
theorem num_push (l : List UInt8) (c : UInt8) : num (l ++ [c]) = num l * 10 + (c.toNat - 48) := numF_push l 0 c
theorem isDig_iff {c : UInt8} : isDig c = true ↔ 48 ≤ c.toNat ∧ c.toNat ≤ 57 := by unfold isDig; simp
theorem numF_ge : ∀ (l : List UInt8) (a : Nat), a ≤ numF a l
  | [], a => Nat.le_of_eq (numF_nil a).symm
  | c :: l, a => by have := numF_ge l (a * 10 + (c.toNat - 48)); rw [numF_cons]; omega
/-- How a parse of digits ends that spell u. -/
def fits64 (u : Nat) : NumEnd Nat := if u ≤ 18446744073709551615 then .ok u else .range
theorem fits64_ok {u : Nat} (h : u ≤ 18446744073709551615) : fits64 u = .ok u := if_pos h
theorem fits64_not {u : Nat} (h : ¬ u ≤ 18446744073709551615) : fits64 u = .range := if_neg h
theorem parseM_eq : ∀ (l : List UInt8) (a : Nat), (∀ c ∈ l, isDig c = true) → a ≤ 18446744073709551615 → parseUintM 18446744073709551615 a l = fits64 (numF a l)
  | [], a, _, ha => by rw [numF_nil, fits64_ok ha]; simp only [parseUintM]
  | c :: l, a, hd, ha => by
    have hc := isDig_iff.1 (hd c (by simp))
    have hge := numF_ge l (a * 10 + (c.toNat - 48))
    rw [numF_cons]
    simp only [parseUintM]
    rw [if_pos hc]
    by_cases h1 : 1844674407370955162 ≤ a
    · rw [if_pos h1, fits64_not (by omega)]
    · rw [if_neg h1]
      by_cases h2 : 18446744073709551615 < a * 10 + (c.toNat - 48)
      · rw [if_pos h2, fits64_not (by omega)]
      · rw [if_neg h2]
        exact parseM_eq l _ (fun c' hc' => hd c' (by simp [hc'])) (by omega)
theorem isDec_iff {l : List UInt8} : isDec l = true ↔ l ≠ [] ∧ ¬ (l.head? = some 48 ∧ 1 < l.length) ∧ ∀ c ∈ l, isDig c = true := by
  unfold isDec
  simp only [Bool.and_eq_true, Bool.not_eq_true', decide_eq_true_eq, List.all_eq_true, Bool.and_eq_false_iff, decide_eq_false_iff_not, and_assoc]
  refine and_congr_right fun _ => and_congr_left fun _ => ?_
  by_cases h : l.head? = some 48 <;> simp [h]
theorem parseB_eq {l : List UInt8} (h : isDec l = true) : parseUintB 64 l = fits64 (num l) := by
  obtain ⟨h1, _, h3⟩ := isDec_iff.1 h
  unfold parseUintB
  rw [if_neg h1]
  exact parseM_eq l 0 h3 (by omega)
/-- What ParseDecimal answers: the number and the error's number. -/
def pdec (l : List UInt8) : Nat × Int := if isDec l = true then (if num l ≤ 18446744073709551615 then (num l, 0) else (0, 2)) else (0, 3)
theorem pdec_bad {l : List UInt8} (h : ¬ isDec l = true) : pdec l = (0, 3) := if_neg h
theorem pdec_ok {l : List UInt8} (h : isDec l = true) (hn : num l ≤ 18446744073709551615) : pdec l = (num l, 0) := by unfold pdec; rw [if_pos h, if_pos hn]
theorem pdec_great {l : List UInt8} (h : isDec l = true) (hn : ¬ num l ≤ 18446744073709551615) : pdec l = (0, 2) := by unfold pdec; rw [if_pos h, if_neg hn]
theorem pdec_le (l : List UInt8) : (pdec l).1 ≤ 18446744073709551615 := by
  unfold pdec
  split
  · split
    · assumption
    · exact Nat.zero_le _
  · exact Nat.zero_le _

theorem decDigits_small {u : Nat} (h : u < 10) : decDigits u = [UInt8.ofNat (48 + u)] := by rw [decDigits, dif_pos h]
theorem decDigits_big {u : Nat} (h : ¬ u < 10) : decDigits u = decDigits (u / 10) ++ [UInt8.ofNat (48 + u % 10)] := by rw [decDigits, dif_neg h]
theorem dig_toNat {d : Nat} (h : d < 10) : (UInt8.ofNat (48 + d)).toNat = 48 + d := by rw [UInt8.toNat_ofNat']; omega
theorem decDigits_ne (u : Nat) : decDigits u ≠ [] := by
  by_cases h : u < 10
  · rw [decDigits_small h]; simp
  · rw [decDigits_big h]; simp
theorem decDigits_good : ∀ (n u : Nat), u < n → num (decDigits u) = u ∧ (∀ c ∈ decDigits u, isDig c = true) ∧ (0 < u → (decDigits u).head? ≠ some 48)
  | 0, u, h => by omega
  | n + 1, u, h => by
    by_cases h10 : u < 10
    · rw [decDigits_small h10]
      refine ⟨by rw [num, numF_cons, numF_nil, dig_toNat h10]; omega, fun c hc => ?_, fun hp => ?_⟩
      · rw [List.mem_singleton.1 hc, isDig_iff, dig_toNat h10]; omega
      · simp only [List.head?_cons, ne_eq, Option.some.injEq]
        intro e
        have := congrArg UInt8.toNat e
        rw [dig_toNat h10] at this
        have e48 : (48 : UInt8).toNat = 48 := rfl
        omega
    · obtain ⟨h1, h2, h3⟩ := decDigits_good n (u / 10) (by omega)
      have hd : u % 10 < 10 := by omega
      rw [decDigits_big h10]
      refine ⟨by rw [num_push, h1, dig_toNat hd]; omega, fun c hc => ?_, fun _ => ?_⟩
      · rcases List.mem_append.1 hc with hc | hc
        · exact h2 c hc
        · rw [List.mem_singleton.1 hc, isDig_iff, dig_toNat hd]; omega
      · have := h3 (by omega)
        have hne := decDigits_ne (u / 10)
        generalize decDigits (u / 10) = l at this hne
        match l, hne with
        | c :: r, _ => simpa using this
theorem num_dec (u : Nat) : num (decDigits u) = u := (decDigits_good (u + 1) u (by omega)).1
theorem isDec_dec (u : Nat) : isDec (decDigits u) = true := by
  obtain ⟨_, h2, h3⟩ := decDigits_good (u + 1) u (by omega)
  refine isDec_iff.2 ⟨decDigits_ne u, fun h => ?_, h2⟩
  by_cases hu : 0 < u
  · exact h3 hu h.1
  · obtain rfl : u = 0 := by omega
    rw [decDigits_small (by decide)] at h
    simp at h
theorem pdec_dec {u : Nat} (h : u ≤ 18446744073709551615) : pdec (decDigits u) = (u, 0) := by rw [pdec_ok (isDec_dec u) (by rw [num_dec]; exact h), num_dec]
theorem dec_inj {u v : Nat} (h : decDigits u = decDigits v) : u = v := by rw [← num_dec u, ← num_dec v, h]

theorem last_of {l : List UInt8} (h : l ≠ []) : ∃ r c, l = r ++ [c] := ⟨l.dropLast, l.getLast h, (List.dropLast_concat_getLast h).symm⟩
theorem num_pos : ∀ (n : Nat) (l : List UInt8), l.length < n → l ≠ [] → (∀ c ∈ l, isDig c = true) → l.head? ≠ some 48 → 0 < num l
  | 0, l, h, _, _, _ => by omega
  | n + 1, l, h, hne, hd, hh => by
    obtain ⟨r, c, rfl⟩ := last_of hne
    rw [num_push]
    by_cases hr : r = []
    · subst hr
      have hc := isDig_iff.1 (hd c (by simp))
      have : c.toNat ≠ 48 := fun e => hh (by simp only [List.nil_append, List.head?_cons, Option.some.injEq]; exact u8_eq e)
      omega
    · have := num_pos n r (by simp at h; omega) hr (fun c hc => hd c (by simp [hc])) (by
        match r, hr with
        | a :: r', _ => simpa using hh)
      omega
theorem dec_num : ∀ (n : Nat) (l : List UInt8), l.length < n → isDec l = true → decDigits (num l) = l
  | 0, l, h, _ => by omega
  | n + 1, l, h, hl => by
    obtain ⟨hne, hz, hd⟩ := isDec_iff.1 hl
    obtain ⟨r, c, rfl⟩ := last_of hne
    have hc := isDig_iff.1 (hd c (by simp))
    have hcc : UInt8.ofNat (48 + (c.toNat - 48)) = c := u8_eq (by rw [dig_toNat (by omega)]; omega)
    rw [num_push]
    by_cases hr : r = []
    · subst hr
      have e0 : num [] = 0 := rfl
      rw [e0, Nat.zero_mul, Nat.zero_add, decDigits_small (by omega), hcc]
      rfl
    · have hh : r.head? ≠ some 48 := fun e => hz ⟨by
        match r, hr with
        | a :: r', _ => simpa using e, by
        match r, hr with
        | a :: r', _ => simp⟩
      have hrd : ∀ c ∈ r, isDig c = true := fun c hc => hd c (by simp [hc])
      have hp := num_pos (r.length + 1) r (by omega) hr hrd hh
      have ih := dec_num n r (by simp at h; omega) (isDec_iff.2 ⟨hr, fun e => hh e.1, hrd⟩)
      have hlt : c.toNat - 48 < 10 := by omega
      rw [decDigits_big (by omega)]
      generalize c.toNat - 48 = d at hcc hlt
      rw [show (num r * 10 + d) / 10 = num r from by omega, show (num r * 10 + d) % 10 = d from by omega, ih, hcc]
theorem dec_of_pdec {l : List UInt8} (h : (pdec l).2 = 0) : decDigits (pdec l).1 = l := by
  by_cases hd : isDec l = true
  · by_cases hn : num l ≤ 18446744073709551615
    · rw [pdec_ok hd hn]
      exact dec_num (l.length + 1) l (by omega) hd
    · rw [pdec_great hd hn] at h
      exact absurd h (by decide)
  · rw [pdec_bad hd] at h
    exact absurd h (by decide)
end CodMath
