/- ShamirLinearOpsMatchReference: for every input the law returns true and changes nothing that lay. No conditions. -/
import Derived.Test.YtddbdjhgmeeakaaWSet
import Derived.Test.YtddbdjhgmeeakaaWOpen
import Derived.Test.YtddbdjhgmeeakaaWLit
import Derived.Test.YtddbdjhgmeeakaaMB
namespace Go.Proofs.Ytddbdjhgmeeakaa.shamirLinearOpsMatchReference
set_option maxRecDepth 100000
open Go.ChangeShapes Go.WideShapes Go.ChangeAt Go.RowKit PolyMath FieldMath MatMath

set_option maxHeartbeats 8000000 in
theorem walk (P N T : Int) (A : Option Addr) (c : Nat) (ra : List (List Int)) (B : Option Addr) (cb : Nat) (rb : List (List Int)) (K : Int) (_wP : Wd P) (_wN : Wi N) (_wT : Wi T) (wK : Wd K) (wa : ∀ r ∈ ra, Words r) (wb : ∀ r ∈ rb, Words r) (w : World) (sa : Sll w A c ra) (sb : Sll w B cb rb) : Calls Try.prog 9 #[.agg #[.int .u64 P, .int .i64 N, .int .i64 T, .slice A ra.length c, .slice B rb.length cb, .int .u64 K]] w fun e w' => e = .returned (.bool true) ∧ Below w.heap.size w w' := by
  have hB := bnew (Below.refl w.heap.size w) (.cells #[.int .u64 P, .int .i64 N, .int .i64 T, .slice A ra.length c, .slice B rb.length cb, .int .u64 K] 59) (by simp)
  replace sa := sa.next hB
  replace sb := sb.next hB
  have k00 : (w.alloc (.cells #[.int .u64 P, .int .i64 N, .int .i64 T, .slice A ra.length c, .slice B rb.length cb, .int .u64 K] 59)).cell? ⟨w.heap.size, 0, none⟩ = some (.int .u64 P) := by go_simp
  have k01 : (w.alloc (.cells #[.int .u64 P, .int .i64 N, .int .i64 T, .slice A ra.length c, .slice B rb.length cb, .int .u64 K] 59)).cell? ⟨w.heap.size, 1, none⟩ = some (.int .i64 N) := by go_simp
  have k02 : (w.alloc (.cells #[.int .u64 P, .int .i64 N, .int .i64 T, .slice A ra.length c, .slice B rb.length cb, .int .u64 K] 59)).cell? ⟨w.heap.size, 2, none⟩ = some (.int .i64 T) := by go_simp
  have k03 : (w.alloc (.cells #[.int .u64 P, .int .i64 N, .int .i64 T, .slice A ra.length c, .slice B rb.length cb, .int .u64 K] 59)).cell? ⟨w.heap.size, 3, none⟩ = some (.slice A ra.length c) := by go_simp
  have k04 : (w.alloc (.cells #[.int .u64 P, .int .i64 N, .int .i64 T, .slice A ra.length c, .slice B rb.length cb, .int .u64 K] 59)).cell? ⟨w.heap.size, 4, none⟩ = some (.slice B rb.length cb) := by go_simp
  have k05 : (w.alloc (.cells #[.int .u64 P, .int .i64 N, .int .i64 T, .slice A ra.length c, .slice B rb.length cb, .int .u64 K] 59)).cell? ⟨w.heap.size, 5, none⟩ = some (.int .u64 K) := by go_simp
  have hq0 : w.heap.size < (w.alloc (.cells #[.int .u64 P, .int .i64 N, .int .i64 T, .slice A ra.length c, .slice B rb.length cb, .int .u64 K] 59)).heap.size := by simp
  go_enter Try.func9, Try.ntmps9
  go_wp2_with fail
  refine (awake9 _).mono ?_
  rintro e w1 ⟨rfl, hb⟩
  replace sa := sa.next hb
  replace sb := sb.next hb
  replace k00 := (hb.cell (p := ⟨w.heap.size, 0, none⟩) hq0).trans k00
  replace k01 := (hb.cell (p := ⟨w.heap.size, 1, none⟩) hq0).trans k01
  replace k02 := (hb.cell (p := ⟨w.heap.size, 2, none⟩) hq0).trans k02
  replace k03 := (hb.cell (p := ⟨w.heap.size, 3, none⟩) hq0).trans k03
  replace k04 := (hb.cell (p := ⟨w.heap.size, 4, none⟩) hq0).trans k04
  replace k05 := (hb.cell (p := ⟨w.heap.size, 5, none⟩) hq0).trans k05
  replace hq0 := Nat.lt_of_lt_of_le hq0 hb.size
  replace hB := hB.trans (hb.mono hB.size)
  clear hb
  by_cases h1 : 0 ≤ T
  rotate_left
  · have h1' : T < 0 := by omega
    go_wp2
    go_ret
    exact ⟨rfl, hB⟩
  by_cases h2 : T ≤ 13
  rotate_left
  · have h2' : 13 < T := by omega
    go_wp2
    go_ret
    exact ⟨rfl, hB⟩
  have g := fun W => rSupported_any P W
  go_wp2_with fail
  rcases sup_cases P with h0 | ⟨h0, hp⟩
  · rw [h0] at g
    refine (g _).mono ?_
    rintro e w2 ⟨rfl, hb⟩
    replace sa := sa.next hb
    replace sb := sb.next hb
    replace k00 := (hb.cell (p := ⟨w.heap.size, 0, none⟩) hq0).trans k00
    replace k01 := (hb.cell (p := ⟨w.heap.size, 1, none⟩) hq0).trans k01
    replace k02 := (hb.cell (p := ⟨w.heap.size, 2, none⟩) hq0).trans k02
    replace k03 := (hb.cell (p := ⟨w.heap.size, 3, none⟩) hq0).trans k03
    replace k04 := (hb.cell (p := ⟨w.heap.size, 4, none⟩) hq0).trans k04
    replace k05 := (hb.cell (p := ⟨w.heap.size, 5, none⟩) hq0).trans k05
    replace hq0 := Nat.lt_of_lt_of_le hq0 hb.size
    replace hB := hB.trans (hb.mono hB.size)
    clear hb
    go_wp2
    go_ret
    exact ⟨rfl, hB⟩
  rw [h0] at g
  refine (g _).mono ?_
  rintro e w2 ⟨rfl, hb⟩
  replace sa := sa.next hb
  replace sb := sb.next hb
  replace k00 := (hb.cell (p := ⟨w.heap.size, 0, none⟩) hq0).trans k00
  replace k01 := (hb.cell (p := ⟨w.heap.size, 1, none⟩) hq0).trans k01
  replace k02 := (hb.cell (p := ⟨w.heap.size, 2, none⟩) hq0).trans k02
  replace k03 := (hb.cell (p := ⟨w.heap.size, 3, none⟩) hq0).trans k03
  replace k04 := (hb.cell (p := ⟨w.heap.size, 4, none⟩) hq0).trans k04
  replace k05 := (hb.cell (p := ⟨w.heap.size, 5, none⟩) hq0).trans k05
  replace hq0 := Nat.lt_of_lt_of_le hq0 hb.size
  replace hB := hB.trans (hb.mono hB.size)
  clear hb
  clear g
  have hbd := hp.bd
  by_cases h3 : 1 ≤ N
  rotate_left
  · have h3' : N < 1 := by omega
    go_wp2
    go_ret
    exact ⟨rfl, hB⟩
  by_cases h4 : N ≤ 13
  rotate_left
  · have h4' : 13 < N := by omega
    go_wp2
    go_ret
    exact ⟨rfl, hB⟩
  by_cases h5 : T + 1 ≤ 6
  rotate_left
  · have h5' : 6 < T + 1 := by omega
    go_wp2
    go_ret
    exact ⟨rfl, hB⟩
  obtain ⟨n, rfl⟩ : ∃ n : Nat, N = n := ⟨N.toNat, by omega⟩
  obtain ⟨t, rfl⟩ : ∃ t : Nat, T = t := ⟨T.toNat, by omega⟩
  have eT : ((t + 1 : Nat) : Int) = (t : Int) + 1 := by omega
  have g := fun W h => rows_any P A c n (t + 1) ra (by omega) (by omega) W h
  rw [eT] at g
  go_wp2_with fail
  refine (g _ sa).mono ?_
  rintro e w' ⟨⟨b, rfl, hb⟩, rfl⟩
  clear g
  rcases Bool.eq_false_or_eq_true b with h | h
  rotate_left
  · subst h
    clear hb
    go_wp2
    go_ret
    exact ⟨rfl, hB⟩
  have hFa := hb.1 h
  subst h
  clear hb
  have g := fun W h => rows_any P B cb n (t + 1) rb (by omega) (by omega) W h
  rw [eT] at g
  go_wp2_with fail
  refine (g _ sb).mono ?_
  rintro e w' ⟨⟨b, rfl, hb⟩, rfl⟩
  clear g
  rcases Bool.eq_false_or_eq_true b with h | h
  rotate_left
  · subst h
    clear hb
    go_wp2
    go_ret
    exact ⟨rfl, hB⟩
  have hFb := hb.1 h
  subst h
  clear hb
  by_cases h6 : K < P
  rotate_left
  · have h6' : P ≤ K := by omega
    go_wp2
    go_ret
    exact ⟨rfl, hB⟩
  have g := fun W => setups_any P n t W
  go_wp2_with fail
  by_cases h7 : Setup P n t
  rotate_left
  · rw [decide_eq_false h7] at g
    refine (g _).mono ?_
    rintro e w9 ⟨rfl, hb⟩
    replace sa := sa.next hb
    replace sb := sb.next hb
    replace k00 := (hb.cell (p := ⟨w.heap.size, 0, none⟩) hq0).trans k00
    replace k01 := (hb.cell (p := ⟨w.heap.size, 1, none⟩) hq0).trans k01
    replace k02 := (hb.cell (p := ⟨w.heap.size, 2, none⟩) hq0).trans k02
    replace k03 := (hb.cell (p := ⟨w.heap.size, 3, none⟩) hq0).trans k03
    replace k04 := (hb.cell (p := ⟨w.heap.size, 4, none⟩) hq0).trans k04
    replace k05 := (hb.cell (p := ⟨w.heap.size, 5, none⟩) hq0).trans k05
    replace hq0 := Nat.lt_of_lt_of_le hq0 hb.size
    replace hB := hB.trans (hb.mono hB.size)
    clear hb
    go_wp2
    go_ret
    exact ⟨rfl, hB⟩
  rw [decide_eq_true h7] at g
  refine (g _).mono ?_
  rintro e w9 ⟨rfl, hb⟩
  replace sa := sa.next hb
  replace sb := sb.next hb
  replace k00 := (hb.cell (p := ⟨w.heap.size, 0, none⟩) hq0).trans k00
  replace k01 := (hb.cell (p := ⟨w.heap.size, 1, none⟩) hq0).trans k01
  replace k02 := (hb.cell (p := ⟨w.heap.size, 2, none⟩) hq0).trans k02
  replace k03 := (hb.cell (p := ⟨w.heap.size, 3, none⟩) hq0).trans k03
  replace k04 := (hb.cell (p := ⟨w.heap.size, 4, none⟩) hq0).trans k04
  replace k05 := (hb.cell (p := ⟨w.heap.size, 5, none⟩) hq0).trans k05
  replace hq0 := Nat.lt_of_lt_of_le hq0 hb.size
  replace hB := hB.trans (hb.mono hB.size)
  clear hb
  clear g h7
  have hMa := hFa.msh wa
  have hMb := hFb.msh wb
  have la := hFa.1
  have lb := hFb.1
  have hHa := hFa.2
  have hHb := hFb.2
  clear hFa hFb
  rw [la] at k03
  rw [lb] at k04
  have hK : 0 ≤ K ∧ K < P := ⟨wK.1, h6⟩
  have sl := S3.lit3 w9 sa sb la lb
  have hb := bnew (Below.refl w9.heap.size w9) (.cells #[.slice A n c, .slice B n cb, .slice A n c] 57) (Nat.le_refl _)
  have ok00 := k00
  have ok01 := k01
  have ok02 := k02
  have ok03 := k03
  have ok04 := k04
  have ok05 := k05
  replace sa := sa.next hb
  replace sb := sb.next hb
  replace k00 := (hb.cell (p := ⟨w.heap.size, 0, none⟩) hq0).trans k00
  replace k01 := (hb.cell (p := ⟨w.heap.size, 1, none⟩) hq0).trans k01
  replace k02 := (hb.cell (p := ⟨w.heap.size, 2, none⟩) hq0).trans k02
  replace k03 := (hb.cell (p := ⟨w.heap.size, 3, none⟩) hq0).trans k03
  replace k04 := (hb.cell (p := ⟨w.heap.size, 4, none⟩) hq0).trans k04
  replace k05 := (hb.cell (p := ⟨w.heap.size, 5, none⟩) hq0).trans k05
  replace hq0 := Nat.lt_of_lt_of_le hq0 hb.size
  replace hB := hB.trans (hb.mono hB.size)
  clear hb
  have hlong : ∀ (j : Nat) m i, [ra, rb, ra][j]? = some m → i < n → 0 < (ro m i).length := fun j m i hj hi => by
    match j, hj with
    | 0, hj => simp at hj; subst hj; rw [(hHa i hi).1]; omega
    | 1, hj => simp at hj; subst hj; rw [(hHb i hi).1]; omega
    | 2, hj => simp at hj; subst hj; rw [(hHa i hi).1]; omega
    | j + 3, hj => simp at hj
  have HLN := Lib.hid hlong
  clear hlong hHa hHb
  go_wp2_with fail
  have hb := (Below.refl (w9.alloc (.cells #[.slice A n c, .slice B n cb, .slice A n c] 57)).heap.size (w9.alloc (.cells #[.slice A n c, .slice B n cb, .slice A n c] 57))).drew
  have pk00 := k00
  have pk01 := k01
  have pk02 := k02
  have pk03 := k03
  have pk04 := k04
  have pk05 := k05
  replace sa := sa.next hb
  replace sb := sb.next hb
  replace sl := sl.next hb
  replace k00 := (hb.cell (p := ⟨w.heap.size, 0, none⟩) hq0).trans k00
  replace k01 := (hb.cell (p := ⟨w.heap.size, 1, none⟩) hq0).trans k01
  replace k02 := (hb.cell (p := ⟨w.heap.size, 2, none⟩) hq0).trans k02
  replace k03 := (hb.cell (p := ⟨w.heap.size, 3, none⟩) hq0).trans k03
  replace k04 := (hb.cell (p := ⟨w.heap.size, 4, none⟩) hq0).trans k04
  replace k05 := (hb.cell (p := ⟨w.heap.size, 5, none⟩) hq0).trans k05
  replace hq0 := Nat.lt_of_lt_of_le hq0 hb.size
  replace hB := hB.trans (hb.mono hB.size)
  clear hb
  dsimp only [List.append]
  go_region_held3 (fun w' => w'.cell? ⟨w.heap.size, 0, none⟩ = some (.int .u64 P) ∧ w'.cell? ⟨w.heap.size, 1, none⟩ = some (.int .i64 n) ∧ w'.cell? ⟨w.heap.size, 2, none⟩ = some (.int .i64 t) ∧ w'.cell? ⟨w.heap.size, 3, none⟩ = some (.slice A n c) ∧ w'.cell? ⟨w.heap.size, 4, none⟩ = some (.slice B n cb) ∧ w'.cell? ⟨w.heap.size, 5, none⟩ = some (.int .u64 K))
    (first | (refine ⟨?_, ?_, ?_, ?_, ?_, ?_⟩ <;> assumption) | exact ⟨k00, k01, k02, k03, k04, k05⟩ | exact ⟨pk00, pk01, pk02, pk03, pk04, pk05⟩)
    (first
      | (go_at_call 30; (with_reducible refine (same_rows _ _ n _ _ _ _ s5 s6 (by omega) (by intro i; simp only [zipF_len, mapF_len, conR_len]; omega)).mono ?_); rintro e w6 ⟨rfl, hb⟩; clear s5 s6 l5 l6; replace sa := sa.next hb; replace sb := sb.next hb; replace sl := sl.next hb; have ck00 := (hb.cell (p := ⟨w.heap.size, 0, none⟩) hq0).trans k00; clear k00; have k00 := ck00; clear ck00; have ck01 := (hb.cell (p := ⟨w.heap.size, 1, none⟩) hq0).trans k01; clear k01; have k01 := ck01; clear ck01; have ck02 := (hb.cell (p := ⟨w.heap.size, 2, none⟩) hq0).trans k02; clear k02; have k02 := ck02; clear ck02; have ck03 := (hb.cell (p := ⟨w.heap.size, 3, none⟩) hq0).trans k03; clear k03; have k03 := ck03; clear ck03; have ck04 := (hb.cell (p := ⟨w.heap.size, 4, none⟩) hq0).trans k04; clear k04; have k04 := ck04; clear ck04; have ck05 := (hb.cell (p := ⟨w.heap.size, 5, none⟩) hq0).trans k05; clear k05; have k05 := ck05; clear ck05; replace hq0 := Nat.lt_of_lt_of_le hq0 hb.size; replace hB := hB.trans (hb.mono hB.size); clear hb)
      | (go_at_call 39; (with_reducible refine (same_rows5 _ _ n _ _ _ _ s5 s6 (by omega) (by intro i; simp only [locR_len, List.length_cons, List.length_nil]; omega)).mono ?_); rintro e w6 ⟨rfl, hb⟩; clear s5 s6 l5 l6; replace sa := sa.next hb; replace sb := sb.next hb; replace sl := sl.next hb; have ck00 := (hb.cell (p := ⟨w.heap.size, 0, none⟩) hq0).trans k00; clear k00; have k00 := ck00; clear ck00; have ck01 := (hb.cell (p := ⟨w.heap.size, 1, none⟩) hq0).trans k01; clear k01; have k01 := ck01; clear ck01; have ck02 := (hb.cell (p := ⟨w.heap.size, 2, none⟩) hq0).trans k02; clear k02; have k02 := ck02; clear ck02; have ck03 := (hb.cell (p := ⟨w.heap.size, 3, none⟩) hq0).trans k03; clear k03; have k03 := ck03; clear ck03; have ck04 := (hb.cell (p := ⟨w.heap.size, 4, none⟩) hq0).trans k04; clear k04; have k04 := ck04; clear ck04; have ck05 := (hb.cell (p := ⟨w.heap.size, 5, none⟩) hq0).trans k05; clear k05; have k05 := ck05; clear ck05; replace hq0 := Nat.lt_of_lt_of_le hq0 hb.size; replace hB := hB.trans (hb.mono hB.size); clear hb)
      | (go_at_call 31; (with_reducible refine (add_mat P hp (t + 1) n (by omega) (by omega) A B c cb ra rb hMa hMb la lb _ sa sb).mono ?_); rintro e w6 ⟨A5, c5, rfl, l5, s5, hb⟩; replace sa := sa.next hb; replace sb := sb.next hb; replace sl := sl.next hb; have ck00 := (hb.cell (p := ⟨w.heap.size, 0, none⟩) hq0).trans k00; clear k00; have k00 := ck00; clear ck00; have ck01 := (hb.cell (p := ⟨w.heap.size, 1, none⟩) hq0).trans k01; clear k01; have k01 := ck01; clear ck01; have ck02 := (hb.cell (p := ⟨w.heap.size, 2, none⟩) hq0).trans k02; clear k02; have k02 := ck02; clear ck02; have ck03 := (hb.cell (p := ⟨w.heap.size, 3, none⟩) hq0).trans k03; clear k03; have k03 := ck03; clear ck03; have ck04 := (hb.cell (p := ⟨w.heap.size, 4, none⟩) hq0).trans k04; clear k04; have k04 := ck04; clear ck04; have ck05 := (hb.cell (p := ⟨w.heap.size, 5, none⟩) hq0).trans k05; clear k05; have k05 := ck05; clear ck05; replace hq0 := Nat.lt_of_lt_of_le hq0 hb.size; replace hB := hB.trans (hb.mono hB.size); clear hb)
      | (go_at_call 32; (with_reducible refine (rAdd_mat P hp (t + 1) n (by omega) (by omega) A B c cb ra rb hMa hMb la lb _ sa sb).mono ?_); rintro e w6 ⟨A6, c6, rfl, l6, s6, hb⟩; replace s5 := s5.next hb; replace sa := sa.next hb; replace sb := sb.next hb; replace sl := sl.next hb; have ck00 := (hb.cell (p := ⟨w.heap.size, 0, none⟩) hq0).trans k00; clear k00; have k00 := ck00; clear ck00; have ck01 := (hb.cell (p := ⟨w.heap.size, 1, none⟩) hq0).trans k01; clear k01; have k01 := ck01; clear ck01; have ck02 := (hb.cell (p := ⟨w.heap.size, 2, none⟩) hq0).trans k02; clear k02; have k02 := ck02; clear ck02; have ck03 := (hb.cell (p := ⟨w.heap.size, 3, none⟩) hq0).trans k03; clear k03; have k03 := ck03; clear ck03; have ck04 := (hb.cell (p := ⟨w.heap.size, 4, none⟩) hq0).trans k04; clear k04; have k04 := ck04; clear ck04; have ck05 := (hb.cell (p := ⟨w.heap.size, 5, none⟩) hq0).trans k05; clear k05; have k05 := ck05; clear ck05; replace hq0 := Nat.lt_of_lt_of_le hq0 hb.size; replace hB := hB.trans (hb.mono hB.size); clear hb)
      | (go_at_call 33; (with_reducible refine (sub_mat P hp (t + 1) n (by omega) (by omega) A B c cb ra rb hMa hMb la lb _ sa sb).mono ?_); rintro e w6 ⟨A5, c5, rfl, l5, s5, hb⟩; replace sa := sa.next hb; replace sb := sb.next hb; replace sl := sl.next hb; have ck00 := (hb.cell (p := ⟨w.heap.size, 0, none⟩) hq0).trans k00; clear k00; have k00 := ck00; clear ck00; have ck01 := (hb.cell (p := ⟨w.heap.size, 1, none⟩) hq0).trans k01; clear k01; have k01 := ck01; clear ck01; have ck02 := (hb.cell (p := ⟨w.heap.size, 2, none⟩) hq0).trans k02; clear k02; have k02 := ck02; clear ck02; have ck03 := (hb.cell (p := ⟨w.heap.size, 3, none⟩) hq0).trans k03; clear k03; have k03 := ck03; clear ck03; have ck04 := (hb.cell (p := ⟨w.heap.size, 4, none⟩) hq0).trans k04; clear k04; have k04 := ck04; clear ck04; have ck05 := (hb.cell (p := ⟨w.heap.size, 5, none⟩) hq0).trans k05; clear k05; have k05 := ck05; clear ck05; replace hq0 := Nat.lt_of_lt_of_le hq0 hb.size; replace hB := hB.trans (hb.mono hB.size); clear hb)
      | (go_at_call 34; (with_reducible refine (rSub_mat P hp (t + 1) n (by omega) (by omega) A B c cb ra rb hMa hMb la lb _ sa sb).mono ?_); rintro e w6 ⟨A6, c6, rfl, l6, s6, hb⟩; replace s5 := s5.next hb; replace sa := sa.next hb; replace sb := sb.next hb; replace sl := sl.next hb; have ck00 := (hb.cell (p := ⟨w.heap.size, 0, none⟩) hq0).trans k00; clear k00; have k00 := ck00; clear ck00; have ck01 := (hb.cell (p := ⟨w.heap.size, 1, none⟩) hq0).trans k01; clear k01; have k01 := ck01; clear ck01; have ck02 := (hb.cell (p := ⟨w.heap.size, 2, none⟩) hq0).trans k02; clear k02; have k02 := ck02; clear ck02; have ck03 := (hb.cell (p := ⟨w.heap.size, 3, none⟩) hq0).trans k03; clear k03; have k03 := ck03; clear ck03; have ck04 := (hb.cell (p := ⟨w.heap.size, 4, none⟩) hq0).trans k04; clear k04; have k04 := ck04; clear ck04; have ck05 := (hb.cell (p := ⟨w.heap.size, 5, none⟩) hq0).trans k05; clear k05; have k05 := ck05; clear ck05; replace hq0 := Nat.lt_of_lt_of_le hq0 hb.size; replace hB := hB.trans (hb.mono hB.size); clear hb)
      | (go_at_call 35; (with_reducible refine (scale_mat P K hp hK (t + 1) n (by omega) (by omega) A c ra hMa la _ sa).mono ?_); rintro e w6 ⟨A5, c5, rfl, l5, s5, hb⟩; replace sa := sa.next hb; replace sb := sb.next hb; replace sl := sl.next hb; have ck00 := (hb.cell (p := ⟨w.heap.size, 0, none⟩) hq0).trans k00; clear k00; have k00 := ck00; clear ck00; have ck01 := (hb.cell (p := ⟨w.heap.size, 1, none⟩) hq0).trans k01; clear k01; have k01 := ck01; clear ck01; have ck02 := (hb.cell (p := ⟨w.heap.size, 2, none⟩) hq0).trans k02; clear k02; have k02 := ck02; clear ck02; have ck03 := (hb.cell (p := ⟨w.heap.size, 3, none⟩) hq0).trans k03; clear k03; have k03 := ck03; clear ck03; have ck04 := (hb.cell (p := ⟨w.heap.size, 4, none⟩) hq0).trans k04; clear k04; have k04 := ck04; clear ck04; have ck05 := (hb.cell (p := ⟨w.heap.size, 5, none⟩) hq0).trans k05; clear k05; have k05 := ck05; clear ck05; replace hq0 := Nat.lt_of_lt_of_le hq0 hb.size; replace hB := hB.trans (hb.mono hB.size); clear hb)
      | (go_at_call 36; (with_reducible refine (rScale_mat P K hp hK (t + 1) n (by omega) (by omega) A c ra hMa la _ sa).mono ?_); rintro e w6 ⟨A6, c6, rfl, l6, s6, hb⟩; replace s5 := s5.next hb; replace sa := sa.next hb; replace sb := sb.next hb; replace sl := sl.next hb; have ck00 := (hb.cell (p := ⟨w.heap.size, 0, none⟩) hq0).trans k00; clear k00; have k00 := ck00; clear ck00; have ck01 := (hb.cell (p := ⟨w.heap.size, 1, none⟩) hq0).trans k01; clear k01; have k01 := ck01; clear ck01; have ck02 := (hb.cell (p := ⟨w.heap.size, 2, none⟩) hq0).trans k02; clear k02; have k02 := ck02; clear ck02; have ck03 := (hb.cell (p := ⟨w.heap.size, 3, none⟩) hq0).trans k03; clear k03; have k03 := ck03; clear ck03; have ck04 := (hb.cell (p := ⟨w.heap.size, 4, none⟩) hq0).trans k04; clear k04; have k04 := ck04; clear ck04; have ck05 := (hb.cell (p := ⟨w.heap.size, 5, none⟩) hq0).trans k05; clear k05; have k05 := ck05; clear ck05; replace hq0 := Nat.lt_of_lt_of_le hq0 hb.size; replace hB := hB.trans (hb.mono hB.size); clear hb)
      | (go_at_call 37; (with_reducible refine (const_mat P K n t (by omega) (by omega) _).mono ?_); rintro e w6 ⟨A5, c5, rfl, l5, s5, hb⟩; replace sa := sa.next hb; replace sb := sb.next hb; replace sl := sl.next hb; have ck00 := (hb.cell (p := ⟨w.heap.size, 0, none⟩) hq0).trans k00; clear k00; have k00 := ck00; clear ck00; have ck01 := (hb.cell (p := ⟨w.heap.size, 1, none⟩) hq0).trans k01; clear k01; have k01 := ck01; clear ck01; have ck02 := (hb.cell (p := ⟨w.heap.size, 2, none⟩) hq0).trans k02; clear k02; have k02 := ck02; clear ck02; have ck03 := (hb.cell (p := ⟨w.heap.size, 3, none⟩) hq0).trans k03; clear k03; have k03 := ck03; clear ck03; have ck04 := (hb.cell (p := ⟨w.heap.size, 4, none⟩) hq0).trans k04; clear k04; have k04 := ck04; clear ck04; have ck05 := (hb.cell (p := ⟨w.heap.size, 5, none⟩) hq0).trans k05; clear k05; have k05 := ck05; clear ck05; replace hq0 := Nat.lt_of_lt_of_le hq0 hb.size; replace hB := hB.trans (hb.mono hB.size); clear hb)
      | (go_at_call 38; (with_reducible refine (rConst_mat P K n t (by omega) (by omega) _).mono ?_); rintro e w6 ⟨A6, c6, rfl, l6, s6, hb⟩; replace s5 := s5.next hb; replace sa := sa.next hb; replace sb := sb.next hb; replace sl := sl.next hb; have ck00 := (hb.cell (p := ⟨w.heap.size, 0, none⟩) hq0).trans k00; clear k00; have k00 := ck00; clear ck00; have ck01 := (hb.cell (p := ⟨w.heap.size, 1, none⟩) hq0).trans k01; clear k01; have k01 := ck01; clear ck01; have ck02 := (hb.cell (p := ⟨w.heap.size, 2, none⟩) hq0).trans k02; clear k02; have k02 := ck02; clear ck02; have ck03 := (hb.cell (p := ⟨w.heap.size, 3, none⟩) hq0).trans k03; clear k03; have k03 := ck03; clear ck03; have ck04 := (hb.cell (p := ⟨w.heap.size, 4, none⟩) hq0).trans k04; clear k04; have k04 := ck04; clear ck04; have ck05 := (hb.cell (p := ⟨w.heap.size, 5, none⟩) hq0).trans k05; clear k05; have k05 := ck05; clear ck05; replace hq0 := Nat.lt_of_lt_of_le hq0 hb.size; replace hB := hB.trans (hb.mono hB.size); clear hb)
      | (go_at_call 40; (with_reducible refine (local_mat 3 n (by omega) (by omega) (by omega) _ 3 _ rfl _ sl).mono ?_); rintro e w6 ⟨A5, c5, rfl, l5, s5, hb⟩; replace sa := sa.next hb; replace sb := sb.next hb; replace sl := sl.next hb; have ck00 := (hb.cell (p := ⟨w.heap.size, 0, none⟩) hq0).trans k00; clear k00; have k00 := ck00; clear ck00; have ck01 := (hb.cell (p := ⟨w.heap.size, 1, none⟩) hq0).trans k01; clear k01; have k01 := ck01; clear ck01; have ck02 := (hb.cell (p := ⟨w.heap.size, 2, none⟩) hq0).trans k02; clear k02; have k02 := ck02; clear ck02; have ck03 := (hb.cell (p := ⟨w.heap.size, 3, none⟩) hq0).trans k03; clear k03; have k03 := ck03; clear ck03; have ck04 := (hb.cell (p := ⟨w.heap.size, 4, none⟩) hq0).trans k04; clear k04; have k04 := ck04; clear ck04; have ck05 := (hb.cell (p := ⟨w.heap.size, 5, none⟩) hq0).trans k05; clear k05; have k05 := ck05; clear ck05; replace hq0 := Nat.lt_of_lt_of_le hq0 hb.size; replace hB := hB.trans (hb.mono hB.size); clear hb)
      | (go_at_call 41; (with_reducible refine (rLocal_mat 3 n (by omega) (by omega) (by omega) _ 3 _ rfl HLN.out _ sl).mono ?_); rintro e w6 ⟨A6, c6, rfl, l6, s6, hb⟩; replace s5 := s5.next hb; replace sa := sa.next hb; replace sb := sb.next hb; replace sl := sl.next hb; have ck00 := (hb.cell (p := ⟨w.heap.size, 0, none⟩) hq0).trans k00; clear k00; have k00 := ck00; clear ck00; have ck01 := (hb.cell (p := ⟨w.heap.size, 1, none⟩) hq0).trans k01; clear k01; have k01 := ck01; clear ck01; have ck02 := (hb.cell (p := ⟨w.heap.size, 2, none⟩) hq0).trans k02; clear k02; have k02 := ck02; clear ck02; have ck03 := (hb.cell (p := ⟨w.heap.size, 3, none⟩) hq0).trans k03; clear k03; have k03 := ck03; clear ck03; have ck04 := (hb.cell (p := ⟨w.heap.size, 4, none⟩) hq0).trans k04; clear k04; have k04 := ck04; clear ck04; have ck05 := (hb.cell (p := ⟨w.heap.size, 5, none⟩) hq0).trans k05; clear k05; have k05 := ck05; clear ck05; replace hq0 := Nat.lt_of_lt_of_le hq0 hb.size; replace hB := hB.trans (hb.mono hB.size); clear hb)
      | (go_at_call 40; (with_reducible refine (local_nil none 0 _).mono ?_); rintro e w' ⟨rfl, rfl⟩))
  all_goals
    go_wp2_with fail
    go_ret
    exact ⟨rfl, hB⟩

theorem lifted (os : Os) (started : os.Started) (H : Type) (enc : TypeId × Value → H) :
    ReturnsInHanded {} Try.checked os 9 .any (Rows.shamirLinearOpsMatchReferenceSpec.pre6 enc Try.prog Try.f9 Rows.shamirLinearOpsMatchReferenceRow.domain false) (Rows.shamirLinearOpsMatchReferenceSpec.post enc Try.prog Try.f9 false true false false) := by
  refine returnsInHanded_of_change (C := Try.checked) own started (by kernel_rfl) Try.func9
    (ChangeSpec.witness6 (enc := enc) (C := Try.checked) false ⟨#[], #[.agg #[.int .u64 0, .int .i64 0, .int .i64 0, .slice none 0 0, .slice none 0 0, .int .u64 0]], []⟩ 8 (by kernel_rfl) (by kernel_rfl) (by kernel_rfl) (by kernel_rfl)) ?_
  intro W base args ds gs before hval0 hW hcnd _
  have hval : ∀ (j : Nat) t v, Try.f9.params[j]? = some t → args[j]? = some v → Value.okWide Try.prog W .any base t v := hval0
  have hW' := hW
  obtain ⟨p, q, hA0, hV, rfl, hfz, hnd⟩ := hW
  have hA : DataW.TrodAll enc Try.prog W 0 (fun _ => true) true Try.f9.params.toList args.toList ds p := hA0
  rw [Try.params9] at hA hval
  obtain ⟨v0, d0, rfl, rfl, t0⟩ := trodAll_one hA
  obtain ⟨rfl, rfl⟩ := trodVars_none hV
  clear hA0 hval0
  simp only [List.append_nil] at hW'
  have l0 : ∀ x ∈ p, x.block < W.heap.size := fun x hx => hW'.lt x (by simp [hx])
  obtain ⟨x0, y0, z0, A0, u0, c0, B0, v0, k0, h0, rfl, b0, e0, f0, g0, r0, m0, q0, n0⟩ := arg_two9 (hval 0 59 v0 rfl rfl) t0 l0
  refine (walk x0 y0 z0 A0 c0 u0 B0 k0 v0 h0 b0 e0 f0 g0 m0 n0 W r0 q0).mono fun e W' ⟨he, hb⟩ => ?_
  subst he
  exact ⟨_, rfl, post_of_below (pa := p) (pv := []) hW' (fun _ _ _ => (trodAll_cons_mk (shut_bool Try.underlying4 _) trodAll_mk0)) (fun sp hsp => trodAll_mk1 (stay_two9 t0 hb l0 sp (fun x hx => hsp x (by simp [hx])))) (fun _ _ => rfl) (by simp)
    hb (ok_one (by kernel_rfl) rfl (okWide_bool_mk Try.underlying4 _))⟩

theorem over : Rows.shamirLinearOpsMatchReferenceRow.holds Try.pinned (OpenSpec.ofChange Rows.shamirLinearOpsMatchReferenceSpec) :=
  OpenClaim.holds_of_wide 9 Try.f9 rfl rfl rfl rfl rfl rfl rfl ⟨rfl, rfl, rfl, rfl, rfl⟩ rfl rfl rfl rfl rfl (by kernel_rfl) Try.func9 (by kernel_rfl)
    (of_decide_eq_true (by kernel_rfl)) (by unfold Func.isWrapper; first | (rw [if_pos (by decide +kernel)]; kernel_rfl) | (rw [if_neg (by decide +kernel)]; exact ⟨rfl, rfl⟩))
    (fun os started H enc _ => lifted os started H enc)

theorem proved : Rows.ShamirLinearOpsMatchReferenceSaid := over
end Go.Proofs.Ytddbdjhgmeeakaa.shamirLinearOpsMatchReference
