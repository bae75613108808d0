/- Two distinct input vectors, each extended by its output vector, differ in more components than there are rows. No conditions. -/
import Derived.Test.YtjijlefplidhpaaHDist
namespace Go.Proofs.Ytjijlefplidhpaa.hyperinvertibleMinimumDistance
set_option maxRecDepth 100000
open Go.ChangeShapes Go.WideShapes Go.ChangeAt Go.RowKit PolyMath FieldMath MatMath

set_option maxHeartbeats 4000000 in
theorem walk_unsup (p : Int) (Aa : Option Addr) (ca : Nat) (a : List Int) (Ab : Option Addr) (cb : Nat) (b : List Int) (_wa : Words a) (_wb : Words b) (hs : (qOf p != 0) = false) (w : World) (sa : Sl w Aa ca a) (sb : Sl w Ab cb b) :
    Calls Try.prog 9 #[.int .u64 p, .slice Aa a.length ca, .slice Ab b.length cb] w fun e w' => e = .returned (.bool true) ∧ Below w.heap.size w w' := by
  have gs := fun W => rSupported_any p W
  rw [hs] at gs
  go_enter Try.func9, Try.ntmps9
  have hB := Below.refl w.heap.size w
  go_wp2_with fail
  refine (awake7_any _).mono ?_
  rintro e w1 ⟨rfl, hb⟩
  replace sa := sa.next hb
  replace sb := sb.next hb
  replace hB := hB.trans (hb.mono hB.size)
  clear hb
  go_wp2_with fail
  refine (gs _).mono ?_
  rintro e w2 ⟨rfl, hb⟩
  replace sa := sa.next hb
  replace sb := sb.next hb
  replace hB := hB.trans (hb.mono hB.size)
  clear hb
  go_wp2_with fail
  go_ret
  exact ⟨rfl, hB⟩

set_option maxHeartbeats 4000000 in
theorem walk_lt (p : Int) (Aa : Option Addr) (ca : Nat) (a : List Int) (Ab : Option Addr) (cb : Nat) (b : List Int) (_wa : Words a) (_wb : Words b) (hs : (qOf p != 0) = true) (h1 : a.length < 1) (w : World) (sa : Sl w Aa ca a) (sb : Sl w Ab cb b) :
    Calls Try.prog 9 #[.int .u64 p, .slice Aa a.length ca, .slice Ab b.length cb] w fun e w' => e = .returned (.bool true) ∧ Below w.heap.size w w' := by
  have gs := fun W => rSupported_any p W
  rw [hs] at gs
  have h1' : (a.length : Int) < 1 := by omega
  go_enter Try.func9, Try.ntmps9
  have hB := Below.refl w.heap.size w
  go_wp2_with fail
  refine (awake7_any _).mono ?_
  rintro e w1 ⟨rfl, hb⟩
  replace sa := sa.next hb
  replace sb := sb.next hb
  replace hB := hB.trans (hb.mono hB.size)
  clear hb
  go_wp2_with fail
  refine (gs _).mono ?_
  rintro e w2 ⟨rfl, hb⟩
  replace sa := sa.next hb
  replace sb := sb.next hb
  replace hB := hB.trans (hb.mono hB.size)
  clear hb
  go_wp2_with fail
  go_ret
  exact ⟨rfl, hB⟩

set_option maxHeartbeats 4000000 in
theorem walk_gt (p : Int) (Aa : Option Addr) (ca : Nat) (a : List Int) (Ab : Option Addr) (cb : Nat) (b : List Int) (_wa : Words a) (_wb : Words b) (hs : (qOf p != 0) = true) (h1 : 7 < a.length) (w : World) (sa : Sl w Aa ca a) (sb : Sl w Ab cb b) :
    Calls Try.prog 9 #[.int .u64 p, .slice Aa a.length ca, .slice Ab b.length cb] w fun e w' => e = .returned (.bool true) ∧ Below w.heap.size w w' := by
  have gs := fun W => rSupported_any p W
  rw [hs] at gs
  have h1' : ¬ (a.length : Int) < 1 := by omega
  have h2' : (7 : Int) < a.length := by omega
  go_enter Try.func9, Try.ntmps9
  have hB := Below.refl w.heap.size w
  go_wp2_with fail
  refine (awake7_any _).mono ?_
  rintro e w1 ⟨rfl, hb⟩
  replace sa := sa.next hb
  replace sb := sb.next hb
  replace hB := hB.trans (hb.mono hB.size)
  clear hb
  go_wp2_with fail
  refine (gs _).mono ?_
  rintro e w2 ⟨rfl, hb⟩
  replace sa := sa.next hb
  replace sb := sb.next hb
  replace hB := hB.trans (hb.mono hB.size)
  clear hb
  go_wp2_with fail
  go_ret
  exact ⟨rfl, hB⟩

set_option maxHeartbeats 4000000 in
theorem walk_ne (p : Int) (Aa : Option Addr) (ca : Nat) (a : List Int) (Ab : Option Addr) (cb : Nat) (b : List Int) (_wa : Words a) (_wb : Words b) (hs : (qOf p != 0) = true) (h1 : 1 ≤ a.length) (h2 : a.length ≤ 7) (h3 : b.length ≠ a.length) (w : World) (sa : Sl w Aa ca a) (sb : Sl w Ab cb b) :
    Calls Try.prog 9 #[.int .u64 p, .slice Aa a.length ca, .slice Ab b.length cb] w fun e w' => e = .returned (.bool true) ∧ Below w.heap.size w w' := by
  have gs := fun W => rSupported_any p W
  rw [hs] at gs
  have h1' : ¬ (a.length : Int) < 1 := by omega
  have h2' : ¬ (7 : Int) < a.length := by omega
  have h3' : ((b.length : Int) != a.length) = true := bne_iff_ne.2 (by omega)
  go_enter Try.func9, Try.ntmps9
  have hB := Below.refl w.heap.size w
  go_wp2_with fail
  refine (awake7_any _).mono ?_
  rintro e w1 ⟨rfl, hb⟩
  replace sa := sa.next hb
  replace sb := sb.next hb
  replace hB := hB.trans (hb.mono hB.size)
  clear hb
  go_wp2_with fail
  refine (gs _).mono ?_
  rintro e w2 ⟨rfl, hb⟩
  replace sa := sa.next hb
  replace sb := sb.next hb
  replace hB := hB.trans (hb.mono hB.size)
  clear hb
  go_wp2_with fail
  go_ret
  exact ⟨rfl, hB⟩

set_option maxHeartbeats 4000000 in
theorem walk_ba (p : Int) (Aa : Option Addr) (ca : Nat) (a : List Int) (Ab : Option Addr) (cb : Nat) (b : List Int) (_wa : Words a) (_wb : Words b) (hs : (qOf p != 0) = true) (h1 : 1 ≤ a.length) (h2 : a.length ≤ 7) (h3 : b.length = a.length) (h4 : ¬ ∀ x ∈ a, x < p) (w : World) (sa : Sl w Aa ca a) (sb : Sl w Ab cb b) :
    Calls Try.prog 9 #[.int .u64 p, .slice Aa a.length ca, .slice Ab b.length cb] w fun e w' => e = .returned (.bool true) ∧ Below w.heap.size w w' := by
  have gs := fun W => rSupported_any p W
  rw [hs] at gs
  have h1' : ¬ (a.length : Int) < 1 := by omega
  have h2' : ¬ (7 : Int) < a.length := by omega
  have hb7 : b.length ≤ 7 := by omega
  have ga := fun W (q : Sl W Aa ca a) => below_any p Aa ca a W q (by omega)
  have gb := fun W (q : Sl W Ab cb b) => below_any p Ab cb b W q (by omega)
  have h3' : ((b.length : Int) != a.length) = false := by rw [h3]; simp
  rw [decide_eq_false h4] at ga
  have H3 := Lib.hid h3
  clear h3
  go_enter Try.func9, Try.ntmps9
  have hB := Below.refl w.heap.size w
  go_wp2_with fail
  refine (awake7_any _).mono ?_
  rintro e w1 ⟨rfl, hb⟩
  replace sa := sa.next hb
  replace sb := sb.next hb
  replace hB := hB.trans (hb.mono hB.size)
  clear hb
  go_wp2_with fail
  refine (gs _).mono ?_
  rintro e w2 ⟨rfl, hb⟩
  replace sa := sa.next hb
  replace sb := sb.next hb
  replace hB := hB.trans (hb.mono hB.size)
  clear hb
  go_wp2_with fail
  refine (ga _ sa).mono ?_
  rintro e w' ⟨rfl, rfl⟩
  go_wp2_with fail
  go_ret
  exact ⟨rfl, hB⟩

set_option maxHeartbeats 4000000 in
theorem walk_bb (p : Int) (Aa : Option Addr) (ca : Nat) (a : List Int) (Ab : Option Addr) (cb : Nat) (b : List Int) (_wa : Words a) (_wb : Words b) (hs : (qOf p != 0) = true) (h1 : 1 ≤ a.length) (h2 : a.length ≤ 7) (h3 : b.length = a.length) (h4 : ∀ x ∈ a, x < p) (h5 : ¬ ∀ x ∈ b, x < p) (w : World) (sa : Sl w Aa ca a) (sb : Sl w Ab cb b) :
    Calls Try.prog 9 #[.int .u64 p, .slice Aa a.length ca, .slice Ab b.length cb] w fun e w' => e = .returned (.bool true) ∧ Below w.heap.size w w' := by
  have gs := fun W => rSupported_any p W
  rw [hs] at gs
  have h1' : ¬ (a.length : Int) < 1 := by omega
  have h2' : ¬ (7 : Int) < a.length := by omega
  have hb7 : b.length ≤ 7 := by omega
  have ga := fun W (q : Sl W Aa ca a) => below_any p Aa ca a W q (by omega)
  have gb := fun W (q : Sl W Ab cb b) => below_any p Ab cb b W q (by omega)
  have h3' : ((b.length : Int) != a.length) = false := by rw [h3]; simp
  rw [decide_eq_true h4] at ga
  rw [decide_eq_false h5] at gb
  have H3 := Lib.hid h3
  clear h3
  go_enter Try.func9, Try.ntmps9
  have hB := Below.refl w.heap.size w
  go_wp2_with fail
  refine (awake7_any _).mono ?_
  rintro e w1 ⟨rfl, hb⟩
  replace sa := sa.next hb
  replace sb := sb.next hb
  replace hB := hB.trans (hb.mono hB.size)
  clear hb
  go_wp2_with fail
  refine (gs _).mono ?_
  rintro e w2 ⟨rfl, hb⟩
  replace sa := sa.next hb
  replace sb := sb.next hb
  replace hB := hB.trans (hb.mono hB.size)
  clear hb
  go_wp2_with fail
  refine (ga _ sa).mono ?_
  rintro e w' ⟨rfl, rfl⟩
  go_wp2_with fail
  refine (gb _ sb).mono ?_
  rintro e w' ⟨rfl, rfl⟩
  go_wp2_with fail
  go_ret
  exact ⟨rfl, hB⟩

set_option maxHeartbeats 4000000 in
theorem walk_same (p : Int) (Aa : Option Addr) (ca : Nat) (a : List Int) (Ab : Option Addr) (cb : Nat) (b : List Int) (_wa : Words a) (_wb : Words b) (hs : (qOf p != 0) = true) (h1 : 1 ≤ a.length) (h2 : a.length ≤ 7) (h3 : b.length = a.length) (h4 : ∀ x ∈ a, x < p) (h5 : ∀ x ∈ b, x < p) (h6 : a = b) (w : World) (sa : Sl w Aa ca a) (sb : Sl w Ab cb b) :
    Calls Try.prog 9 #[.int .u64 p, .slice Aa a.length ca, .slice Ab b.length cb] w fun e w' => e = .returned (.bool true) ∧ Below w.heap.size w w' := by
  have gs := fun W => rSupported_any p W
  rw [hs] at gs
  have h1' : ¬ (a.length : Int) < 1 := by omega
  have h2' : ¬ (7 : Int) < a.length := by omega
  have hb7 : b.length ≤ 7 := by omega
  have ga := fun W (q : Sl W Aa ca a) => below_any p Aa ca a W q (by omega)
  have gb := fun W (q : Sl W Ab cb b) => below_any p Ab cb b W q (by omega)
  have h3' : ((b.length : Int) != a.length) = false := by rw [h3]; simp
  rw [decide_eq_true h4] at ga
  rw [decide_eq_true h5] at gb
  subst h6
  have gz := fun W (q1 : Sl W Aa ca a) (q2 : Sl W Ab cb a) => same_b Aa Ab a ca cb W q1 q2 (by omega)
  have H3 := Lib.hid h3
  clear h3
  go_enter Try.func9, Try.ntmps9
  have hB := Below.refl w.heap.size w
  go_wp2_with fail
  refine (awake7_any _).mono ?_
  rintro e w1 ⟨rfl, hb⟩
  replace sa := sa.next hb
  replace sb := sb.next hb
  replace hB := hB.trans (hb.mono hB.size)
  clear hb
  go_wp2_with fail
  refine (gs _).mono ?_
  rintro e w2 ⟨rfl, hb⟩
  replace sa := sa.next hb
  replace sb := sb.next hb
  replace hB := hB.trans (hb.mono hB.size)
  clear hb
  go_wp2_with fail
  refine (ga _ sa).mono ?_
  rintro e w' ⟨rfl, rfl⟩
  go_wp2_with fail
  refine (gb _ sb).mono ?_
  rintro e w' ⟨rfl, rfl⟩
  go_wp2_with fail
  refine (gz _ sa sb).mono ?_
  rintro e w5 ⟨rfl, hb⟩
  replace sa := sa.next hb
  replace sb := sb.next hb
  replace hB := hB.trans (hb.mono hB.size)
  clear hb
  go_wp2_with fail
  go_ret
  exact ⟨rfl, hB⟩

set_option maxHeartbeats 4000000 in
theorem walk_ok (p : Int) (Aa : Option Addr) (ca : Nat) (a : List Int) (Ab : Option Addr) (cb : Nat) (b : List Int) (wa : Words a) (wb : Words b) (hs : (qOf p != 0) = true) (h1 : 1 ≤ a.length) (h2 : a.length ≤ 7) (h3 : b.length = a.length) (h4 : ∀ x ∈ a, x < p) (h5 : ∀ x ∈ b, x < p) (hp : OkP p) (h6 : a ≠ b) (w : World) (sa : Sl w Aa ca a) (sb : Sl w Ab cb b) :
    Calls Try.prog 9 #[.int .u64 p, .slice Aa a.length ca, .slice Ab b.length cb] w fun e w' => e = .returned (.bool true) ∧ Below w.heap.size w w' := by
  have gs := fun W => rSupported_any p W
  rw [hs] at gs
  have h1' : ¬ (a.length : Int) < 1 := by omega
  have h2' : ¬ (7 : Int) < a.length := by omega
  have hb7 : b.length ≤ 7 := by omega
  have ga := fun W (q : Sl W Aa ca a) => below_any p Aa ca a W q (by omega)
  have gb := fun W (q : Sl W Ab cb b) => below_any p Ab cb b W q (by omega)
  have h3' : ((b.length : Int) != a.length) = false := by rw [h3]; simp
  rw [decide_eq_true h4] at ga
  rw [decide_eq_true h5] at gb
  have hbd := hp.bd
  have ea : El p a := el_of wa h4
  have eb : El p b := el_of wb h5
  have gz := fun W (q1 : Sl W Aa ca a) (q2 : Sl W Ab cb b) => same_no Aa Ab a b ca cb h3 h6 (by omega) W q1 q2
  have gn := fun W => new_ok p hp 6 a.length (by omega) (by omega) (by omega) W
  have hMat := nw_mat (p := p) (by omega) 6 a.length
  have zM : Sized (nw p 6 a.length) := hMat.sized (by omega) (by omega)
  have g1 := fun W A c (q1 : Sll W A c (nw p 6 a.length)) (q2 : Sl W Aa ca a) => apply_ok p hp A Aa c ca _ a zM hMat.els ea hMat.isRect (by rw [hMat.cols (by omega)]) W q1 q2
  have g2 := fun W A c (q1 : Sll W A c (nw p 6 a.length)) (q2 : Sl W Ab cb b) => apply_ok p hp A Ab c cb _ b zM hMat.els eb hMat.isRect (by rw [hMat.cols (by omega), h3]) W q1 q2
  have hxl : (app p (nw p 6 a.length) a).length = 6 := by rw [app_len, nw_len]
  have hyl : (app p (nw p 6 a.length) b).length = 6 := by rw [app_len, nw_len]
  have hfar := dist_math hp.good (rows := 6) (show ((a.length + 6 : Nat) : Int) < p by omega) ea eb h3 h6
  have hFAR := Lib.hid hfar
  clear hfar
  generalize app p (nw p 6 a.length) a = xa at *
  generalize app p (nw p 6 a.length) b = xb at *
  obtain ⟨F1, hF1'⟩ : ∃ F : Nat → Bool, F = fun i => co a i != co b i := ⟨_, rfl⟩
  obtain ⟨F2, hF2'⟩ : ∃ F : Nat → Bool, F = fun i => co xa i != co xb i := ⟨_, rfl⟩
  rw [← hF1', ← hF2'] at hFAR
  have hF1 : Hid (∀ i, F1 i = (co a i != co b i)) := Lib.hid fun i => by rw [hF1']
  have hF2 : Hid (∀ i, F2 i = (co xa i != co xb i)) := Lib.hid fun i => by rw [hF2']
  clear hF1' hF2' zM hMat ea eb h4 h5 h6
  generalize nw p 6 a.length = MM at *
  unfold RowE at g1 g2
  rw [hxl] at g1
  rw [hyl] at g2
  have HXL := Lib.hid hxl
  have HYL := Lib.hid hyl
  clear hxl hyl
  have hd1 : decide ((a.length : Int) < 1) = false := decide_eq_false (by omega)
  have hd2 : decide ((7 : Int) < a.length) = false := decide_eq_false (by omega)
  have H3 := Lib.hid h3
  clear h3
  go_enter Try.func9, Try.ntmps9
  have hB := Below.refl w.heap.size w
  go_wp2_with fail
  refine (awake7_any _).mono ?_
  rintro e w1 ⟨rfl, hb⟩
  replace sa := sa.next hb
  replace sb := sb.next hb
  replace hB := hB.trans (hb.mono hB.size)
  clear hb
  go_wp2_with fail
  refine (gs _).mono ?_
  rintro e w2 ⟨rfl, hb⟩
  replace sa := sa.next hb
  replace sb := sb.next hb
  replace hB := hB.trans (hb.mono hB.size)
  clear hb
  go_wp2_with fail
  refine (ga _ sa).mono ?_
  rintro e w' ⟨rfl, rfl⟩
  go_wp2_with fail
  refine (gb _ sb).mono ?_
  rintro e w' ⟨rfl, rfl⟩
  go_wp2_with fail
  refine (gz _ sa sb).mono ?_
  rintro e w5 ⟨rfl, hb⟩
  replace sa := sa.next hb
  replace sb := sb.next hb
  replace hB := hB.trans (hb.mono hB.size)
  clear hb
  go_wp2_with fail
  refine (gn _).mono ?_
  rintro e w6 ⟨Am, cm, rfl, sm, hb⟩
  replace sa := sa.next hb
  replace sb := sb.next hb
  replace hB := hB.trans (hb.mono hB.size)
  clear hb
  go_wp2_with fail
  refine (g1 _ _ _ sm sa).mono ?_
  rintro e w7 ⟨Ax, cx, rfl, sx, hb⟩
  replace sa := sa.next hb
  replace sb := sb.next hb
  replace sm := sm.next hb
  replace hB := hB.trans (hb.mono hB.size)
  clear hb
  go_wp2_with fail
  refine (g2 _ _ _ sm sb).mono ?_
  rintro e w8 ⟨Ay, cy, rfl, sy, hb⟩
  replace sa := sa.next hb
  replace sb := sb.next hb
  replace sx := sx.next hb
  replace hB := hB.trans (hb.mono hB.size)
  clear hb sm
  rename World => W0
  go_wp2_with fail
  have hMB := fun (f : Nat → Bool) n => mrk_le f n
  go_loopw [13, 14] (fun n i wr => ∃ k m : Nat, k ≤ a.length ∧ i = .int .i64 k ∧ n = .int .i64 (mrk F1 k : Nat) ∧ wr = W0.drewN m) (fun _ i _ => a.length - (intOf i).toNat)
  case atStart => exact ⟨0, 0, Nat.zero_le _, rfl, rfl, rfl⟩
  case round =>
    obtain ⟨k, m, hk, rfl, rfl, rfl⟩ := hrel
    have hmk := hMB F1 k
    by_cases hlt : k < a.length
    · obtain ⟨ba, oa, u, hA, _, hu, hcu⟩ := sa.at_ hlt
      obtain ⟨bb, ob, v, hA2, _, hv, hcv⟩ := sb.at_ (k := k) (by rw [H3.out]; exact hlt)
      subst hA hA2
      have hk' : (k : Int) < a.length := by omega
      have hk2' : (k : Int) < b.length := by rw [H3.out]; omega
      have hF := hF1.out k
      rw [co_at hu, co_at hv] at hF
      have hNX := mrk_next F1 k
      by_cases e : u = v
      · rw [hF, if_neg (by simpa using e)] at hNX
        have HNX := Lib.hid hNX
        have e' : (u != v) = false := by rw [e]; simp
        subst e
        clear hNX hF hu hv
        go_wp2
        go_quiet (fail)
        go_wp2
        go_roundw
        case rel => exact ⟨k + 1, _, by omega, by simp, by rw [HNX.out]; rfl, by first | rfl | (simp; rfl)⟩
        case measure => simp [intOf]; omega
      · rw [hF, if_pos (by simpa using e)] at hNX
        have HNX := Lib.hid hNX
        have e' : (u != v) = true := bne_iff_ne.2 e
        clear hNX hF hu hv
        go_wp2
        go_quiet (fail)
        go_wp2
        go_roundw
        case rel => exact ⟨k + 1, _, by omega, by simp, by rw [HNX.out]; simp, by first | rfl | (simp; rfl)⟩
        case measure => simp [intOf]; omega
    · obtain rfl : k = a.length := by omega
      go_wp2
      go_loopw [13, 15] (fun n i wr => ∃ q r : Nat, q ≤ 6 ∧ i = .int .i64 q ∧ n = .int .i64 (mrk F1 a.length + mrk F2 q : Nat) ∧ wr = W0.drewN r) (fun _ i _ => 6 - (intOf i).toNat)
      case atStart => exact ⟨0, m, Nat.zero_le _, rfl, rfl, rfl⟩
      case round =>
        obtain ⟨q, r, hq6, rfl, rfl, rfl⟩ := hrel
        have hmq := hMB F2 q
        by_cases hlt2 : q < 6
        · obtain ⟨ba, oa, u, hA, _, hu, hcu⟩ := sx.at_ (k := q) (by rw [HXL.out]; exact hlt2)
          obtain ⟨bb, ob, v, hA2, _, hv, hcv⟩ := sy.at_ (k := q) (by rw [HYL.out]; exact hlt2)
          subst hA hA2
          have hq' : (q : Int) < 6 := by omega
          have hF := hF2.out q
          rw [co_at hu, co_at hv] at hF
          have hNX := mrk_next F2 q
          by_cases e : u = v
          · rw [hF, if_neg (by simpa using e)] at hNX
            have HNX := Lib.hid hNX
            have e' : (u != v) = false := by rw [e]; simp
            subst e
            clear hNX hF hu hv
            go_wp2
            go_quiet (fail)
            go_wp2
            go_roundw
            case rel => exact ⟨q + 1, _, by omega, by simp, by rw [HNX.out]; rfl, by first | rfl | (simp; rfl)⟩
            case measure => simp [intOf]; omega
          · rw [hF, if_pos (by simpa using e)] at hNX
            have HNX := Lib.hid hNX
            have e' : (u != v) = true := bne_iff_ne.2 e
            clear hNX hF hu hv
            go_wp2
            go_quiet (fail)
            go_wp2
            go_roundw
            case rel => exact ⟨q + 1, _, by omega, by simp, by rw [HNX.out]; simp; omega, by first | rfl | (simp; rfl)⟩
            case measure => simp [intOf]; omega
        · obtain rfl : q = 6 := by omega
          have hfin : (6 : Int) < ((mrk F1 a.length + mrk F2 6 : Nat) : Int) := by have := hFAR.out; omega
          have hfin2 : (6 : Int) < (mrk F1 a.length : Int) + (mrk F2 6 : Int) := by omega
          go_wp2
          go_ret
          exact ⟨rfl, below_drewN hB r⟩

set_option maxHeartbeats 4000000 in
theorem walk (p : Int) (Aa : Option Addr) (ca : Nat) (a : List Int) (Ab : Option Addr) (cb : Nat) (b : List Int) (wa : Words a) (wb : Words b)  (w : World) (sa : Sl w Aa ca a) (sb : Sl w Ab cb b) :
    Calls Try.prog 9 #[.int .u64 p, .slice Aa a.length ca, .slice Ab b.length cb] w fun e w' => e = .returned (.bool true) ∧ Below w.heap.size w w' := by
  rcases sup_cases p with hs | ⟨hs, hp⟩
  · exact walk_unsup p Aa ca a Ab cb b wa wb hs w sa sb
  · by_cases h1 : a.length < 1
    · exact walk_lt p Aa ca a Ab cb b wa wb hs h1 w sa sb
    · by_cases h2 : 7 < a.length
      · exact walk_gt p Aa ca a Ab cb b wa wb hs h2 w sa sb
      · by_cases h3 : b.length = a.length
        · by_cases h4 : ∀ x ∈ a, x < p
          · by_cases h5 : ∀ x ∈ b, x < p
            · by_cases h6 : a = b
              · exact walk_same p Aa ca a Ab cb b wa wb hs (by omega) (by omega) h3 h4 h5 h6 w sa sb
              · exact walk_ok p Aa ca a Ab cb b wa wb hs (by omega) (by omega) h3 h4 h5 hp h6 w sa sb
            · exact walk_bb p Aa ca a Ab cb b wa wb hs (by omega) (by omega) h3 h4 h5 w sa sb
          · exact walk_ba p Aa ca a Ab cb b wa wb hs (by omega) (by omega) h3 h4 w sa sb
        · exact walk_ne p Aa ca a Ab cb b wa wb hs (by omega) (by omega) h3 w sa sb

theorem lifted (os : Os) (started : os.Started) (H : Type) (enc : TypeId × Value → H) :
    ReturnsInHanded {} Try.checked os 9 .any (Rows.hyperinvertibleMinimumDistanceSpec.pre6 enc Try.prog Try.f9 Rows.hyperinvertibleMinimumDistanceRow.domain false) (Rows.hyperinvertibleMinimumDistanceSpec.post enc Try.prog Try.f9 false true false false) := by
  refine returnsInHanded_of_change (C := Try.checked) own started (by kernel_rfl) Try.func9
    (ChangeSpec.witness6 (enc := enc) (C := Try.checked) false ⟨#[], #[.int .u64 0, .slice none 0 0, .slice none 0 0], []⟩ 8 (by kernel_rfl) (by kernel_rfl) (by kernel_rfl) (by kernel_rfl)) ?_
  intro W base args ds gs before hval0 hW hcnd _
  have hval : ∀ (j : Nat) t v, Try.f9.params[j]? = some t → args[j]? = some v → Value.okWide Try.prog W .any base t v := hval0
  have hW' := hW
  obtain ⟨p, q, hA0, hV, rfl, hfz, hnd⟩ := hW
  have hA : DataW.TrodAll enc Try.prog W 0 (fun _ => true) true Try.f9.params.toList args.toList ds p := hA0
  rw [Try.params9] at hA hval
  obtain ⟨v0, v1, v2, d0, d1, d2, p0, p1, p2, rfl, rfl, rfl, t0, t1, t2⟩ := trodAll_three hA
  obtain ⟨rfl, rfl⟩ := trodVars_none hV
  clear hA0 hval0
  simp only [List.append_nil] at hW'
  have l0 : ∀ x ∈ p0, x.block < W.heap.size := fun x hx => hW'.lt x (by simp [hx])
  obtain ⟨x0, rfl, _⟩ := arg_word (hval 0 22 v0 rfl rfl) t0
  have l1 : ∀ x ∈ p1, x.block < W.heap.size := fun x hx => hW'.lt x (by simp [hx])
  obtain ⟨A1, x1, c1, rfl, r1, b1⟩ := arg_sl (hval 1 31 v1 rfl rfl) t1 l1
  have l2 : ∀ x ∈ p2, x.block < W.heap.size := fun x hx => hW'.lt x (by simp [hx])
  obtain ⟨A2, x2, c2, rfl, r2, b2⟩ := arg_sl (hval 2 31 v2 rfl rfl) t2 l2
  refine (walk x0 A1 c1 x1 A2 c2 x2 b1 b2 W r1 r2).mono fun e W' ⟨he, hb⟩ => ?_
  subst he
  exact ⟨_, rfl, post_of_below (pa := p0 ++ (p1 ++ p2)) (pv := []) hW' (fun _ _ _ => (trodAll_cons_mk (shut_bool Try.underlying4 _) trodAll_mk0)) (fun sp hsp => trodAll_mk3 (stay_word t0 hb l0 sp (fun x hx => hsp x (by simp [hx]))) (stays t1 hb l1 sp (fun x hx => hsp x (by simp [hx]))) (stays t2 hb l2 sp (fun x hx => hsp x (by simp [hx])))) (fun _ _ => rfl) (by simp)
    hb (ok_one (by kernel_rfl) rfl (okWide_bool_mk Try.underlying4 _))⟩

theorem over : Rows.hyperinvertibleMinimumDistanceRow.holds Try.pinned (OpenSpec.ofChange Rows.hyperinvertibleMinimumDistanceSpec) :=
  OpenClaim.holds_of_wide 9 Try.f9 rfl rfl rfl rfl rfl rfl rfl ⟨rfl, rfl, rfl, rfl, rfl⟩ rfl rfl rfl rfl rfl (by kernel_rfl) Try.func9 (by kernel_rfl)
    (of_decide_eq_true (by kernel_rfl)) (by unfold Func.isWrapper; first | (rw [if_pos (by decide +kernel)]; kernel_rfl) | (rw [if_neg (by decide +kernel)]; exact ⟨rfl, rfl⟩))
    (fun os started H enc _ => lifted os started H enc)

theorem proved : Rows.HyperinvertibleMinimumDistanceSaid := over
end Go.Proofs.Ytjijlefplidhpaa.hyperinvertibleMinimumDistance
