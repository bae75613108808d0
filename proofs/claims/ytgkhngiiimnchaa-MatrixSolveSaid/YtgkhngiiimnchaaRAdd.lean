/- addMultiple and innerProduct of package matrix: a multiple of a row added to a row of the call's own, from a column on; the sum of products. Conditions: a supported prime, words of its field, rows of at most 1000 words. -/
import Derived.Test.YtgkhngiiimnchaaRBase
namespace Go.Proofs.Ytgkhngiiimnchaa
open Go.RowKit PolyMath FieldMath MatMath

theorem Sl.grownN {w w' : World} {A : Option Addr} {c : Nat} {xs : List Int} {row : Option Nat} (h : Sl w A c xs) (hg : w.grownBy w' row) (hr : xs ≠ [] → ∀ ad, A = some ad → some ad.block ≠ row) : Sl w' A c xs :=
  ⟨h.cap, h.nil, fun ad hA hn => by
    obtain ⟨b, off, rfl, hb, hc⟩ := h.rd ad hA hn
    exact ⟨b, off, rfl, Nat.lt_of_lt_of_le hb hg.size, fun j x hx => hg.cell (hc j x hx) (hr hn ⟨b, off, none⟩ hA)⟩⟩
/-- What a multiple of ts, laid at place o, makes of a word. -/
def addF (p f : Int) (xs ts : List Int) (o c : Nat) : Int := fadd p (co xs c) (fmul p f (co ts (c - o)))

set_option maxHeartbeats 1000000 in
theorem addMul_any (p f : Int) (hp : OkP p) (hf : 0 ≤ f ∧ f < p) (base g L cb : Nat) (xs : List Int) (hxs : El p xs) (o n c1 : Nat) (hL : o + n = L) (hl : L ≤ 1000) (hc1 : n ≤ c1)
    (B : Option Addr) (cB : Nat) (ts : List Int) (hts : El p ts) (hn : ts.length = n) (w : World) (ho : OwnAt w base g L cb xs) (hs : Sl w B cB ts) (hap : ts ≠ [] → ∀ ad, B = some ad → some ad.block ≠ some g) :
    Calls Try.prog 35 #[.int .u64 p, .slice (some ⟨g, o, none⟩) n c1, .int .u64 f, .slice B n cB] w fun e w' =>
      (∃ v, e = .returned v) ∧ OwnAt w' base g L cb (mixO (addF p f xs ts o) o n xs) ∧ w.grownBy w' (some g) := by
  have hbd := hp.bd
  have hxl := ho.len
  by_cases h0 : f = 0
  · subst h0
    have hE : Hid (mixO (addF p 0 xs ts o) o n xs = xs) := Lib.hid (mixO_none (by omega) o n (fun c => co ts (c - o)) hxs)
    clear hxl hn hL
    go_enter Try.func35, Try.ntmps35
    go_wp2
    (try simp only [Exit.inBlock, Exit.then]); refine bodyPost_ret (results_none rfl _ _ _) rfl ?_
    exact ⟨⟨_, rfl⟩, by rw [hE.out]; exact ho, World.grownBy.refl _ _⟩
  · have h0' : (f == 0) = false := beq_eq_false_iff_ne.2 h0
    have hN := Lib.hid hn
    have HL := Lib.hid hL
    have hLo : o + n ≤ 1000 := by omega
    have HX := Lib.hid hxl
    clear hn hL hxl
    go_enter Try.func35, Try.ntmps35
    go_wp2
    go_loopw [14] (fun i wr => ∃ k : Nat, k ≤ n ∧ i = .int .i64 k ∧ OwnAt wr base g L cb (mixO (addF p f xs ts o) o k xs) ∧ w.grownBy wr (some g)) (fun i _ => n - (intOf i).toNat)
    case atStart => exact ⟨0, Nat.zero_le _, rfl, by rw [mixO_zero]; exact ho, World.grownBy.refl _ _⟩
    case round =>
      obtain ⟨k, hk, rfl, hO, hG⟩ := hrel
      by_cases hlt : k < n
      · obtain ⟨b, off, y, hB, hbw, hy, hcy⟩ := (hs.grownN hG hap).at_ (k := k) (by rw [hN.out]; exact hlt)
        subst hB
        have hyb := hts y (List.mem_of_getElem? hy)
        have hcx := hO.cell (mixO_get (addF p f xs ts o) o k xs (c := o + k) (by rw [HX.out, ← HL.out]; omega))
        rw [if_neg (by omega)] at hcx
        have hxb := hxs.co (p := p) (by omega) (o + k)
        have hm := fmul_bd p f y (by omega)
        have hfz := hO.frozen (o + k)
        have hne := hO.lt
        have hval : fadd p (co xs (o + k)) (fmul p f y) = addF p f xs ts o (o + k) := by unfold addF; rw [show o + k - o = k by omega, co_at hy]
        have hST := Lib.hid (show OwnAt (wr.drew.setCell ⟨g, o + k, none⟩ (.int .u64 (fadd p (co xs (o + k)) (fmul p f y)))) base g L cb (mixO (addF p f xs ts o) o (k + 1) xs) by
          rw [hval, ← mixO_set]; exact hO.drew.put _ _)
        have hGR := Lib.hid (grown_trans (grown_drew hG) (hO.drew.grow (o + k) (fadd p (co xs (o + k)) (fmul p f y))))
        have hkn : (k : Int) < n := by omega
        clear hy hval hO hG
        generalize co xs (o + k) = x at *
        go_wp2
        refine wp_region_still_tail 13 (by kernel_rfl) (by kernel_rfl) ?_
        simp only [List.take_succ_cons, List.take_zero, List.drop_succ_cons, List.drop_zero]
        change wpStill _ _ (World.drew _) (fun a' => wpList _ _ _ _ a' (World.drew _)) _ _
        repeat still_step
        still_call (still_of (mul_any _ _ _ hp hf.1 hf.2 hyb.1 hyb.2 _))
        repeat still_step
        still_call (still_of (add_any _ _ _ hp hxb.1 hxb.2 hm.1 hm.2 _))
        repeat still_step
        refine wpStill_nil ?_
        go_wp2
        go_roundw
        case rel => exact ⟨k + 1, by omega, by simp, hST.out, hGR.out⟩
        case measure => simp [intOf]; omega
      · obtain rfl : k = n := by omega
        go_wp2
        go_end0
        exact ⟨⟨_, rfl⟩, hO, hG⟩

/-- The sum of products. -/
def dot (p : Int) (a b : List Int) : Int := sg a.length (fun j => co a j * co b j) % p
theorem dot_bd {p : Int} (hp : 0 < p) (a b : List Int) : 0 ≤ dot p a b ∧ dot p a b < p := md _ _ hp

theorem inner_any (p : Int) (hp : OkP p) (A B : Option Addr) (ca cb n : Nat) (a b : List Int) (ha : El p a) (hb : El p b) (la : a.length = n) (lb : b.length = n) (hl : n ≤ 1000) (w : World) (sa : Sl w A ca a) (sb : Sl w B cb b) :
    Calls Try.prog 36 #[.int .u64 p, .slice A n ca, .slice B n cb] w fun e w' => e = .returned (.int .u64 (dot p a b)) ∧ w = w' := by
  have hbd := hp.bd
  have LA := Lib.hid la
  have LB := Lib.hid lb
  clear la lb
  go_enter Try.func36, Try.ntmps36
  go_wp2
  go_loop [7, 12] (fun s i => ∃ (k : Nat) (S : Int), k ≤ n ∧ i = .int .i64 k ∧ s = .int .u64 S ∧ 0 ≤ S ∧ S < p ∧ Hid (sg k (fun j => co a j * co b j) % p = S)) (fun _ i => n - (intOf i).toNat)
  case atStart => exact ⟨0, 0, Nat.zero_le _, rfl, rfl, by omega, by omega, Lib.hid (Int.zero_emod p)⟩
  case round =>
    obtain ⟨k, S, hk, rfl, rfl, hS0, hS, hE⟩ := hrel
    by_cases hlt : k < n
    · obtain ⟨ba, oa, x, hA, _, hx, hcx⟩ := sa.at_ (k := k) (by rw [LA.out]; exact hlt)
      obtain ⟨bb, ob, y, hB, _, hy, hcy⟩ := sb.at_ (k := k) (by rw [LB.out]; exact hlt)
      subst hA hB
      have hxb := ha x (List.mem_of_getElem? hx)
      have hyb := hb y (List.mem_of_getElem? hy)
      have hm := fmul_bd p x y (by omega)
      have hm2 := fadd_bd p S (fmul p x y) (by omega)
      have hN : Hid (sg (k + 1) (fun j => co a j * co b j) % p = fadd p S (fmul p x y)) := Lib.hid (by
        rw [sg_succ, ← hE.out, fadd_mod, co_at hx, co_at hy])
      have hkn : (k : Int) < n := by omega
      clear hx hy hE
      go_wp2_with (first | (go_at_call 31; refine (mul_any _ _ _ hp hxb.1 hxb.2 hyb.1 hyb.2 _).mono ?_; rintro e w' ⟨rfl, rfl⟩) | (go_at_call 53; refine (add_any _ _ _ hp hS0 hS hm.1 hm.2 _).mono ?_; rintro e w' ⟨rfl, rfl⟩))
      go_round
      case rel => exact ⟨k + 1, _, by omega, by simp, rfl, hm2.1, hm2.2, hN⟩
      case measure => simp [intOf]; omega
    · obtain rfl : k = n := by omega
      have hR : Hid (dot p a b = S) := Lib.hid (by unfold dot; rw [LA.out]; exact hE.out)
      go_wp2
      go_ret
      rw [hR.out]
      exact ⟨rfl, rfl⟩
end Go.Proofs.Ytgkhngiiimnchaa
