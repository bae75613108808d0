/- Decode of the reference of layer 8: it hands back what the definitions say; nothing that lay is changed. Conditions: a supported prime, points over its field, at most fifty. -/
import Derived.Test.YtelkmbhhaopafaaVFind
import Derived.Test.YtelkmbhhaopafaaMG
namespace Go.Proofs.Ytelkmbhhaopafaa
set_option maxRecDepth 100000
open Go.RowKit PolyMath FieldMath MatMath

set_option maxHeartbeats 4000000 in
theorem rDecode_any (p : Int) (hp : OkP p) (B : Option Addr) (cb : Nat) (ps : List (Int × Int)) (hx : El p (px ps)) (hy : El p (py ps)) (deg wr : Int) (hl : ps.length ≤ 50) (w : World) (sp : Pt w B cb ps) :
    Calls Try.prog 12 #[.int .u64 p, .slice B ps.length cb, .int .i64 deg, .int .i64 wr] w fun e w' => DecE p ps deg wr w e w' := by
  have hbd := hp.bd
  have hmay := may_any B cb ps (by omega) deg wr w sp
  by_cases hV : Valid ps deg wr
  · rw [decide_eq_true hV] at hmay
    obtain ⟨⟨h1, h2, h3⟩, hn⟩ := hV
    obtain ⟨dn, rfl⟩ : ∃ dn : Nat, deg = dn := ⟨deg.toNat, by omega⟩
    obtain ⟨wn, rfl⟩ : ∃ wn : Nat, wr = wn := ⟨wr.toNat, by omega⟩
    have hlen : dn + 1 + 2 * wn ≤ ps.length := by omega
    have HV : Hid (Valid ps dn wn) := Lib.hid ⟨⟨h1, h2, h3⟩, hn⟩
    have hL : Left p ps [] 0 (dn + 1) := ⟨by simpa using hn, El.nil p, El.nil p, by simp; omega⟩
    have hfi := fun W h => find_any p hp B cb ps hx hy hl wn (by omega) (dn + 1) none 0 [] 0 hL (Nat.zero_le _) (fun _ => rfl) W h (Pt.nothing W)
    have hd1 : ((dn + 1 : Nat) : Int) = (dn : Int) + 1 := by omega
    rw [hd1] at hfi
    have wd : IntKind.i64.wrap ((dn : Int) + 1) = (dn : Int) + 1 := IntWalk.i64_in _ (by omega)
    have hsome : Hid (∀ f, srch p ps wn (dn + 1) [] 0 = some f → Dec p ps dn wn f) := Lib.hid fun f hf => srch_dec hp.good hn hx hy hf
    have hnone : Hid (srch p ps wn (dn + 1) [] 0 = none → ∀ f, ¬ Dec p ps dn wn f) := Lib.hid fun hf f => srch_no hp.good hn hx hy (by omega) hf f
    have HLEN := Lib.hid hlen
    generalize srch p ps wn (dn + 1) [] 0 = o at *
    clear h1 h2 h3 hn hlen hd1 hL
    go_enter Try.func12, Try.ntmps12
    go_wp2_with fail
    refine hmay.mono ?_
    rintro e w1 ⟨rfl, m, rfl⟩
    have hb1 := below_drewN (Below.refl w.heap.size w) m
    obtain ⟨w1, hw1⟩ : ∃ w1, w1 = w.drewN m := ⟨_, rfl⟩
    rw [← hw1] at hb1 ⊢
    clear hw1 hmay
    have sp1 := sp.next hb1
    go_wp2_with fail
    refine (hfi w1 sp1).mono ?_
    clear hfi
    rintro e w2 ⟨v2, b2, rfl, hF, hb2⟩
    have hB2 := hb1.trans (hb2.mono hb1.size)
    rcases hF with ⟨rfl, f, A, c, ho, rfl, hs⟩ | ⟨rfl, ho⟩
    · have hD := hsome.out f ho
      have her := rErrp_row p hp A B c cb f hD.el (by have := hD.le; have := HLEN.out; omega) ps hx (by omega) w2 hs (sp.next hB2)
      have HD := Lib.hid hD
      clear hsome hnone ho hD
      go_wp2_with fail
      refine her.mono ?_
      rintro e w3 ⟨A3, c3, rfl, hs3, hb3⟩
      have hB3 := hB2.trans (hb3.mono hB2.size)
      have HS := Lib.hid (hs.next hb3)
      have HS3 := Lib.hid hs3
      clear hs hs3 her
      go_wp2
      go_ret3
      exact .inr (.inr ⟨HV.out, f, A, c, A3, c3, by simpa using HD.out, rfl, HS.out, HS3.out, hB3⟩)
    · have hno := Lib.hid (hnone.out ho)
      clear hsome hnone ho
      go_wp2
      go_ret3
      exact .inr (.inl ⟨HV.out, by simpa using hno.out, rfl, hB2⟩)
  · rw [decide_eq_false hV] at hmay
    have HV := Lib.hid hV
    clear hV
    go_enter Try.func12, Try.ntmps12
    go_wp2_with fail
    refine hmay.mono ?_
    rintro e w1 ⟨rfl, m, rfl⟩
    have hb1 := below_drewN (Below.refl w.heap.size w) m
    go_wp2
    go_ret3
    exact .inl ⟨HV.out, rfl, hb1⟩

end Go.Proofs.Ytelkmbhhaopafaa
