/- Grow of strings.Builder and writeWords of package codec: the builder that this call has made holds the encoding of the words behind what it held; nothing that lay below it is changed. Conditions: at most 10000000 bytes. -/
import Derived.Test.YtblfmbkkeieiaaaDoorCGrow
import Derived.Test.YtblfmbkkeieiaaaDoorCBytes
namespace Go.Proofs.YtblfmbkkeieiaaaDoor
open Go.RowKit Go.Shelf CodMath
attribute [local go_sem] Oper.semAt_some

theorem BKeeps.drew {B b : Nat} {x y : World} (h : BKeeps B b x y) : BKeeps B b x y.drew := ⟨h.1.drew, h.2.drew⟩

set_option maxHeartbeats 2000000 in
set_option maxRecDepth 1000000 in
theorem Grow_any (B b n : Nat) (l : List UInt8) (w : World) (h : Bld B b l w) (hBw : B ≤ w.heap.size) (hn : n ≤ 10000000) (hl : l.length ≤ 10000000) :
    Calls Tryd.prog 35 #[.pointer (some ⟨b, 0, none⟩), .int .i64 n] w fun e w' => e = .returned (.tuple #[]) ∧ BldU B b l w' ∧ BKeeps B b w w' := by
  have mixed : Tryd.prog.follows .mixedOrders = true := by kernel_rfl
  have hn0 : ¬ (n : Int) < 0 := by omega
  go_enter Tryd.func35, Tryd.ntmps35
  go_wp2_with (go_at_call 41; refine (copyCheck_any B b l _ h).mono ?_; rintro e w1 ⟨rfl, hU, hk1⟩; refine Hid.out ?_)
  refine Lib.hid ?_
  have hU' := hU
  obtain ⟨hB, v, hbk, hown, hne⟩ := hU
  rw [Lib.byteCells_length] at hown
  obtain ⟨A, cap, rfl, hlc, hcm, hsrc⟩ : ∃ A cap, v = .slice A l.length cap ∧ l.length ≤ cap ∧ cap ≤ 9223372036854775807 ∧ (l ≠ [] → ∃ g cur, A = some ⟨g, 0, none⟩ ∧ w1.heap[g]? = some (.cells cur 5 (0, 0)) ∧ cur.toList.take l.length = Lib.byteCells l) := by
    rcases hown.2 with ⟨hv, h0⟩ | ⟨g, cap, cur, hv, hBg, hg, hcap, hmax, hcs, htake⟩
    · exact ⟨none, 0, by rw [hv, h0], by omega, by omega, fun hn => absurd (List.eq_nil_of_length_eq_zero h0) hn⟩
    · exact ⟨_, cap, hv, hcap, hmax, fun _ => ⟨g, cur, rfl, hg, by rw [Nat.mul_one] at htake; exact htake⟩⟩
  have hsz := hk1.1.size
  have c1 : w1.drew.cell? ⟨b, 1, none⟩ = some (.slice A l.length cap) := by
    have : w1.drew.heap[b]? = _ := hbk
    rw [Lib.cell_of_heap this]; rfl
  have hSrc := Lib.hid hsrc
  have hBk := Lib.hid hbk
  clear hsrc hbk hown hne
  by_cases hlt : (cap : Int) - l.length < n
  · have hgr := grow_any B b n cap A l w1.drew hB (by show B ≤ w1.heap.size; omega) hn hl (by omega) hlc hBk.out hSrc.out
    go_wp2
    go_region_o
    all_goals
      go_wp2_with (go_at_call 42; refine hgr.mono ?_; rintro e w2 ⟨rfl, h2, k2⟩)
      go_end0
      exact ⟨rfl, h2, hk1.drew.trans k2⟩
  · have hge : (n : Int) ≤ cap - l.length := by omega
    go_wp2
    go_region_o
    all_goals
      go_wp2
      go_end0
      exact ⟨rfl, hU', hk1.drew⟩
theorem Grow_at (B b n : Nat) (i : Int) (hi : i = n) (l : List UInt8) (w : World) (h : Bld B b l w) (hBw : B ≤ w.heap.size) (hn : n ≤ 10000000) (hl : l.length ≤ 10000000) :
    Calls Tryd.prog 35 #[.pointer (some ⟨b, 0, none⟩), .int .i64 i] w fun e w' => e = .returned (.tuple #[]) ∧ BldU B b l w' ∧ BKeeps B b w w' := by
  subst hi
  exact Grow_any B b n l w h hBw hn hl

theorem Bld.alloc {B b : Nat} {l : List UInt8} {w : World} (h : Bld B b l w) (o : Obj) : Bld B b l (w.alloc o) := by
  have go : ∀ {p}, Lib.BuilderAt 48 5 B b p (Lib.byteCells l) w → Lib.BuilderAt 48 5 B b p (Lib.byteCells l) (w.alloc o) := fun ⟨hB, v, hbk, hown, hne⟩ =>
    ⟨hB, v, (Lib.alloc_old w o b (lt_of_block hbk)).trans hbk, hown.alloc o, hne⟩
  exact h.imp go go
theorem BKeeps.alloc {B b : Nat} {x y : World} (h : BKeeps B b x y) (hB : B ≤ x.heap.size) (o : Obj) : BKeeps B b x (y.alloc o) := ⟨h.1.alloc (Nat.le_trans hB h.1.size) o, h.2.alloc o⟩
/-- A box that is no byte row and not the builder stays. -/
theorem BKeeps.box {B b Bx : Nat} {x y : World} {t : TypeId} {v : Value} (h : BKeeps B b x y) (hb : Boxed x Bx t v) (hne : Bx ≠ b) (ht : t ≠ 5) : Boxed y Bx t v :=
  h.2 Bx _ hb (by simpa using hne) (by simpa using ht)

theorem BldU.turn {B b : Nat} {l : List UInt8} {W W' : World} {row : Option Nat} (h : BldU B b l W) (hg : W.grownBy W' row) (hr : ∀ r, row = some r → ∃ o : Obj, W.heap[r]? = some o ∧ o.isCells = false) : BldU B b l W' := by
  obtain ⟨hB, v, hbk, hown, hne⟩ := h
  have nocell : ∀ {k : Nat} {cs : Array Value} {t : TypeId} {fz : Nat × Nat}, W.heap[k]? = some (.cells cs t fz) → some k ≠ row := fun {k cs t fz} hk e => by
    obtain ⟨o, ho, hc⟩ := hr k e.symm
    rw [hk] at ho
    cases ho
    cases hc
  refine ⟨hB, v, (hg.block b (lt_of_block hbk) (nocell hbk)).trans hbk, hown.kept hg ?_, hne⟩
  cases e : v.ownBlock with
  | none => exact .inl rfl
  | some g =>
    obtain ⟨cur, fz, hh⟩ := own_tag hown g e
    exact .inr (nocell hh)
theorem BKeeps.turn {B b : Nat} {w W W' : World} {row : Option Nat} (h : BKeeps B b w W) (hB : B ≤ w.heap.size) (hg : W.grownBy W' row) (hr : ∀ r, row = some r → w.heap.size ≤ r) : BKeeps B b w W' := by
  have hs := h.1.size
  refine ⟨⟨hg.os.trans h.1.os, hg.tape.trans h.1.tape, hg.output.trans h.1.output, Nat.le_trans hs hg.size, fun k hk => ?_⟩, fun k o hk hne ho => ?_⟩
  · rw [hg.block k (by omega) (fun e => by have := hr k e.symm; omega)]
    exact h.1.block k hk
  · have hlt := lt_of_block hk
    rw [hg.block k (by omega) (fun e => by have := hr k e.symm; omega)]
    exact h.2 k o hk hne ho
/-- The mark of a loop over an iterator. -/
def mk (D : Nat) : Deferred := { target := .collected D, args := #[] }
def Marks (B0 : Nat) (Ds : List Nat) (W : World) : Prop := Ds.Nodup ∧ ∀ D ∈ Ds, B0 ≤ D ∧ W.heap[D]? = some (.deferred (some []))
theorem leaves_marks {n B0 : Nat} {fn : Func} {tmps : Array Value} {R : Ending → World → Prop} (hres : fn.results = #[]) {Pw : World → Prop} (hstep : ∀ W D, Pw W → B0 ≤ D → W.heap[D]? = some (.deferred (some [])) → Pw (W.putObj D (.deferred none)))
    (hend : ∀ W, Pw W → R (.returned (.tuple #[])) W) : ∀ (Ds : List Nat) (W : World), Marks B0 Ds W → Pw W → LeavesInM Fence.wide n Tryd.prog fn tmps R (Ds.map mk) .returning W
  | [], W, _, hP => ⟨_, results_none hres tmps _ W, hend W hP⟩
  | D :: Ds, W, ⟨hnd, hD⟩, hP => by
    have hK := hD D (by simp)
    refine ⟨by simp, .inl ⟨D, _, rfl, run_takeDeferred hK.2, leaves_marks hres hstep hend Ds _ ⟨(List.nodup_cons.1 hnd).2, fun D' hD' => ?_⟩ (hstep W D hP hK.1 hK.2)⟩⟩
    have h' := hD D' (by simp [hD'])
    exact ⟨h'.1, ((grownBy_putObj' W D (.deferred none)).block D' (lt_of_block h'.2) (fun e => by cases e; exact (List.nodup_cons.1 hnd).1 hD')).trans h'.2⟩
theorem Marks.keeps {B b B0 : Nat} {Ds : List Nat} {W W' : World} {l : List UInt8} (h : Marks B0 Ds W) (hk : BKeeps B b W W') (hb : BldU B b l W) : Marks B0 Ds W' := ⟨h.1, fun D hD => by
  have hD' := (h.2 D hD).2
  refine ⟨(h.2 D hD).1, hk.2 D _ hD' (fun e => ?_) (fun c fz => by simp)⟩
  obtain ⟨_, v, hbk, _⟩ := hb
  cases e
  rw [hbk] at hD'
  cases hD'⟩
theorem BKeeps.others {B b : Nat} {W W' : World} {l : List UInt8} (hk : BKeeps B b W W') (hb : BldU B b l W) : KeepsOthers W W' := by
  obtain ⟨_, v, hbk, _⟩ := hb
  refine ⟨hk.1.size, fun k o hk' ho => hk.2 k o hk' (fun e => ?_) (fun c fz e => by rw [e] at ho; cases ho)⟩
  cases e
  rw [hbk] at hk'
  cases hk'
  cases ho

set_option maxHeartbeats 2000000 in
set_option maxRecDepth 1000000 in
theorem writeWords_any (B b c : Nat) (A : Option Addr) (l : List UInt8) (xs : List Int) (w : World) (h : Bld B b l w) (hBw : B ≤ w.heap.size) (hw : Words xs) (hl : l.length + 8 * xs.length ≤ 5000000)
    (hrd : ∀ W', BKeeps B b w W' → Rd W'.heap.size W' A xs) :
    Calls Tryd.prog 28 #[.pointer (some ⟨b, 0, none⟩), .slice A xs.length c] w fun e w' => e = .returned (.tuple #[]) ∧ BldU B b (l ++ enc xs) w' ∧ Below B w w' := by
  have hb : b < w.heap.size := by rcases h with h | h <;> exact h.lt
  have hG := fun i hi => Grow_at B b (xs.length * 8) i hi l _ (h.alloc (.cells #[.pointer (some ⟨b, 0, none⟩)] 45)) (by simp; omega) (by omega) (by omega)
  refine (callsIn_wide (n := 3)).1 ?_
  refine callsIn_of_wp_marks Tryd.func28 rfl trivial ?_ rfl
  simp only [Tryd.ntmps28, List.size_toArray, List.length_cons, List.length_nil, Nat.reduceAdd, Nat.reduceSub, Array.replicate_succ, Array.replicate_zero, List.push_toArray, List.append_toArray, List.nil_append, List.cons_append]
  gi_wp2_with (refine ⟨trivial, ?_⟩; gi_at_call 35; refine (callsIn_wide.2 (hG _ (by omega))).mono ?_; rintro e w2 ⟨rfl, hU, hk⟩)
  have hw1 : BKeeps B b w (w.alloc (.cells #[.pointer (some ⟨b, 0, none⟩)] 45)) := (BKeeps.refl B b w).alloc hBw _
  have hbox := Boxed.new w 45 (.pointer (some ⟨b, 0, none⟩))
  have hw1s : w.heap.size < (w.alloc (.cells #[.pointer (some ⟨b, 0, none⟩)] 45)).heap.size := by simp
  generalize w.alloc (.cells #[.pointer (some ⟨b, 0, none⟩)] 45) = w1 at hk hw1 hbox hw1s
  clear hG h
  refine wpIn_loop (fun a' W => ∃ (j : Nat) (Ds : List Nat) (u5 u15 u16 u17 u18 u19 u24 : Value), (j ≤ xs.length ∧ BldU B b (l ++ enc (xs.take j)) W ∧ BKeeps B b w1 W ∧ Marks w.heap.size Ds W) ∧
    a' = { tmps := #[.pointer (some ⟨b, 0, none⟩), .slice A xs.length c, .pointer (some ⟨w.heap.size, 0, none⟩), undef, undef, u5, undef, .pointer (some ⟨b, 0, none⟩), .slice A xs.length c, .int .i64 xs.length, .int .i64 (xs.length * 8), .tuple #[], .slice A xs.length c, .int .i64 xs.length, .int .i64 j, u15, u16, u17, u18, u19, undef, undef, undef, undef, u24], defers := Ds.map mk })
    (fun a' _ => xs.length - (intOf (a'.tmps.getD 14 undef)).toNat) ?_ ?_
  · exact ⟨0, [], _, _, _, _, _, _, _, ⟨Nat.zero_le _, by simpa [enc] using hU, hk, List.nodup_nil, fun D hD => by cases hD⟩, rfl⟩
  · rintro _ W ⟨j, Ds, u5, u15, u16, u17, u18, u19, u24, ⟨hj, hbU, hkW, hmk⟩, rfl⟩
    have hr := hrd W (hw1.trans hkW)
    have hsz := hkW.1.size
    by_cases hlt : j < xs.length
    · obtain ⟨bk, off, x, rfl, _, hx, hcx⟩ := hr.at_ hlt
      have hxw := hw x (List.mem_of_getElem? hx)
      have hX := Lib.hid hx
      clear hx hr
      gi_wp2_with (refine ⟨trivial, ?_⟩; gi_at_call 36; refine (bytesOf_in _ x _).mono ?_; rintro e w' ⟨rfl, rfl⟩)
      have hWB : B ≤ W.heap.size := by omega
      have hbW : b < W.heap.size := by omega
      obtain ⟨W0, hW0⟩ : ∃ W0, W0 = W.alloc (.cells #[.int .u64 x] 40) := ⟨_, rfl⟩
      have hk0 : BKeeps B b W W0 := by rw [hW0]; exact (BKeeps.refl B b W).alloc hWB _
      have hbw : Boxed W0 W.heap.size 40 (.int .u64 x) := by rw [hW0]; exact Boxed.new W 40 _
      have hs0 : W0.heap.size = W.heap.size + 1 := by rw [hW0]; simp
      have hU0 : BldU B b (l ++ enc (xs.take j)) W0 := by
        obtain ⟨hB, v, hbk, hown, hne⟩ := hbU
        rw [hW0]
        exact ⟨hB, v, (Lib.alloc_old W _ b (lt_of_block hbk)).trans hbk, hown.alloc _, hne⟩
      have hm0 := hmk.keeps hk0 hbU
      have hlen : (l ++ enc (xs.take j)).length ≤ 5000000 := by rw [List.length_append, enc_length, List.length_take]; omega
      have hbx0 := (hkW.trans hk0).box hbox (by omega) (by decide)
      have hstep : Hid (l ++ enc (xs.take j) ++ wb x = l ++ enc (xs.take (j + 1))) := Lib.hid (by rw [List.take_add_one, hX.out, Option.toList_some, enc_append, enc, enc, List.append_nil, List.append_assoc])
      have hkk := hkW.trans hk0
      generalize l ++ enc (xs.take j) = L at hU0 hlen hstep
      rw [← hW0]
      clear hbU hkW hmk hW0 hk0 hcx
      refine wpIn_rangeFunc_ownG rfl (by omega) (gf := 43) (lb := #[.pointer (some ⟨W.heap.size, 0, none⟩)]) rfl trivial (enters_of Tryd.func43 (by kernel_rfl) rfl)
        (bytes_stops (3 - 1) (by omega) W.heap.size x hxw.1 _ hbw) (fun h k => h.trans k) (fun X i _ o' hi _ _ _ => KeepsW.book (by omega) X i o' hi) (Below.refl _ _) (fun _ => rfl)
        (fun pre X => BldU B b (L ++ pre) X ∧ BKeeps B b W0 X)
        (fun _ _ _ => False)
        (fun s X Y row hs hg hr => ⟨hs.1.turn hg (fun r e => (hr r e).2), hs.2.turn (by omega) hg (fun r e => (hr r e).1)⟩)
        (fun _ _ _ _ _ hs _ _ => hs)
        ⟨by rw [List.append_nil]; exact hU0, BKeeps.refl _ _ _⟩
        ?_ ?assign ?body ?done ?stop
      case assign =>
        intro i x W K hK
        gi_wp2
        exact hK
      case body =>
        rintro i pre cc X ⟨hbX, hkX⟩ hpl
        have hcb := (hkX.box hbx0 (by omega) (by decide)).cell
        have hsX := hkX.1.size
        gi_wp2_with (refine ⟨trivial, ?_⟩; gi_at_call 37; refine (CallsIn.inRound i (callsIn_wide.2 (writeByte_any B b (L ++ pre) cc _ (.inr hbX) (by rw [List.length_append]; omega) (by omega)))).mono ?_; rintro e X2 ⟨rfl, hb2, hk2⟩)
        exact ⟨(hk2.others hbX).from _, fun v hv => hk2.box hv (by omega) (by decide), by rw [← List.append_assoc]; exact hb2, hkX.trans hk2⟩
      case done =>
        rintro D ys X hD rfl ⟨hbX, hkX⟩ hK
        have hmX := hm0.keeps hkX hU0
        have hnD : D ∉ Ds := fun hm => by have := lt_of_block (hm0.2 D hm).2; omega
        gi_wp2
        refine ⟨⟨j + 1, D :: Ds, _, _, _, _, _, _, _, ⟨by omega, by rw [← hstep.out]; exact hbX, hkk.trans hkX, List.nodup_cons.2 ⟨hnD, hmX.1⟩, fun D' hD' => ?_⟩, rfl⟩, ?_⟩
        · rcases List.mem_cons.1 hD' with rfl | hD'
          · exact ⟨by omega, hK⟩
          · exact hmX.2 D' hD'
        · simp [intOf]; omega
      case stop =>
        rintro D c pre W _ _ h _
        exact h.elim
    · obtain rfl : j = xs.length := by omega
      gi_wp2
      refine leaves_marks rfl (Pw := fun X => BldU B b (l ++ enc xs) X ∧ Below B w X) (B0 := w.heap.size) (fun X D hX hB0 hD => ?_) (fun X hX => ⟨rfl, hX⟩) Ds W hmk ⟨by rw [List.take_of_length_le (Nat.le_refl _)] at hbU; exact hbU, (hw1.trans hkW).1⟩
      exact ⟨hX.1.turn (grownBy_putObj' X D _) (fun r e => by cases e; exact ⟨_, hD, rfl⟩), hX.2.trans (belowK_b (w := w) hBw X D _ _ hB0 hD rfl rfl)⟩
end Go.Proofs.YtblfmbkkeieiaaaDoor
