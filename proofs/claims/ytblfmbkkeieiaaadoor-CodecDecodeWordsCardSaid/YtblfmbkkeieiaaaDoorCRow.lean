/- A start in which the listed variables lie as their initialisers lay them, for the witness of each row of layer 3. No conditions. -/
import Derived.Test.YtblfmbkkeieiaaaDoorCOpen
import Derived.Deep.DeepWitnessRowRef
import Derived.Deep.DeepHandedRow
import Derived.LaidLaws
namespace Go.Proofs.YtblfmbkkeieiaaaDoor
open Go.ChangeShapes Go.WideShapes Go.ChangeAt Go.RowKit CodMath

def rngS : ByteArray := { data := #[118, 97, 108, 117, 101, 32, 111, 117, 116, 32, 111, 102, 32, 114, 97, 110, 103, 101] }
def synS : ByteArray := { data := #[105, 110, 118, 97, 108, 105, 100, 32, 115, 121, 110, 116, 97, 120] }
/-- So many blocks has the settled world. -/
noncomputable def low : Nat := (World.holding Tryd.prog default ⟨#[], #[], []⟩).heap.size
/-- The cells of a table as a row lists it. -/
def cellsOf : DataW Unit → Array Value
  | .agg ds => (ds.map fun d => match d with | .lit (.int k n) => Value.int k n | _ => undef).toArray
  | _ => #[]
/-- The settled world with two blocks more, each an errors.errorString; the two errors hold pointers to them, the three tables their numbers. -/
noncomputable def laidWorld (os : Os) : World :=
  let w0 := World.holding Tryd.prog os ⟨#[.cells #[.string rngS] 96, .cells #[.string synS] 96], #[], []⟩
  let put := fun (cs : Array Value) (o : Obj) => match o with
    | .cells _ t frozen => .cells cs t frozen
    | o => o
  { w0 with heap := ((((w0.heap.modify 2 (put #[.iface 94 (.pointer (some ⟨low, 0, none⟩))])).modify 1 (put #[.iface 94 (.pointer (some ⟨low + 1, 0, none⟩))])).modify 0 (put (cellsOf Rows.laid_internal_strconv_uint64pow10))).modify 4 (put (cellsOf Rows.laid_math_bits_deBruijn32tab))).modify 5 (put (cellsOf Rows.laid_math_bits_deBruijn64tab)) }
theorem laid_met (os : Os) (args : Array Value) : laidMet Tryd.prog Rows.codecEncodeWordsRow.laid ((laidWorld os).forCall (fun _ _ => 0) ⟨#[], args, []⟩).memory :=
  laidMet_of_run' 8 (by kernel_rfl) (by kernel_rfl)

/-! ### What the laws share -/
theorem same_is (A A' : Option Addr) (xs : List Int) (c c' : Nat) (w : World) (h : Rd w.heap.size w A xs) (h' : Rd w.heap.size w A' xs) (hl : xs.length ≤ 1000000) :
    Calls Tryd.prog 16 #[.slice A xs.length c, .slice A' xs.length c'] w fun e w' => e = .returned (.bool true) ∧ Below w.heap.size w w' := by
  have := same_any A A' xs xs c c' w h h' hl
  rwa [decide_eq_true rfl] at this
theorem sameLists_is (A A' : Option Addr) (xs : List (List Int)) (c c' : Nat) (w : World) (h : RdL w.heap.size w A xs) (h' : RdL w.heap.size w A' xs) (hl : xs.length ≤ 1000000) (hll : ∀ l ∈ xs, l.length ≤ 1000000) :
    Calls Tryd.prog 22 #[.slice A xs.length c, .slice A' xs.length c'] w fun e w' => e = .returned (.bool true) ∧ Below w.heap.size w w' := by
  have := sameLists_any A A' xs xs c c' w h h' hl hll
  rwa [decide_eq_true rfl] at this
theorem mem_rows {ls : List (List Int)} {l : List Int} (hl : l ∈ ls) : ∀ x ∈ (l.length : Int) :: l, x ∈ rows ls := by
  induction ls with
  | nil => cases hl
  | cons a r ih =>
    intro x hx
    simp only [rows, List.mem_cons, List.mem_append] at hx ⊢
    rcases List.mem_cons.1 hl with rfl | hl
    · rcases hx with rfl | hx
      · exact .inl rfl
      · exact .inr (.inl hx)
    · exact .inr (.inr (ih hl x (List.mem_cons.2 hx)))
theorem len_rows {ls : List (List Int)} {l : List Int} (hl : l ∈ ls) : l.length ≤ (rows ls).length := by
  induction ls with
  | nil => cases hl
  | cons a r ih =>
    simp only [rows, List.length_cons, List.length_append]
    rcases List.mem_cons.1 hl with rfl | hl
    · omega
    · have := ih hl; omega
theorem wordsL_of {ls : List (List Int)} {m : Nat} (hw : ∀ l ∈ ls, Words l) (hr : (rows ls).length ≤ m) (hm : m ≤ 1000000) : WordsL ls ∧ ls.length ≤ m ∧ ∀ l ∈ ls, l.length ≤ m := by
  have h1 : ls.length ≤ (rows ls).length := by rw [rows_len]; omega
  exact ⟨⟨by omega, fun l hl => ⟨by have := len_rows hl; omega, hw l hl⟩⟩, by omega, fun l hl => by have := len_rows hl; omega⟩
theorem decL_parts {l : List UInt8} {ls : List (List Int)} (h : decL l = some ls) : encL ls = l ∧ (∀ r ∈ ls, Words r) ∧ 8 * ((rows ls).length + 1) = l.length := by
  have he := encL_decL h
  unfold decL at h
  split at h
  · rename_i h8
    have hf := parW_some (dec_words h8) h
    have hw := dec_words h8
    rw [hf] at hw
    refine ⟨he, fun r hr x hx => hw x (List.mem_cons.2 (.inr (mem_rows hr x (by simp [hx])))), ?_⟩
    rw [← he, encL, enc_length, flat, List.length_cons]
  · cases h
theorem str_of (s : ByteArray) : (⟨s.data.toList.toArray⟩ : ByteArray) = s := by cases s; rfl
theorem str_ne {s t : ByteArray} (h : s ≠ t) : (s.toList == t.toList) = false := by
  rw [ByteArray.toList_eq, ByteArray.toList_eq]
  refine beq_false_of_ne fun e => h ?_
  rw [← str_of s, e, str_of t]
end Go.Proofs.YtblfmbkkeieiaaaDoor
