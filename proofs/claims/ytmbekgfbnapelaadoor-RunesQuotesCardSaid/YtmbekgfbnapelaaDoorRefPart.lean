/-
  WALKS OF THE DOCUMENT's ANSWER: cognateref01.Part, Same.
-/
import Derived.Test.YtmbekgfbnapelaaDoorPart
import Derived.Lib.AppendStr
import Derived.StillTailTactics
import Derived.Laws.StructEq
import Derived.Deep.QuietTactic
import Derived.BigQuiet
namespace Go.Proofs.YtmbekgfbnapelaaDoor
open Go.RowKit Go.Lib
set_option linter.unusedVariables false

def cutL (s : ByteArray) (a b : Nat) : List UInt8 := (s.extract a b).data.toList
theorem strOf_cut (s : ByteArray) (a b : Nat) : strOf (cutL s a b) = s.extract a b := by
  unfold strOf cutL
  cases h : s.extract a b
  simp
theorem cutL_step (s : ByteArray) (a b c : Nat) (h1 : a ≤ b) (h2 : b ≤ c) : cutL s a b ++ cutL s b c = cutL s a c := by
  unfold cutL
  rw [← Array.toList_append, ← ByteArray.data_append, ByteArray.extract_append_extract]
  rw [Nat.min_eq_left h1, Nat.max_eq_right h2]
theorem cutL_length (s : ByteArray) (a b : Nat) (h : b ≤ s.size) : (cutL s a b).length = b - a := by
  unfold cutL
  rw [Array.length_toList]
  show (s.extract a b).size = _
  simp
  omega
theorem cutL_nil (s : ByteArray) (a : Nat) : cutL s a a = [] := by
  have := cutL_length s a (min a s.size) (Nat.min_le_right _ _)
  unfold cutL
  simp
theorem strCells_cut (s : ByteArray) (a b : Nat) : strCells (s.extract a b) = byteCells (cutL s a b) := rfl

def PartPost (s : ByteArray) (a b : Nat) (w : World) (e : Ending) (w' : World) : Prop := e = .returned (.tuple #[.string (s.extract (place s a) (place s b)), .int .i64 0]) ∧ Below w.heap.size w w'

/-! ### Same: two lists of pieces -/
end Go.Proofs.YtmbekgfbnapelaaDoor
