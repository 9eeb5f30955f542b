/-
  WALKS OF SMALL FUNCTIONS OF THE DOCUMENT's ANSWER (cognateref01): tail, Rune.
-/
import Derived.Test.YtcibjgkifafohaaGreatDoorProg
import Derived.Test.YtcibjgkifafohaaGreatDoorUtf
import Derived.WalkKit
import Derived.WalkSpells
import Derived.WalkLawsBesides
import Derived.Lib.Hide
namespace Go.Proofs.YtcibjgkifafohaaGreatDoor
open Go.RowKit

theorem ret_b {a b : Bool} (h : a = b) : Ending.returned (.bool a) = .returned (.bool b) := by rw [h]
theorem ret_n {k : IntKind} {a b : Int} (h : a = b) : Ending.returned (.int k a) = .returned (.int k b) := by rw [h]

def tailB (b : Nat) : Bool := decide (128 ≤ b ∧ b < 192)
def runeB (r : Int) : Bool := decide (0 ≤ r ∧ r ≤ 1114111 ∧ (r < 55296 ∨ 57343 < r))

/-- A piece as a value. -/
def pieceV (s : ByteArray) (p : Nat) : Value := .agg #[.int .i32 (dR s p), .int .i64 p, .int .i64 (dW s p), .bool (brk s p)]

theorem rkA_brk (a : Nat) (s : ByteArray) (p : Nat) (h : brk s p = true) : rkA a s p = a + (s.get! p).toNat := by simp [rkA, h]
theorem rkA_not (a : Nat) (s : ByteArray) (p : Nat) (h : brk s p = false) : rkA a s p = dR s p := by simp [rkA, h]

end Go.Proofs.YtcibjgkifafohaaGreatDoor
