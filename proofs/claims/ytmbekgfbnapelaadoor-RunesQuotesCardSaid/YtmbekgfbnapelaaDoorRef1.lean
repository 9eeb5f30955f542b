/-
  WALKS OF SMALL FUNCTIONS OF THE DOCUMENT's ANSWER (cognateref01): tail, Rune.
-/
import Derived.Test.YtmbekgfbnapelaaDoorProg
import Derived.Test.YtmbekgfbnapelaaDoorUtf
import Derived.WalkKit
import Derived.WalkSpells
import Derived.WalkLawsBesides
import Derived.Lib.Hide
namespace Go.Proofs.YtmbekgfbnapelaaDoor
open Go.RowKit

theorem ret_b {a b : Bool} (h : a = b) : Ending.returned (.bool a) = .returned (.bool b) := by rw [h]
theorem ret_n {k : IntKind} {a b : Int} (h : a = b) : Ending.returned (.int k a) = .returned (.int k b) := by rw [h]

def tailB (b : Nat) : Bool := decide (128 ≤ b ∧ b < 192)
def runeB (r : Int) : Bool := decide (0 ≤ r ∧ r ≤ 1114111 ∧ (r < 55296 ∨ 57343 < r))

set_option maxHeartbeats 400000 in
theorem tail_any (b : Nat) (w : World) : Calls Tryd.prog 92 #[.int .u8 b] w fun e w' => e = .returned (.bool (tailB b)) ∧ w = w' := by
  by_cases h1 : 128 ≤ b
  · by_cases h2 : b < 192
    · have e : tailB b = true := by simp [tailB, h1, h2]
      have H := Lib.hid e; clear e
      go_enter Tryd.func92, Tryd.ntmps92
      go_wp2
      go_ret
      exact ⟨ret_b (by rw [H.out]; exact decide_eq_true (by omega)), rfl⟩
    · have e : tailB b = false := by simp [tailB, h2]
      have H := Lib.hid e; clear e
      go_enter Tryd.func92, Tryd.ntmps92
      go_wp2
      go_ret
      exact ⟨ret_b (by rw [H.out]; exact decide_eq_false (by omega)), rfl⟩
  · have e : tailB b = false := by simp [tailB, h1]
    have H := Lib.hid e; clear e
    go_enter Tryd.func92, Tryd.ntmps92
    go_wp2
    go_ret
    exact ⟨ret_b H.out.symm, rfl⟩

set_option maxHeartbeats 400000 in
theorem rune_any (r : Int) (w : World) : Calls Tryd.prog 49 #[.int .i32 r] w fun e w' => e = .returned (.bool (runeB r)) ∧ w = w' := by
  by_cases h1 : 0 ≤ r
  · by_cases h2 : r ≤ 1114111
    · by_cases h3 : r < 55296
      · have e : runeB r = true := by simp [runeB, h1, h2, h3]
        have H := Lib.hid e; clear e
        go_enter Tryd.func49, Tryd.ntmps49
        go_wp2
        go_ret
        exact ⟨ret_b H.out.symm, rfl⟩
      · by_cases h4 : 57343 < r
        · have e : runeB r = true := by simp [runeB, h1, h2, h4]
          have H := Lib.hid e; clear e
          go_enter Tryd.func49, Tryd.ntmps49
          go_wp2
          go_ret
          exact ⟨ret_b H.out.symm, rfl⟩
        · have e : runeB r = false := by simp [runeB, h3, h4]
          have H := Lib.hid e; clear e
          go_enter Tryd.func49, Tryd.ntmps49
          go_wp2
          go_ret
          exact ⟨ret_b H.out.symm, rfl⟩
    · have e : runeB r = false := by simp [runeB, h2]
      have H := Lib.hid e; clear e
      go_enter Tryd.func49, Tryd.ntmps49
      go_wp2
      go_ret
      exact ⟨ret_b H.out.symm, rfl⟩
  · have e : runeB r = false := by simp [runeB, h1]
    have H := Lib.hid e; clear e
    go_enter Tryd.func49, Tryd.ntmps49
    go_wp2
    go_ret
    exact ⟨ret_b H.out.symm, rfl⟩

/-- A piece as a value. -/
def pieceV (s : ByteArray) (p : Nat) : Value := .agg #[.int .i32 (dR s p), .int .i64 p, .int .i64 (dW s p), .bool (brk s p)]

theorem rkA_brk (a : Nat) (s : ByteArray) (p : Nat) (h : brk s p = true) : rkA a s p = a + (s.get! p).toNat := by simp [rkA, h]
theorem rkA_not (a : Nat) (s : ByteArray) (p : Nat) (h : brk s p = false) : rkA a s p = dR s p := by simp [rkA, h]

end Go.Proofs.YtmbekgfbnapelaaDoor
