/-
  WALKS OF THE DOCUMENT's ANSWER: cognateref01.At where the first byte begins several (made by program: one text for two, three, four bytes).
-/
import Derived.Test.YtcibjgkifafohaaGreatDoorAt
namespace Go.Proofs.YtcibjgkifafohaaGreatDoor
open Go.RowKit Go.Lib
set_option linter.unusedVariables false

theorem Kind3.small {b L r0 least : Nat} (h : Kind3 b L r0 least) {s : ByteArray} {p j : Nat} (hj : j + 1 < L) (ht : tails s p j) : accR s p r0 j ≤ 33000 := by
  have e := accR_le s p r0 j ht
  have hr : (r0 ≤ 31 ∧ L = 2) ∨ (r0 ≤ 15 ∧ L = 3) ∨ (r0 ≤ 7 ∧ L = 4) := by unfold Kind3 at h; omega
  have e0 : accB r0 0 = r0 := rfl
  have e1 : accB r0 1 = 64 * r0 + 63 := rfl
  have e2 : accB r0 2 = 64 * (64 * r0 + 63) + 63 := rfl
  have hj3 : j = 0 ∨ j = 1 ∨ j = 2 := by omega
  rcases hj3 with hj3 | hj3 | hj3 <;> rw [hj3] at e ⊢ <;> omega
theorem tails_step {s : ByteArray} {p j : Nat} (h : tails s p j) (ht : tailB (s.get! (p + 1 + j)).toNat = true) : tails s p (j + 1) := fun i hi => by
  by_cases h2 : i < j
  · exact h i h2
  · obtain rfl : i = j := by omega
    exact ht
theorem tails_zero (s : ByteArray) (p : Nat) : tails s p 0 := fun i hi => by omega
theorem accR_zero (s : ByteArray) (p r0 : Nat) : accR s p r0 0 = r0 := rfl
theorem accR_succ (s : ByteArray) (p r0 k : Nat) : accR s p r0 (k + 1) = 64 * accR s p r0 k + ((s.get! (p + 1 + k)).toNat - 128) := rfl
theorem tail_of {s : ByteArray} {q : Nat} {v : Bool} (h : tailB (s.get! q).toNat = v) (i : Nat) (hi : i < s.size) (e : i = q) : tailB (s[i]'hi).toNat = v := by
  subst e; rw [← get_lt s i hi]; exact h
theorem byte_of {s : ByteArray} {q : Nat} (i : Nat) (hi : i < s.size) (e : i = q) : (s[i]'hi).toNat = (s.get! q).toNat := by
  subst e; rw [← get_lt s i hi]
theorem lead_conv (b : Nat) (c : Nat) (h : c ≤ b) : ((b : Int) - c) = ((b - c : Nat) : Int) := by omega


end Go.Proofs.YtcibjgkifafohaaGreatDoor
