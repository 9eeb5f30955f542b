/-
  WALKS: cognatelaw02.signs.
-/
import Derived.Test.YtmbekgfbnapelaaFar
namespace Go.Proofs.Ytmbekgfbnapelaa
open Go.RowKit Go.Lib
set_option linter.unusedVariables false
theorem pop_snoc (k D : Nat) : popAux (k + 1) D = popAux k D + D / 2 ^ k % 2 := by
  rw [popAux_add k 1, popAux, popAux, Nat.add_zero]
theorem bit_of (n k : Nat) : n / 2 ^ k % 2 = (n.testBit k).toNat := by
  rw [Nat.testBit_eq_decide_div_mod_eq]
  have : n / 2 ^ k % 2 < 2 := Nat.mod_lt _ (by decide)
  by_cases h : n / 2 ^ k % 2 = 1
  · simp [h]
  · have : n / 2 ^ k % 2 = 0 := by omega
    simp [this]
theorem sbit (n k : Nat) (h : n < 4294967296) : bits .and .u32 ((n : Int) / 2 ^ k) 1 = ((n / 2 ^ k % 2 : Nat) : Int) := by
  have e := u32_and_nat (n / 2 ^ k) 1 (Nat.lt_of_le_of_lt (Nat.div_le_self _ _) h) (by omega)
  rw [Nat.and_one_is_mod] at e
  rw [← e]
  congr 1
/-- How many of the first k bits are unlike. -/
def sgn (x : Ltr) (p m k : Nat) : Nat := popAux k ((x.p ^^^ p) ||| (x.m ^^^ m))
theorem sgn_snoc (x : Ltr) (p m k : Nat) : sgn x p m (k + 1) = sgn x p m k + (if x.p / 2 ^ k % 2 = p / 2 ^ k % 2 ∧ x.m / 2 ^ k % 2 = m / 2 ^ k % 2 then 0 else 1) := by
  unfold sgn
  rw [pop_snoc, bit_of, bit_of, bit_of, bit_of, bit_of, Nat.testBit_or, Nat.testBit_xor, Nat.testBit_xor]
  cases x.p.testBit k <;> cases p.testBit k <;> cases x.m.testBit k <;> cases m.testBit k <;> rfl

end Go.Proofs.Ytmbekgfbnapelaa
