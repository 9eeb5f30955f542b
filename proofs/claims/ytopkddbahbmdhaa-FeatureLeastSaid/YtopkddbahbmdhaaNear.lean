/-
  WALKS: cognatelaw02.signs.
-/
import Derived.Test.YtopkddbahbmdhaaFar
namespace Go.Proofs.Ytopkddbahbmdhaa
open Go.RowKit Go.Lib
set_option linter.unusedVariables false
theorem pop_snoc (k D : Nat) : popAux (k + 1) D = popAux k D + D / 2 ^ k % 2 := by
  rw [popAux_add k 1, popAux, popAux, Nat.add_zero]
theorem bit_of (n k : Nat) : n / 2 ^ k % 2 = (n.testBit k).toNat := by
  rw [Nat.testBit_eq_decide_div_mod_eq]
  have : n / 2 ^ k % 2 < 2 := Nat.mod_lt _ (by decide)
  by_cases h : n / 2 ^ k % 2 = 1
  · simp [h]
  · have : n / 2 ^ k % 2 = 0 := by omega
    simp [this]
theorem sbit (n k : Nat) (h : n < 4294967296) : bits .and .u32 ((n : Int) / 2 ^ k) 1 = ((n / 2 ^ k % 2 : Nat) : Int) := by
  have e := u32_and_nat (n / 2 ^ k) 1 (Nat.lt_of_le_of_lt (Nat.div_le_self _ _) h) (by omega)
  rw [Nat.and_one_is_mod] at e
  rw [← e]
  congr 1
/-- How many of the first k bits are unlike. -/
def sgn (x : Ltr) (p m k : Nat) : Nat := popAux k ((x.p ^^^ p) ||| (x.m ^^^ m))
theorem sgn_snoc (x : Ltr) (p m k : Nat) : sgn x p m (k + 1) = sgn x p m k + (if x.p / 2 ^ k % 2 = p / 2 ^ k % 2 ∧ x.m / 2 ^ k % 2 = m / 2 ^ k % 2 then 0 else 1) := by
  unfold sgn
  rw [pop_snoc, bit_of, bit_of, bit_of, bit_of, bit_of, Nat.testBit_or, Nat.testBit_xor, Nat.testBit_xor]
  cases x.p.testBit k <;> cases p.testBit k <;> cases x.m.testBit k <;> cases m.testBit k <;> rfl

set_option maxHeartbeats 1000000 in
set_option maxRecDepth 100000 in
theorem signs_any (x : Ltr) (p m : Nat) (w : World) (hx : LtrOk x) (hp : p < 4294967296) (hm : m < 4294967296) :
    Calls Try.prog 35 #[.agg #[.int .i32 x.r, .int .u32 x.p, .int .u32 x.m], .int .u32 p, .int .u32 m] w fun e w' => e = .returned (.int .i64 (sgn x p m 24)) ∧ Below w.heap.size w w' := by
  have hsn := sgn_snoc x p m
  obtain ⟨C, hC⟩ : ∃ C : Nat → Nat, ∀ k, C k = sgn x p m k := ⟨fun k => sgn x p m k, fun _ => rfl⟩
  have hC0 : C 0 = 0 := by rw [hC]; rfl
  have hCle : ∀ k, C k ≤ k := fun k => by rw [hC]; exact popAux_le k _
  simp only [← hC] at hsn ⊢
  obtain ⟨r, xp, xm⟩ := x
  obtain ⟨hx1, hx2⟩ := hx
  simp only [] at hsn hx1 hx2 ⊢
  have HSN := Lib.hid hsn
  have HC0 := Lib.hid hC0
  have HCL := Lib.hid hCle
  clear hsn hC hC0 hCle
  go_enter Try.func35, Try.ntmps35
  go_wp2_with fail
  go_loopw [7, 8] (fun n i wr => ∃ k : Nat, n = .int .i64 (C k) ∧ i = .int .i64 k ∧ k ≤ 24 ∧ wr = w.alloc (.cells #[.int .i32 r, .int .u32 xp, .int .u32 xm] 35)) (fun _ i _ => 24 - (intOf i).toNat)
  case atStart => exact ⟨0, by rw [HC0.out] <;> rfl, rfl, by omega, rfl⟩
  case round =>
    obtain ⟨k, rfl, rfl, hk, rfl⟩ := hrel
    by_cases hkn : k < 24
    · have hst := HSN.out k
      have hcl := HCL.out k
      have e1 := sbit xp k hx1
      have e2 := sbit p k hp
      have e3 := sbit xm k hx2
      have e4 := sbit m k hm
      obtain ⟨a1, h1⟩ : ∃ a, a = xp / 2 ^ k % 2 := ⟨_, rfl⟩
      obtain ⟨a2, h2⟩ : ∃ a, a = p / 2 ^ k % 2 := ⟨_, rfl⟩
      obtain ⟨a3, h3⟩ : ∃ a, a = xm / 2 ^ k % 2 := ⟨_, rfl⟩
      obtain ⟨a4, h4⟩ : ∃ a, a = m / 2 ^ k % 2 := ⟨_, rfl⟩
      rw [← h1, ← h2, ← h3, ← h4] at hst
      rw [← h1] at e1
      rw [← h2] at e2
      rw [← h3] at e3
      rw [← h4] at e4
      clear h1 h2 h3 h4
      by_cases g1 : a1 = a2
      · by_cases g2 : a3 = a4
        · subst g1 g2
          have hst2 : C (k + 1) = C k := by rw [hst, if_pos ⟨rfl, rfl⟩, Nat.add_zero]
          have HST := Lib.hid hst2
          have i1 : ((a1 : Int) == (a1 : Int)) = true := by simp
          have i2 : ((a3 : Int) == (a3 : Int)) = true := by simp
          clear hst hst2
          go_wp2_with fail
          go_roundw
          case rel => exact ⟨k + 1, by rw [HST.out], by go_num, by omega, trivial⟩
          case measure => simp [intOf]; omega
        · subst g1
          have hst2 : C (k + 1) = C k + 1 := by rw [hst, if_neg (fun h => g2 h.2)]
          have HST := Lib.hid hst2
          have i1 : ((a1 : Int) == (a1 : Int)) = true := by simp
          have i2 : ((a3 : Int) == (a4 : Int)) = false := by simp; omega
          clear hst hst2 g2
          go_wp2_with fail
          go_roundw
          case rel => exact ⟨k + 1, by rw [HST.out]; go_num, by go_num, by omega, trivial⟩
          case measure => simp [intOf]; omega
      · have hst2 : C (k + 1) = C k + 1 := by rw [hst, if_neg (fun h => g1 h.1)]
        have HST := Lib.hid hst2
        have i1 : ((a1 : Int) == (a2 : Int)) = false := by simp; omega
        clear hst hst2 g1
        go_wp2_with fail
        go_roundw
        case rel => exact ⟨k + 1, by rw [HST.out]; go_num, by go_num, by omega, trivial⟩
        case measure => simp [intOf]; omega
    · obtain rfl : k = 24 := by omega
      go_wp2_with fail
      go_ret
      exact ⟨rfl, (Below.refl _ _).alloc (Nat.le_refl _) _⟩
end Go.Proofs.Ytopkddbahbmdhaa
