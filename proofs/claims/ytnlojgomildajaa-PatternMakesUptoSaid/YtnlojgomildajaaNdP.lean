/-
  WALKS: pattern.isNode; nodes that lie in the world.
-/
import Derived.Test.YtnlojgomildajaaTrP
import Derived.Test.YtnlojgomildajaaBas
namespace Go.Proofs.Ytnlojgomildajaa
open Go.RowKit Go.Lib
set_option linter.unusedVariables false

def ndB (k : Nat) (r : Int) (p m n : Nat) : Bool :=
  (r == 0 || k == 2) && ((p == 0 && m == 0) || k == 3) &&
  (if k = 6 ∨ k = 7 then true else if k = 8 ∨ k = 9 then n == 1 else if 1 ≤ k ∧ k ≤ 5 then n == 0 else false)
theorem nodeB_eq (n : Nd) : nodeB n = ndB n.k n.r n.p n.m n.ks.length := rfl
def ndV (k : Nat) (r : Int) (p m : Nat) (pk : Option Addr) (n c : Nat) : Value := .agg #[.int .u8 k, .int .i32 r, .int .u32 p, .int .u32 m, .slice pk n c]
def ndC (k : Nat) (r : Int) (p m : Nat) (pk : Option Addr) (n c : Nat) : Array Value := #[.int .u8 k, .int .i32 r, .int .u32 p, .int .u32 m, .slice pk n c]
theorem nb0 (n : Nat) : ((n : Int) == 0) = (n == 0) := by
  rw [Bool.eq_iff_iff, beq_iff_eq, beq_iff_eq]; omega
theorem nb1 (n : Nat) : ((n : Int) == 1) = (n == 1) := by
  rw [Bool.eq_iff_iff, beq_iff_eq, beq_iff_eq]; omega
set_option maxHeartbeats 2000000 in
set_option maxRecDepth 100000 in
theorem isNode_any (k : Nat) (r : Int) (p m : Nat) (pk : Option Addr) (n c : Nat) (w : World) (hp : p < 4294967296) (hm : m < 4294967296) :
    Calls Try.prog 42 #[.agg #[.int .u8 k, .int .i32 r, .int .u32 p, .int .u32 m, .slice pk n c]] w fun e w' => e = .returned (.bool (ndB k r p m n)) ∧ Below w.heap.size w w' := by
  have hor := u32_or_nat p m hp hm
  obtain ⟨o, ho⟩ : ∃ o, o = p ||| m := ⟨_, rfl⟩
  rw [← ho] at hor
  obtain ⟨B, hB⟩ : ∃ B, B = ndB k r p m n := ⟨_, rfl⟩
  rw [← hB]
  have hB1 : ¬ r = 0 → ¬ k = 2 → B = false := fun h1 h2 => by rw [hB]; simp [ndB, h1, h2]
  have hB2 : ¬ o = 0 → ¬ k = 3 → B = false := fun h1 h2 => by
    rw [hB]
    have e : ((p == 0 && m == 0) || k == 3) = false := by
      have : ¬ (p = 0 ∧ m = 0) := fun h => h1 (by rw [ho, h.1, h.2]; rfl)
      simp [h2]
      intro h3 h4
      exact this ⟨h3, h4⟩
    unfold ndB
    rw [e]
    simp
  have hB3 : (r = 0 ∨ k = 2) → (o = 0 ∨ k = 3) → B = (if k = 6 ∨ k = 7 then true else if k = 8 ∨ k = 9 then n == 1 else if 1 ≤ k ∧ k ≤ 5 then n == 0 else false) := fun h1 h2 => by
    rw [hB]
    have e1 : (r == 0 || k == 2) = true := by simpa using h1
    have e2 : ((p == 0 && m == 0) || k == 3) = true := by
      rcases h2 with h2 | h2
      · rw [ho, Nat.or_eq_zero_iff] at h2
        simp [h2.1, h2.2]
      · simp [h2]
    unfold ndB
    rw [e1, e2]
    rfl
  have HBB := Lib.hid (show Below w.heap.size w (w.alloc (.cells #[.int .u8 k, .int .i32 r, .int .u32 p, .int .u32 m, .slice pk n c] 42)) from (Below.refl _ _).alloc (Nat.le_refl _) _)
  clear hB ho
  have fin : ∀ (b : Bool), b = B → Ending.returned (.bool b) = Ending.returned (.bool B) := fun b h => by rw [h]
  have FIN := Lib.hid fin
  clear fin
  by_cases h1 : ¬ r = 0 ∧ ¬ k = 2
  · rw [hB1 h1.1 h1.2]
    obtain ⟨a1, a2⟩ := h1
    clear hB1 hB2 hB3 FIN
    go_enter Try.func42, Try.ntmps42
    go_wp2_with fail
    go_ret
    exact ⟨rfl, HBB.out⟩
  have h1' : r = 0 ∨ k = 2 := by omega
  by_cases h2 : ¬ o = 0 ∧ ¬ k = 3
  · rw [hB2 h2.1 h2.2]
    obtain ⟨a1, a2⟩ := h2
    have a3 : ¬ (o : Int) = 0 := by omega
    have a4 : ((o : Int) != 0) = true := by simpa using a1
    have a5 : ¬ (k : Int) = 3 := by omega
    have a6 : ((k : Int) != 3) = true := by simpa using a5
    clear hB1 hB2 hB3 FIN h1
    by_cases h3 : r = 0
    · subst h3
      clear h1'
      go_enter Try.func42, Try.ntmps42
      go_wp2_with fail
      go_ret
      exact ⟨rfl, HBB.out⟩
    · obtain rfl : k = 2 := h1'.resolve_left h3
      clear h1'
      go_enter Try.func42, Try.ntmps42
      go_wp2_with fail
      go_ret
      exact ⟨rfl, HBB.out⟩
  have h2' : o = 0 ∨ k = 3 := by omega
  have hBv := hB3 h1' h2'
  clear hB1 hB2 hB3 h1 h2
  by_cases hk : k = 1 ∨ k = 2 ∨ k = 3 ∨ k = 4 ∨ k = 5 ∨ k = 6 ∨ k = 7 ∨ k = 8 ∨ k = 9
  · by_cases hr : r = 0
    all_goals by_cases ho : o = 0
    all_goals rcases hk with rfl | rfl | rfl | rfl | rfl | rfl | rfl | rfl | rfl
    all_goals first | (exfalso; omega) | skip
    all_goals (simp at hBv; rw [hBv])
    all_goals clear h1' h2' hBv FIN
    all_goals (try subst hr)
    all_goals (try subst ho)
    all_goals
      go_enter Try.func42, Try.ntmps42
      go_wp2_with fail
      go_ret
      first
        | exact ⟨rfl, HBB.out⟩
        | exact ⟨by rw [nb0 n]; rfl, HBB.out⟩
        | exact ⟨by rw [nb1 n]; rfl, HBB.out⟩
  · obtain rfl : r = 0 := by omega
    obtain rfl : o = 0 := by omega
    have hb : B = false := by
      rw [hBv, if_neg (by omega), if_neg (by omega), if_neg (by omega)]
    rw [hb]
    obtain ⟨a1, a2, a3, a4, a5, a6, a7, a8, a9⟩ : ¬ k = 1 ∧ ¬ k = 2 ∧ ¬ k = 3 ∧ ¬ k = 4 ∧ ¬ k = 5 ∧ ¬ k = 6 ∧ ¬ k = 7 ∧ ¬ k = 8 ∧ ¬ k = 9 := by omega
    clear hBv hb FIN h1' h2' hk
    go_enter Try.func42, Try.ntmps42
    go_wp2_with fail
    go_ret
    exact ⟨rfl, HBB.out⟩
end Go.Proofs.Ytnlojgomildajaa
