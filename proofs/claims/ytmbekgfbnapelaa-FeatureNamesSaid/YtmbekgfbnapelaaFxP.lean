/-
  PLAIN: masks of letters; a law's world with an alphabet's box.
-/
import Derived.Test.YtmbekgfbnapelaaFeatC
namespace Go.Proofs.Ytmbekgfbnapelaa
open Go.RowKit Go.Lib
set_option linter.unusedVariables false

def LtrOk (x : Ltr) : Prop := x.p < 4294967296 ∧ x.m < 4294967296
theorem cls_lt {k p m : Nat} (hk : k ≤ 24) (hp : p < 4294967296) (hm : m < 4294967296) (h : clsB k p m = true) : p < 2 ^ k ∧ m < 2 ^ k := by
  unfold clsB at h
  simp only [Bool.and_eq_true, decide_eq_true_eq] at h
  have key : ∀ q, q < 4294967296 → (∀ i, q.testBit i = true → (p ||| m).testBit i = true) → q < 2 ^ k := by
    intro q hq hsub
    apply Nat.lt_pow_two_of_testBit
    intro i hi
    cases hb : q.testBit i with
    | false => rfl
    | true =>
      exfalso
      have hi32 : i < 32 := by
        rcases Nat.lt_or_ge i 32 with h' | h'
        · exact h'
        · rw [Nat.testBit_lt_two_pow (Nat.lt_of_lt_of_le hq (Nat.pow_le_pow_right (by decide) h' : 2 ^ 32 ≤ 2 ^ i))] at hb
          exact absurd hb (by decide)
      have hc := congrArg (fun n => n.testBit i) h.1
      simp only [Nat.testBit_and, Nat.zero_testBit, hsub i hb, Bool.true_and] at hc
      have ha : allN k < 2 ^ 32 := Nat.lt_of_lt_of_le (allN_lt hk) (by decide)
      rw [show (4294967295 : Nat) - allN k = 2 ^ 32 - (allN k + 1) by omega, Nat.testBit_two_pow_sub_succ ha, decide_eq_true hi32, Bool.true_and] at hc
      unfold allN at hc
      rw [Nat.testBit_two_pow_sub_one, decide_eq_false (by omega)] at hc
      exact absurd hc (by decide)
  refine ⟨key p hp fun i hi => by rw [Nat.testBit_or, hi]; rfl, key m hm fun i hi => by rw [Nat.testBit_or, hi, Bool.or_true]⟩

theorem cls_of {k p m : Nat} (hk : k ≤ 24) (hp : p < 2 ^ k) (hm : m < 2 ^ k) (h : p &&& m = 0) : clsB k p m = true := by
  unfold clsB
  rw [Bool.and_eq_true]
  refine ⟨decide_eq_true ?_, decide_eq_true h⟩
  apply Nat.eq_of_testBit_eq
  intro i
  have ha : allN k < 2 ^ 32 := Nat.lt_of_lt_of_le (allN_lt hk) (by decide)
  rw [show (4294967295 : Nat) - allN k = 2 ^ 32 - (allN k + 1) by omega, Nat.testBit_and, Nat.testBit_two_pow_sub_succ ha, Nat.zero_testBit, Nat.testBit_or]
  by_cases hi : i < k
  · unfold allN
    rw [Nat.testBit_two_pow_sub_one, decide_eq_true hi]
    simp
  · have h2 : 2 ^ k ≤ 2 ^ i := Nat.pow_le_pow_right (by decide) (by omega)
    rw [Nat.testBit_lt_two_pow (Nat.lt_of_lt_of_le hp h2), Nat.testBit_lt_two_pow (Nat.lt_of_lt_of_le hm h2)]
    simp
/-- A law's world: the alphabet's value lies in box b. -/
structure Bx (A : Al) (F L : Value) (w : World) (b : Nat) (wk : World) : Prop where
  i : A.In wk
  c0 : wk.cell? ⟨b, 0, none⟩ = some F
  c1 : wk.cell? ⟨b, 1, none⟩ = some L
  below : Below w.heap.size w wk
  lt : b < wk.heap.size
theorem Bx.next {A : Al} {F L : Value} {w : World} {b : Nat} {wk w' : World} (h : Bx A F L w b wk) (hb : Below wk.heap.size wk w') : Bx A F L w b w' :=
  ⟨h.i.next hb, (hb.cell (p := ⟨b, 0, none⟩) h.lt).trans h.c0, (hb.cell (p := ⟨b, 1, none⟩) h.lt).trans h.c1, h.below.trans (hb.mono h.below.size), Nat.lt_of_lt_of_le h.lt hb.size⟩
theorem Bx.alloc {A : Al} {F L : Value} {w : World} {b : Nat} {wk : World} (h : Bx A F L w b wk) (o : Obj) : Bx A F L w b (wk.alloc o) := h.next ((Below.refl _ _).alloc (Nat.le_refl _) _)
theorem Bx.start {A : Al} {F L : Value} {w : World} (h : A.In w) : Bx A F L w w.heap.size (w.alloc (.cells #[F, L] 26)) :=
  ⟨h.alloc _, by simp, by simp, (Below.refl _ _).alloc (Nat.le_refl _) _, by simp⟩

end Go.Proofs.Ytmbekgfbnapelaa
