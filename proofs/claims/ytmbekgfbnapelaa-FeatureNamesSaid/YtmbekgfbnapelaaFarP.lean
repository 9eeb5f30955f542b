/-
  PLAIN: how far letters are: the facts that cognatelaw02.FeatureFar wants.
-/
import Derived.Test.YtmbekgfbnapelaaAlv2
namespace Go.Proofs.Ytmbekgfbnapelaa
open Go.RowKit Go.Lib
set_option linter.unusedVariables false

theorem pop_or_le : ∀ (k a b : Nat), popAux k (a ||| b) ≤ popAux k a + popAux k b
  | 0, a, b => Nat.zero_le _
  | k + 1, a, b => by
    rw [popAux, popAux, popAux, Nat.or_div_two]
    have := pop_or_le k (a / 2) (b / 2)
    have h : (a ||| b) % 2 ≤ a % 2 + b % 2 := by
      rw [Nat.or_mod_two_pow (n := 1)]
      have h1 : a % 2 < 2 := Nat.mod_lt _ (by decide)
      have h2 : b % 2 < 2 := Nat.mod_lt _ (by decide)
      show (a % 2 ||| b % 2) ≤ _
      generalize a % 2 = u at *
      generalize b % 2 = v at *
      match u, v, h1, h2 with
      | 0, 0, _, _ => decide
      | 0, 1, _, _ => decide
      | 1, 0, _, _ => decide
      | 1, 1, _, _ => decide
    omega
theorem pop_mono : ∀ (k a b : Nat), a &&& b = a → popAux k a ≤ popAux k b
  | 0, a, b, _ => Nat.le_refl _
  | k + 1, a, b, h => by
    rw [popAux, popAux]
    have h2 : a / 2 &&& b / 2 = a / 2 := by rw [← Nat.and_div_two, h]
    have := pop_mono k (a / 2) (b / 2) h2
    have h1 : a % 2 &&& b % 2 = a % 2 := by
      have e : (a &&& b) % 2 ^ 1 = a % 2 := by rw [h]
      rw [Nat.and_mod_two_pow (n := 1)] at e
      exact e
    have : a % 2 ≤ b % 2 := by rw [← h1]; exact Nat.and_le_right
    omega
theorem pop_none : ∀ (k a : Nat), a < 2 ^ k → popAux k a = 0 → a = 0
  | 0, a, h, _ => by simpa using h
  | k + 1, a, h, h0 => by
    rw [popAux] at h0
    have := pop_none k (a / 2) (by rw [Nat.pow_succ] at h; omega) (by omega)
    omega
theorem pop_le_of_lt (k n a : Nat) (hk : k ≤ n) (h : a < 2 ^ k) : popAux n a ≤ k := by
  obtain ⟨d, rfl⟩ : ∃ d, n = k + d := ⟨n - k, by omega⟩
  rw [popAux_add, Nat.div_eq_of_lt h, popAux_zero]
  exact popAux_le k a
theorem unl_symm (x y : Ltr) : unl x y = unl y x := by unfold unl; rw [Nat.xor_comm x.p, Nat.xor_comm x.m]
theorem unl_tri (x y z : Ltr) : unl x y ≤ unl x z + unl z y := by
  unfold unl
  refine Nat.le_trans (pop_mono 32 _ (((x.p ^^^ z.p) ||| (x.m ^^^ z.m)) ||| ((z.p ^^^ y.p) ||| (z.m ^^^ y.m))) ?_) (pop_or_le 32 _ _)
  apply Nat.eq_of_testBit_eq
  intro i
  simp only [Nat.testBit_and, Nat.testBit_or, Nat.testBit_xor]
  cases x.p.testBit i <;> cases y.p.testBit i <;> cases z.p.testBit i <;> cases x.m.testBit i <;> cases y.m.testBit i <;> cases z.m.testBit i <;> rfl
theorem xor_nil {a b : Nat} (h : a ^^^ b = 0) : a = b := by
  have e : (a ^^^ b) ^^^ b = 0 ^^^ b := by rw [h]
  rwa [Nat.xor_assoc, Nat.xor_self, Nat.xor_zero, Nat.zero_xor] at e
theorem unl_zero (x y : Ltr) (hx : LtrOk x) (hy : LtrOk y) : unl x y = 0 ↔ x.p = y.p ∧ x.m = y.m := by
  unfold unl
  constructor
  · intro h
    have h0 := pop_none 32 _ (Nat.or_lt_two_pow (Nat.xor_lt_two_pow hx.1 hy.1) (Nat.xor_lt_two_pow hx.2 hy.2)) h
    have h1 : x.p ^^^ y.p = 0 := by
      have := Nat.left_le_or (n := x.p ^^^ y.p) (m := x.m ^^^ y.m)
      omega
    have h2 : x.m ^^^ y.m = 0 := by
      have := Nat.right_le_or (n := x.p ^^^ y.p) (m := x.m ^^^ y.m)
      omega
    exact ⟨xor_nil h1, xor_nil h2⟩
  · rintro ⟨h1, h2⟩
    rw [h1, h2, Nat.xor_self, Nat.xor_self]
    exact popAux_zero 32
/-! ### the letters of an alphabet in order -/
theorem findL_mem {ls : List Ltr} {r : Int} {l : Ltr} (h : findL ls r = some l) : l ∈ ls := List.mem_of_find?_eq_some h
theorem lofR_yes {ls : List Ltr} {r : Int} (h : (lofR ls r).2 = 0) : ∃ l, findL ls r = some l ∧ lofR ls r = (l, 0) ∧ l ∈ ls := by
  unfold lofR at h ⊢
  cases hf : findL ls r with
  | none => rw [hf] at h; exact absurd h (by decide)
  | some l => exact ⟨l, rfl, rfl, findL_mem hf⟩
theorem lofR_no {ls : List Ltr} {r : Int} (h : ¬ (lofR ls r).2 = 0) : lofR ls r = (zeroL, 5) := by
  unfold lofR at h ⊢
  cases hf : findL ls r with
  | none => rfl
  | some l => rw [hf] at h; exact absurd rfl h
theorem Al.in_ok {A : Al} (hok : A.ok = true) (hb : ∀ l ∈ A.ls, l.p < 4294967296 ∧ l.m < 4294967296 ∧ -2147483648 ≤ l.r ∧ l.r ≤ 2147483647) {l : Ltr} (hl : l ∈ A.ls) : LtrOk l ∧ clsB A.fs.length l.p l.m = true ∧ l.p < 2 ^ A.fs.length ∧ l.m < 2 ^ A.fs.length := by
  have h24 := Al.ok24 hok
  rw [Al.ok_eq, Bool.and_eq_true] at hok
  have h2 := hok.2
  unfold ltrsB at h2
  simp only [Bool.and_eq_true, List.all_eq_true] at h2
  have h3 := h2.1.2 l hl
  unfold ltrB at h3
  rw [Bool.and_eq_true] at h3
  obtain ⟨hp, hm, _⟩ := hb l hl
  obtain ⟨hq1, hq2⟩ := cls_lt h24 hp hm h3.2
  exact ⟨⟨hp, hm⟩, h3.2, hq1, hq2⟩
/-- Far: either no answer, the same both ways; or the two letters. -/
theorem farR_cases (A : Al) (x y : Int) (hb : ∀ l ∈ A.ls, l.p < 4294967296 ∧ l.m < 4294967296 ∧ -2147483648 ≤ l.r ∧ l.r ≤ 2147483647) :
    (∃ e, e ≠ 0 ∧ farR A x y = (0, e) ∧ farR A y x = (0, e)) ∨
    (∃ lx ly, A.ok = true ∧ ofR A x = (lx, 0) ∧ ofR A y = (ly, 0) ∧ lofR A.ls x = (lx, 0) ∧ lofR A.ls y = (ly, 0) ∧ farR A x y = (unl lx ly, 0) ∧ farR A y x = (unl lx ly, 0) ∧ unl lx ly ≤ A.fs.length ∧ (unl lx ly = 0 ↔ lx.p = ly.p ∧ lx.m = ly.m)) := by
  cases hok : A.ok with
  | false =>
    have e : ∀ r, ofR A r = (zeroL, 7) := fun r => by unfold ofR; rw [hok]; rfl
    refine Or.inl ⟨7, by decide, ?_, ?_⟩
    all_goals
      unfold farR
      rw [e, if_neg (by decide)]
  | true =>
    have e : ∀ r, ofR A r = lofR A.ls r := fun r => by unfold ofR; rw [hok]; rfl
    by_cases hx : (lofR A.ls x).2 = 0
    · by_cases hy : (lofR A.ls y).2 = 0
      · obtain ⟨lx, _, ex, mx⟩ := lofR_yes hx
        obtain ⟨ly, _, ey, my⟩ := lofR_yes hy
        obtain ⟨ox, _, px, qx⟩ := Al.in_ok hok hb mx
        obtain ⟨oy, _, py, qy⟩ := Al.in_ok hok hb my
        refine Or.inr ⟨lx, ly, rfl, by rw [e, ex], by rw [e, ey], ex, ey, ?_, ?_, ?_, unl_zero lx ly ox oy⟩
        · unfold farR; rw [e, ex, ey, if_pos rfl, if_pos rfl]
        · unfold farR; rw [e, ex, ey, if_pos rfl, if_pos rfl, unl_symm]
        · unfold unl
          have h24 := Al.ok24 hok
          exact pop_le_of_lt A.fs.length 32 _ (by omega) (Nat.or_lt_two_pow (Nat.xor_lt_two_pow px py) (Nat.xor_lt_two_pow qx qy))
      · have ey := lofR_no hy
        refine Or.inl ⟨5, by decide, ?_, ?_⟩
        · unfold farR; rw [e, ey, if_pos hx, if_neg (by decide)]
        · unfold farR; rw [e, ey, if_neg (by decide)]
    · have ex := lofR_no hx
      refine Or.inl ⟨5, by decide, ?_, ?_⟩
      · unfold farR; rw [e, ex, if_neg (by decide)]
      · unfold farR
        rw [e, ex]
        by_cases hy : (lofR A.ls y).2 = 0
        · rw [if_pos hy, if_neg (by decide)]
        · rw [if_neg hy, lofR_no hy]
theorem farR_via {A : Al} {x y z : Int} {lx ly : Ltr} (hok : A.ok = true) (ex : lofR A.ls x = (lx, 0)) (ey : lofR A.ls y = (ly, 0)) (h1 : (farR A x z).2 = 0) (h2 : (farR A z y).2 = 0) : unl lx ly ≤ (farR A x z).1 + (farR A z y).1 := by
  have e : ∀ r, ofR A r = lofR A.ls r := fun r => by unfold ofR; rw [hok]; rfl
  unfold farR at h1 h2 ⊢
  rw [e, ex, if_pos rfl] at h1 ⊢
  rw [e, ey] at h2
  rw [e, ey]
  by_cases hz : (lofR A.ls z).2 = 0
  · rw [if_pos hz, if_pos hz, if_pos rfl]
    exact unl_tri _ _ _
  · rw [if_neg hz] at h1
    exact absurd h1 hz
end Go.Proofs.Ytmbekgfbnapelaa
