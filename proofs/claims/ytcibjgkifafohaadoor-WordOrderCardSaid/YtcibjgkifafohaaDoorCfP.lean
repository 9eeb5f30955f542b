/-
  PLAIN: what slices.CompactFunc keeps of a row: the places that are not like the place before.
-/
import Derived.Test.YtcibjgkifafohaaDoorEqr
namespace Go.Proofs.YtcibjgkifafohaaDoor
open Go.RowKit Go.Lib
set_option linter.unusedVariables false

/-- The kept ones of the first t places; E i: the i-th is like the one before. -/
def kpL (E : Nat → Bool) (t : Nat) : List Nat := (List.range t).filter fun i => decide (i = 0) || !E i
theorem kpL_snoc (E : Nat → Bool) (t : Nat) : kpL E (t + 1) = kpL E t ++ (if (decide (t = 0) || !E t) = true then [t] else []) := by
  unfold kpL
  rw [List.range_succ, List.filter_append]
  congr 1
  by_cases h : (decide (t = 0) || !E t) = true
  · rw [if_pos h]; simp only [List.filter_cons, h, if_true, List.filter_nil]
  · rw [if_neg h]; simp only [List.filter_cons, h, List.filter_nil]; rfl
theorem kpL_yes {E : Nat → Bool} {t : Nat} (h : E t = false) : kpL E (t + 1) = kpL E t ++ [t] := by rw [kpL_snoc, if_pos (by rw [h]; simp)]
theorem kpL_no {E : Nat → Bool} {t : Nat} (h : E t = true) (h0 : 0 < t) : kpL E (t + 1) = kpL E t := by
  rw [kpL_snoc, if_neg (by rw [h]; simp; omega), List.append_nil]
theorem kpL_one (E : Nat → Bool) : kpL E 1 = [0] := by rw [kpL_snoc, if_pos (by simp)]; rfl
theorem kpL_le (E : Nat → Bool) (t : Nat) : (kpL E t).length ≤ t := by
  have := List.length_filter_le (fun i => decide (i = 0) || !E i) (List.range t)
  rw [List.length_range] at this
  exact this
theorem kpL_lt {E : Nat → Bool} : ∀ {t : Nat} (k : Nat), 0 < k → k < t → E k = true → (kpL E t).length < t
  | 0, k, _, h, _ => absurd h (by omega)
  | t + 1, k, h0, h, hk => by
    by_cases e : k = t
    · subst e
      rw [kpL_no hk h0]
      have := kpL_le E k
      omega
    · have ih := kpL_lt (t := t) k h0 (by omega) hk
      rw [kpL_snoc, List.length_append]
      split <;> simp <;> omega
/-- Nothing like the one before: all are kept. -/
theorem kpL_all {E : Nat → Bool} : ∀ (t : Nat), (∀ i, 0 < i → i < t → E i = false) → kpL E t = List.range t
  | 0, _ => rfl
  | t + 1, h => by
    have ih := kpL_all t fun i h0 h1 => h i h0 (by omega)
    by_cases e : t = 0
    · subst e; exact kpL_one E
    · rw [kpL_yes (h t (by omega) (by omega)), ih, List.range_succ]
theorem kpL_bound (E : Nat → Bool) (t : Nat) : ∀ i ∈ kpL E t, i < t := fun i hi => List.mem_range.1 (List.mem_filter.1 hi).1
/-- The row behind the first t places: the kept ones ahead, the rest from t - 1 on as it was. -/
structure KpIn (E : Nat → Bool) (D : List Value) (t : Nat) (xs : List Value) : Prop where
  len : xs.length = D.length
  kept : ∀ j, j < (kpL E t).length → xs[j]? = D[(kpL E t).getD j 0]?
  rest : ∀ j, t ≤ j + 1 → j < D.length → xs[j]? = D[j]?
theorem KpIn.start {E : Nat → Bool} {D : List Value} {k : Nat} (h : ∀ i, 0 < i → i < k → E i = false) : KpIn E D k D := by
  refine ⟨rfl, fun j hj => ?_, fun j _ _ => rfl⟩
  rw [kpL_all k h] at hj ⊢
  rw [List.length_range] at hj
  rw [List.getD_eq_getElem?_getD, List.getElem?_range hj]
  rfl
theorem KpIn.skip {E : Nat → Bool} {D xs : List Value} {t : Nat} (h : KpIn E D t xs) (he : E t = true) (h0 : 0 < t) : KpIn E D (t + 1) xs := by
  refine ⟨h.len, ?_, fun j h1 h2 => h.rest j (by omega) h2⟩
  rw [kpL_no he h0]
  exact h.kept
theorem KpIn.keep {E : Nat → Bool} {D xs : List Value} {t : Nat} {u : Value} (h : KpIn E D t xs) (he : E t = false) (ht : t < D.length) (hu : D[t]? = some u) (hlt : (kpL E t).length < t) :
    KpIn E D (t + 1) (xs.set (kpL E t).length u) := by
  refine ⟨by rw [List.length_set]; exact h.len, fun j hj => ?_, fun j h1 h2 => ?_⟩
  · rw [kpL_yes he] at hj ⊢
    rw [List.length_append] at hj
    by_cases e : j = (kpL E t).length
    · subst e
      rw [List.getElem?_set_self (by rw [h.len]; omega), List.getD_eq_getElem?_getD, List.getElem?_append_right (Nat.le_refl _), Nat.sub_self]
      simp [hu]
    · have hj2 : j < (kpL E t).length := by simp at hj; omega
      rw [List.getElem?_set_ne (by omega), h.kept j hj2, List.getD_eq_getElem?_getD, List.getD_eq_getElem?_getD, List.getElem?_append_left hj2]
  · rw [List.getElem?_set_ne (by omega)]
    exact h.rest j (by omega) h2
end Go.Proofs.YtcibjgkifafohaaDoor
