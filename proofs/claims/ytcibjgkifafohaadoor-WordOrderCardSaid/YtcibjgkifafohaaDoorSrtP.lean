/-
  PLAIN: what is left of a sorted row: each word once, each ahead of the next one; there is one such row.
-/
import Derived.Test.YtcibjgkifafohaaDoorSoP
namespace Go.Proofs.YtcibjgkifafohaaDoor
open Go.RowKit Go.Lib
set_option linter.unusedVariables false

/-- Strictly ahead, by the alphabet's row. -/
def Ahd (row a b : List Int) : Prop := lexI (numL row a) (numL row b) < 0
theorem Ahd.irr {row a : List Int} : ¬ Ahd row a a := by unfold Ahd; rw [lexI_refl]; omega
theorem Ahd.asym {row a b : List Int} (h : Ahd row a b) : ¬ Ahd row b a := by
  unfold Ahd at *
  have := lexI_swap (numL row a) (numL row b)
  omega
/-- There is one ascending row of the same members. -/
theorem asc_one {α : Type} (R : α → α → Prop) (hirr : ∀ a, ¬ R a a) (hasym : ∀ a b, R a b → ¬ R b a) : ∀ (l m : List α), l.Pairwise R → m.Pairwise R → (∀ x, x ∈ l ↔ x ∈ m) → l = m
  | [], [], _, _, _ => rfl
  | [], b :: m, _, _, h => absurd ((h b).2 List.mem_cons_self) List.not_mem_nil
  | a :: l, [], _, _, h => absurd ((h a).1 List.mem_cons_self) List.not_mem_nil
  | a :: l, b :: m, hl, hm, h => by
    obtain ⟨hl1, hl2⟩ := List.pairwise_cons.1 hl
    obtain ⟨hm1, hm2⟩ := List.pairwise_cons.1 hm
    have hab : a = b := by
      rcases List.mem_cons.1 ((h a).1 List.mem_cons_self) with e | e
      · exact e
      · rcases List.mem_cons.1 ((h b).2 List.mem_cons_self) with e' | e'
        · exact e'.symm
        · exact absurd (hl1 b e') (hasym _ _ (hm1 a e))
    subst hab
    rw [asc_one R hirr hasym l m hl2 hm2 fun x => ?_]
    constructor
    · intro hx
      rcases List.mem_cons.1 ((h x).1 (List.mem_cons_of_mem _ hx)) with e | e
      · subst e; exact absurd (hl1 x hx) (hirr x)
      · exact e
    · intro hx
      rcases List.mem_cons.1 ((h x).2 (List.mem_cons_of_mem _ hx)) with e | e
      · subst e; exact absurd (hm1 x hx) (hirr x)
      · exact e

/-! ### what is kept -/
theorem kpL_mem {E : Nat → Bool} {n i : Nat} : i ∈ kpL E n ↔ i < n ∧ (i = 0 ∨ E i = false) := by
  unfold kpL
  rw [List.mem_filter, List.mem_range, Bool.or_eq_true, decide_eq_true_eq, Bool.not_eq_true']
theorem kpL_up (E : Nat → Bool) (n : Nat) : (kpL E n).Pairwise (· < ·) := List.Pairwise.filter _ List.pairwise_lt_range
/-- The words behind slices.CompactFunc. -/
def kpW (X : Nat → List Int) (n : Nat) : List (List Int) := (kpL (fun i => decide (X i = X (i - 1))) n).map X
theorem kpW_mem {X : Nat → List Int} {n : Nat} : ∀ i, i < n → X i ∈ kpW X n
  | 0, h => List.mem_map.2 ⟨0, kpL_mem.2 ⟨h, Or.inl rfl⟩, rfl⟩
  | i + 1, h => by
    by_cases e : X (i + 1) = X i
    · rw [e]; exact kpW_mem i (by omega)
    · exact List.mem_map.2 ⟨i + 1, kpL_mem.2 ⟨h, Or.inr (by rw [decide_eq_false_iff_not]; exact e)⟩, rfl⟩
theorem mem_kpW {X : Nat → List Int} {n : Nat} {x : List Int} (h : x ∈ kpW X n) : ∃ i, i < n ∧ X i = x := by
  obtain ⟨i, hi, rfl⟩ := List.mem_map.1 h
  exact ⟨i, (kpL_mem.1 hi).1, rfl⟩
theorem kpW_asc {row : List Int} {X : Nat → List Int} {n : Nat} (hX : ∀ i, i < n → ∀ r ∈ X i, r ∈ row) (hs : ∀ i j, i < j → j < n → ¬ Ahd row (X j) (X i)) : (kpW X n).Pairwise (Ahd row) := by
  unfold kpW
  rw [List.pairwise_map]
  refine (kpL_up _ n).imp_of_mem fun {i j} hi hj hij => ?_
  obtain ⟨hin, _⟩ := kpL_mem.1 hi
  obtain ⟨hjn, h0⟩ := kpL_mem.1 hj
  have hne : X j ≠ X (j - 1) := by
    rcases h0 with h0 | h0
    · omega
    · exact of_decide_eq_false h0
  have h1 := hs (j - 1) j (by omega) hjn
  have h2 : lexI (numL row (X j)) (numL row (X (j - 1))) ≠ 0 := fun e => hne (numL_inj _ _ (hX j hjn) (hX (j - 1) (by omega)) (lexI_eq _ _ e))
  have h3 := lexI_swap (numL row (X j)) (numL row (X (j - 1)))
  have h4 : ¬ Ahd row (X (j - 1)) (X i) := by
    by_cases e : i = j - 1
    · rw [e]; exact Ahd.irr
    · exact hs i (j - 1) (by omega) (by omega)
  have h5 := lexI_swap (numL row (X (j - 1))) (numL row (X i))
  unfold Ahd at *
  exact (lexI_trans (numL row (X i)) (numL row (X (j - 1))) (numL row (X j)) (by omega) (by omega)).2 (Or.inr (by omega))
theorem kpW_len (X : Nat → List Int) (n : Nat) : (kpW X n).length ≤ n := by unfold kpW; rw [List.length_map]; exact kpL_le _ _

/-! ### the row of texts -/
/-- What word.Sort makes of texts that may be. -/
structure SrtOf (row : List Int) (l T : List ByteArray) : Prop where
  mem : ∀ s, s ∈ T ↔ s ∈ l
  asc : T.Pairwise fun s t => Ahd row (runesL (cutW s)) (runesL (cutW t))
  len : T.length ≤ l.length
theorem alE_zero {row : List Int} : ∀ {l : List ByteArray}, alE row l = 0 ↔ ∀ s ∈ l, rdW row s = 0
  | [] => by simp [alE]
  | s :: l => by
    have ih := alE_zero (row := row) (l := l)
    unfold alE
    by_cases h : rdW row s = 0
    · rw [if_pos h, ih]; simp [h]
    · rw [if_neg h]; simp [h]
theorem SrtOf.ok {row : List Int} {l T : List ByteArray} (h : SrtOf row l T) (h0 : rdaE row l = 0) : rdaE row T = 0 := by
  unfold rdaE at *
  by_cases h4 : 4096 < l.length
  · rw [if_pos h4] at h0; exact absurd h0 (by decide)
  · rw [if_neg h4] at h0
    rw [if_neg (by have := h.len; omega)]
    exact alE_zero.2 fun s hs => alE_zero.1 h0 s ((h.mem s).1 hs)
theorem SrtOf.again {row : List Int} {l T U : List ByteArray} (h : SrtOf row l T) (h' : SrtOf row T U) : U = T :=
  asc_one (fun s t => Ahd row (runesL (cutW s)) (runesL (cutW t))) (fun _ => Ahd.irr) (fun _ _ => Ahd.asym) U T h'.asc h.asc h'.mem
end Go.Proofs.YtcibjgkifafohaaDoor
