/-
  PLAIN: the order of two rows of letters is the order of their numbers, place by place.
-/
import Derived.Test.YtcibjgkifafohaaDoorCm
namespace Go.Proofs.YtcibjgkifafohaaDoor
open Go.RowKit Go.Lib
set_option linter.unusedVariables false

/-- Place by place; what ends first comes first. -/
def lexI : List Int → List Int → Int
  | [], [] => 0
  | [], _ :: _ => -1
  | _ :: _, [] => 1
  | a :: l, b :: m => if a < b then -1 else if b < a then 1 else lexI l m
theorem lexI_swap : ∀ (l m : List Int), lexI l m + lexI m l = 0
  | [], [] => rfl
  | [], _ :: _ => rfl
  | _ :: _, [] => rfl
  | a :: l, b :: m => by
    have := lexI_swap l m
    unfold lexI
    by_cases h1 : a < b
    · rw [if_pos h1, if_neg (by omega), if_pos h1]; rfl
    · by_cases h2 : b < a
      · rw [if_neg h1, if_pos h2, if_pos h2]; rfl
      · rw [if_neg h1, if_neg h2, if_neg h2, if_neg h1]; exact this
theorem lexI_range : ∀ (l m : List Int), lexI l m = -1 ∨ lexI l m = 0 ∨ lexI l m = 1
  | [], [] => Or.inr (Or.inl rfl)
  | [], _ :: _ => Or.inl rfl
  | _ :: _, [] => Or.inr (Or.inr rfl)
  | a :: l, b :: m => by
    have := lexI_range l m
    unfold lexI
    by_cases h1 : a < b
    · rw [if_pos h1]; exact Or.inl rfl
    · by_cases h2 : b < a
      · rw [if_neg h1, if_pos h2]; exact Or.inr (Or.inr rfl)
      · rw [if_neg h1, if_neg h2]; exact this
theorem lexI_refl : ∀ (l : List Int), lexI l l = 0
  | [] => rfl
  | a :: l => by unfold lexI; rw [if_neg (by omega), if_neg (by omega)]; exact lexI_refl l
theorem lexI_eq : ∀ (l m : List Int), lexI l m = 0 → l = m
  | [], [], _ => rfl
  | [], _ :: _, h => absurd h (by unfold lexI; decide)
  | _ :: _, [], h => absurd h (by unfold lexI; decide)
  | a :: l, b :: m, h => by
    unfold lexI at h
    by_cases h1 : a < b
    · rw [if_pos h1] at h; exact absurd h (by decide)
    · by_cases h2 : b < a
      · rw [if_neg h1, if_pos h2] at h; exact absurd h (by decide)
      · rw [if_neg h1, if_neg h2] at h
        rw [lexI_eq l m h, show a = b by omega]
/-- Of two steps that do not go down the whole does not go down, and it goes up where one of them does. -/
theorem lexI_trans : ∀ (l m n : List Int), lexI l m ≤ 0 → lexI m n ≤ 0 → lexI l n ≤ 0 ∧ (lexI l m < 0 ∨ lexI m n < 0 → lexI l n < 0)
  | [], [], [], _, _ => by simp [lexI]
  | [], [], _ :: _, _, _ => by simp [lexI]
  | [], _ :: _, [], _, h => absurd h (by unfold lexI; decide)
  | [], _ :: _, _ :: _, _, _ => by simp [lexI]
  | _ :: _, [], _, h, _ => absurd h (by unfold lexI; decide)
  | _ :: _, _ :: _, [], _, h => absurd h (by unfold lexI; decide)
  | a :: l, b :: m, c :: n, h1, h2 => by
    have ih := lexI_trans l m n
    unfold lexI at h1 h2 ⊢
    by_cases x1 : a < b
    · have hac : ¬ c < b → a < c := by omega
      by_cases y2 : c < b
      · simp only [if_neg (show ¬ b < c by omega), if_pos y2] at h2
        exact absurd h2 (by decide)
      · simp only [if_pos (hac y2)]
        exact ⟨by decide, fun _ => by decide⟩
    · by_cases x2 : b < a
      · simp only [if_neg x1, if_pos x2] at h1
        exact absurd h1 (by decide)
      · obtain rfl : a = b := by omega
        simp only [if_neg x1] at h1 ⊢
        by_cases y1 : a < c
        · simp only [if_pos y1]
          exact ⟨by decide, fun _ => by decide⟩
        · by_cases y2 : c < a
          · simp only [if_neg y1, if_pos y2] at h2
            exact absurd h2 (by decide)
          · simp only [if_neg y1, if_neg y2] at h2 ⊢
            exact ih h1 h2
/-- A letter's number finds the letter. -/
theorem idxI_at : ∀ (l : List Int) (x : Int) (k : Nat), 0 ≤ idxI l x k → ∃ j, idxI l x k = ((k + j : Nat) : Int) ∧ l[j]? = some x
  | [], x, k, h => absurd h (by unfold idxI; decide)
  | y :: l, x, k, h => by
    unfold idxI at h ⊢
    split
    · rename_i e
      exact ⟨0, by simp, by simp [e]⟩
    · rename_i e
      rw [if_neg e] at h
      obtain ⟨j, h1, h2⟩ := idxI_at l x (k + 1) h
      exact ⟨j + 1, by rw [h1]; omega, by simpa using h2⟩
theorem idxI_inj {row : List Int} {x y : Int} (hx : x ∈ row) (hy : y ∈ row) (h : idxI row x 0 = idxI row y 0) : x = y := by
  obtain ⟨j, h1, h2⟩ := idxI_at row x 0 ((idxI_mem row x 0).2 hx)
  obtain ⟨i, h3, h4⟩ := idxI_at row y 0 ((idxI_mem row y 0).2 hy)
  obtain rfl : j = i := by omega
  rw [h2] at h4
  exact Option.some.inj h4
def numL (row l : List Int) : List Int := l.map fun r => idxI row r 0
theorem compareInt_succ (a b : Nat) : compareInt ((a + 1 : Nat) : Int) ((b + 1 : Nat) : Int) = compareInt a b := by
  unfold compareInt
  by_cases h1 : a < b
  · rw [if_pos (by omega), if_pos (by omega)]
  · by_cases h2 : b < a
    · rw [if_neg (by omega), if_pos (by omega), if_neg (by omega), if_pos (by omega)]
    · rw [if_neg (by omega), if_neg (by omega), if_neg (by omega), if_neg (by omega)]
theorem cmpI_lex {row : List Int} : ∀ (l m : List Int), (∀ r ∈ l, r ∈ row) → (∀ r ∈ m, r ∈ row) → cmpI row l m = lexI (numL row l) (numL row m)
  | [], [], _, _ => by simp [cmpI, comI, numL, lexI, compareInt]
  | [], y :: m, _, _ => by
    unfold cmpI
    rw [if_pos (Or.inl (by simp [comI]))]
    unfold compareInt
    rw [if_pos (by simp only [List.length_nil, List.length_cons]; omega)]
    rfl
  | x :: l, [], _, _ => by
    unfold cmpI
    rw [if_pos (Or.inr (by simp [comI]))]
    unfold compareInt
    rw [if_neg (by simp only [List.length_nil, List.length_cons]; omega), if_pos (by simp only [List.length_nil, List.length_cons]; omega)]
    rfl
  | x :: l, y :: m, h1, h2 => by
    have ih := cmpI_lex l m (fun r hr => h1 r (List.mem_cons_of_mem _ hr)) (fun r hr => h2 r (List.mem_cons_of_mem _ hr))
    show _ = lexI (idxI row x 0 :: numL row l) (idxI row y 0 :: numL row m)
    unfold lexI
    by_cases hxy : x = y
    · subst hxy
      rw [if_neg (by omega), if_neg (by omega), ← ih]
      have hc : comI (x :: l) (x :: m) = comI l m + 1 := by simp [comI]
      unfold cmpI
      rw [hc]
      simp only [List.length_cons, List.getD_cons_succ]
      by_cases hh : comI l m = l.length ∨ comI l m = m.length
      · rw [if_pos (by omega), if_pos hh]; exact compareInt_succ _ _
      · rw [if_neg (by omega), if_neg hh]
    · have hc : comI (x :: l) (y :: m) = 0 := by simp [comI, hxy]
      have hne : ¬ idxI row x 0 = idxI row y 0 := fun h => hxy (idxI_inj (h1 x List.mem_cons_self) (h2 y List.mem_cons_self) h)
      unfold cmpI
      rw [hc, if_neg (by simp)]
      simp only [List.getD_cons_zero]
      unfold compareInt
      by_cases h3 : idxI row x 0 < idxI row y 0
      · rw [if_pos h3, if_pos h3]
      · rw [if_neg h3, if_neg h3, if_pos (by omega), if_pos (by omega)]
theorem numL_inj {row : List Int} : ∀ (l m : List Int), (∀ r ∈ l, r ∈ row) → (∀ r ∈ m, r ∈ row) → numL row l = numL row m → l = m
  | [], [], _, _, _ => rfl
  | [], _ :: _, _, _, h => absurd h (by simp [numL])
  | _ :: _, [], _, _, h => absurd h (by simp [numL])
  | x :: l, y :: m, h1, h2, h => by
    simp only [numL, List.map_cons, List.cons.injEq] at h
    rw [idxI_inj (h1 x List.mem_cons_self) (h2 y List.mem_cons_self) h.1, numL_inj l m (fun r hr => h1 r (List.mem_cons_of_mem _ hr)) (fun r hr => h2 r (List.mem_cons_of_mem _ hr)) h.2]
end Go.Proofs.YtcibjgkifafohaaDoor
