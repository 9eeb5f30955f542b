/-
  PLAIN and WALK: cognatelaw03.WordOrder: true for every input.
-/
import Derived.Test.YtcibjgkifafohaaDoorSrt
import Derived.Test.YtcibjgkifafohaaDoorAmg
namespace Go.Proofs.YtcibjgkifafohaaDoor
open Go.RowKit Go.Lib
set_option linter.unusedVariables false

theorem bothE_of {A : Al} {x y : ByteArray} (hok : A.ok = true) (hx : rdW (rowL A) x = 0) (hy : rdW (rowL A) y = 0) : bothE A x y = 0 := by
  unfold bothE
  rw [hok, if_pos rfl, if_pos hx]
  exact hy
theorem bothE_comm {A : Al} {x y : ByteArray} (h : bothE A x y = 0) : bothE A y x = 0 := by
  obtain ⟨h1, h2, h3⟩ := bothE_yes h
  exact bothE_of h1 h3 h2
theorem cmpR_lex {A : Al} {x y : ByteArray} (h : bothE A x y = 0) : cmpR A x y = lexI (numL (rowL A) (runesL (cutW x))) (numL (rowL A) (runesL (cutW y))) := by
  obtain ⟨h1, h2, h3⟩ := bothE_yes h
  unfold cmpR
  rw [if_pos h, cmpI_lex _ _ (rd_word h2).1.mem (rd_word h3).1.mem]
theorem cmpR_no {A : Al} {x y : ByteArray} (h : ¬ bothE A x y = 0) : cmpR A x y = 0 := by unfold cmpR; rw [if_neg h]
theorem cmpR_range (A : Al) (x y : ByteArray) : cmpR A x y = -1 ∨ cmpR A x y = 0 ∨ cmpR A x y = 1 := by
  by_cases h : bothE A x y = 0
  · rw [cmpR_lex h]; exact lexI_range _ _
  · rw [cmpR_no h]; exact Or.inr (Or.inl rfl)
theorem cmpR_zero {A : Al} {x y : ByteArray} (h : bothE A x y = 0) : cmpR A x y = 0 ↔ x = y := by
  obtain ⟨h1, h2, h3⟩ := bothE_yes h
  rw [cmpR_lex h]
  constructor
  · intro e
    have e2 := numL_inj _ _ (rd_word h2).1.mem (rd_word h3).1.mem (lexI_eq _ _ e)
    rw [← (rd_word h2).2, e2, (rd_word h3).2]
  · rintro rfl
    exact lexI_refl _
/-- All that the four comparisons can answer. -/
structure CmpCase (x y : ByteArray) (p e q f r g s h : Int) : Prop where
  ef : e = 0 ↔ f = 0
  opp : p + q = 0
  no : ¬ e = 0 → p = 0
  rng : p = -1 ∨ p = 0 ∨ p = 1
  same : e = 0 → (p = 0 ↔ x = y)
  r1 : r = -1 ∨ r = 0 ∨ r = 1
  gh : e = 0 → g = 0 → h = 0
  tr : e = 0 → g = 0 → p ≤ 0 → r ≤ 0 → s ≤ 0 ∧ (p < 0 ∨ r < 0 → s = -1)
theorem cmp_case (A : Al) (x y z : ByteArray) : CmpCase x y (cmpR A x y) (bothE A x y) (cmpR A y x) (bothE A y x) (cmpR A y z) (bothE A y z) (cmpR A x z) (bothE A x z) := by
  refine ⟨⟨bothE_comm, bothE_comm⟩, ?_, fun h => cmpR_no h, cmpR_range _ _ _, cmpR_zero, cmpR_range _ _ _, fun h1 h2 => ?_, fun h1 h2 hp hr => ?_⟩
  · by_cases h : bothE A x y = 0
    · rw [cmpR_lex h, cmpR_lex (bothE_comm h)]; exact lexI_swap _ _
    · rw [cmpR_no h, cmpR_no (fun e => h (bothE_comm e))]; rfl
  · obtain ⟨a, b, c⟩ := bothE_yes h1
    obtain ⟨_, d, e⟩ := bothE_yes h2
    exact bothE_of a b e
  · obtain ⟨a, b, c⟩ := bothE_yes h1
    obtain ⟨_, d, e⟩ := bothE_yes h2
    have h3 := bothE_of a b e
    have hr := cmpR_range A x z
    rw [cmpR_lex h1, cmpR_lex h2, cmpR_lex h3] at *
    have := lexI_trans _ _ _ hp ‹_›
    refine ⟨this.1, fun h => ?_⟩
    have := this.2 h
    omega
theorem srt_cmp {A : Al} {l T : List ByteArray} (h0 : srtE A l = 0) (h : SrtOf (rowL A) l T) (j : Nat) (hj : j + 1 < T.length) :
    bothE A (T.getD j ByteArray.empty) (T.getD (j + 1) ByteArray.empty) = 0 ∧ cmpR A (T.getD j ByteArray.empty) (T.getD (j + 1) ByteArray.empty) = -1 := by
  have hok : A.ok = true := by
    cases hok : A.ok with
    | true => rfl
    | false => unfold srtE at h0; rw [hok] at h0; simp at h0
  have h1 : rdaE (rowL A) l = 0 := by unfold srtE at h0; rw [hok, if_pos rfl] at h0; exact h0
  have h2 := h.ok h1
  have h3 : alE (rowL A) T = 0 := by unfold rdaE at h2; rw [if_neg (by have := rdaE_len h2; omega)] at h2; exact h2
  have h4 := alE_zero.1 h3
  rw [getS_at hj, getS_at (show j < T.length by omega)]
  have hb := bothE_of hok (h4 _ (List.getElem_mem (show j < T.length by omega))) (h4 _ (List.getElem_mem hj))
  refine ⟨hb, ?_⟩
  rw [cmpR_lex hb]
  have h5 := List.pairwise_iff_getElem.1 h.asc j (j + 1) (by omega) hj (by omega)
  unfold Ahd at h5
  have := lexI_range (numL (rowL A) (runesL (cutW T[j]))) (numL (rowL A) (runesL (cutW T[j + 1])))
  omega
theorem srt_again {A : Al} {l T : List ByteArray} (h0 : srtE A l = 0) (h : SrtOf (rowL A) l T) : srtE A T = 0 := by
  unfold srtE at *
  split at h0
  · rename_i hok; rw [if_pos hok]; exact h.ok h0
  · exact absurd h0 (by decide)
end Go.Proofs.YtcibjgkifafohaaDoor
