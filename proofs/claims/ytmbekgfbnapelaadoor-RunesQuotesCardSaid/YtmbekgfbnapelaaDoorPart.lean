/-
  WALKS: runes.placeOf, strings.Clone, runes.Part.
-/
import Derived.Test.YtmbekgfbnapelaaDoorTexts3
namespace Go.Proofs.YtmbekgfbnapelaaDoor
open Go.RowKit Go.Lib
set_option linter.unusedVariables false

/-! ### plain: where the piece with a number begins -/
def place (s : ByteArray) (n : Nat) : Nat := ((starts s)[n]?).getD s.size
theorem startsF_next (s : ByteArray) : ∀ f p i x, s.size ≤ p + f → (startsF s f p)[i]? = some x → ((startsF s f p)[i + 1]?).getD s.size = x + dW s x
  | 0, p, i, x, _, h => by simp [startsF] at h
  | f + 1, p, i, x, hf, h => by
    by_cases hp : p < s.size
    · have hw := dW_pos s p
      have hfit := dW_fits s p hp
      rw [startsF_cons s (f + 1) p hp hf] at h ⊢
      cases i with
      | zero =>
        simp at h
        subst h
        simp only [Nat.add_sub_cancel, Nat.zero_add, List.getElem?_cons_succ]
        by_cases hq : p + dW s p < s.size
        · rw [startsF_cons s f _ hq (by omega)]
          simp
        · rw [startsF_end s f _ hq]
          simp
          omega
      | succ i =>
        simp only [Nat.add_sub_cancel, List.getElem?_cons_succ] at h ⊢
        exact startsF_next s f (p + dW s p) i x (by omega) h
    · rw [startsF_end s _ p hp] at h
      simp at h
theorem place_at (s : ByteArray) (i : Nat) (h : i < (starts s).length) : (starts s)[i]? = some (place s i) := by
  simp [place, h]
theorem place_lt (s : ByteArray) (i : Nat) (h : i < (starts s).length) : place s i < s.size := startsF_mem s _ _ _ (List.mem_of_getElem? (place_at s i h))
theorem place_succ (s : ByteArray) (i : Nat) (h : i < (starts s).length) : place s (i + 1) = place s i + dW s (place s i) :=
  startsF_next s s.size 0 i (place s i) (by omega) (place_at s i h)
theorem place_out (s : ByteArray) (i : Nat) (h : (starts s).length ≤ i) : place s i = s.size := by simp [place, h]
theorem place_le (s : ByteArray) (i : Nat) : place s i ≤ s.size := by
  rcases Nat.lt_or_ge i (starts s).length with h | h
  · have := place_lt s i h; omega
  · have := place_out s i h; omega
theorem place_mono (s : ByteArray) (i : Nat) : ∀ d, place s i ≤ place s (i + d)
  | 0 => Nat.le_refl _
  | d + 1 => by
    have ih := place_mono s i d
    rcases Nat.lt_or_ge (i + d) (starts s).length with h | h
    · have := place_succ s (i + d) h
      rw [show i + (d + 1) = i + d + 1 by omega]
      omega
    · have := place_out s (i + (d + 1)) (by omega)
      have := place_le s i
      omega
theorem place_zero (s : ByteArray) : place s 0 = 0 := by
  by_cases h : 0 < s.size
  · have : starts s = 0 :: startsF s (s.size - 1) (0 + dW s 0) := startsF_cons s s.size 0 h (show s.size ≤ 0 + s.size by omega)
    simp [place, this]
  · have : starts s = [] := startsF_end s _ _ h
    rw [place_out s 0 (by rw [this]; simp)]; omega
theorem place_split {s : ByteArray} {l : List Nat} {f pos : Nat} (h : starts s = l ++ startsF s f pos) (hp : pos < s.size) (hf : s.size ≤ pos + f) : place s l.length = pos := by
  rw [startsF_cons s f pos hp hf] at h
  simp [place, h]

/-! ### placeOf -/
def PlRel (s : ByteArray) (w wr : World) (pos f : Nat) (l : List Nat) : Prop :=
  wr.heap[w.heap.size]? = some (.stringIter s pos) ∧ Below w.heap.size w wr ∧ s.size ≤ pos + f ∧ starts s = l ++ startsF s f pos
/-! ### Part -/
theorem size_cut (s : ByteArray) (a b : Nat) : (s.extract a b).size ≤ s.size := by simp; omega
end Go.Proofs.YtmbekgfbnapelaaDoor
