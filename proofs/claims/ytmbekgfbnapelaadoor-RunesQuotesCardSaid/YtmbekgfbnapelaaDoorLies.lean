/-
  PLAIN: the pieces of a text as they lie in memory.
-/
import Derived.Test.YtmbekgfbnapelaaDoorAll
import Derived.Deep.RegionHeld3
namespace Go.Proofs.YtmbekgfbnapelaaDoor
open Go.RowKit Go.Lib
set_option linter.unusedVariables false

theorem pieceCs_at (s : ByteArray) : ∀ (l : List Nat) (i j p : Nat), l[i]? = some p → j < 4 → (pieceCs s l)[i * 4 + j]? = (pieceC s p)[j]?
  | [], i, j, p, h, _ => by simp at h
  | a :: l, 0, j, p, h, hj => by
    simp at h; subst h
    simp only [pieceCs, List.flatMap_cons, Nat.zero_mul, Nat.zero_add]
    rw [List.getElem?_append_left (by simpa [pieceC] using hj)]
  | a :: l, i + 1, j, p, h, hj => by
    have ih := pieceCs_at s l i j p (by simpa using h) hj
    simp only [pieceCs, List.flatMap_cons] at ih ⊢
    rw [List.getElem?_append_right (by simp [pieceC]; omega), ← ih]
    congr 1
    simp [pieceC]
    omega

/-- The pieces of a text as they lie in memory, block g. -/
structure Lies (s : ByteArray) (v : Value) (w : World) (g : Nat) : Prop where
  cell : ∀ i p, (starts s)[i]? = some p → w.cell? ⟨g, i * 4, none⟩ = some (.int .i32 (dR s p)) ∧ w.cell? ⟨g, i * 4 + 1, none⟩ = some (.int .i64 p) ∧ w.cell? ⟨g, i * 4 + 2, none⟩ = some (.int .i64 (dW s p)) ∧ w.cell? ⟨g, i * 4 + 3, none⟩ = some (.bool (brk s p))
theorem pieces_lie {s : ByteArray} {B : Nat} {w : World} {v : Value} (h : PiecesAt s B w v) (hne : 0 < (starts s).length) : ∃ g c, v = .slice (some ⟨g, 0, none⟩) (starts s).length c ∧ B ≤ g ∧ g < w.heap.size ∧ Lies s v w g ∧ (starts s).length ≤ c := by
  have h0 := h
  unfold PiecesAt at h0
  rcases h0.2 with ⟨_, h1⟩ | ⟨g, cap, cur, rfl, hb, hg, hnc, _⟩
  · omega
  · refine ⟨g, cap, rfl, hb, (Array.getElem?_eq_some_iff.1 hg).1, ⟨fun i p hp => ?_⟩, hnc⟩
    have hi : i < (starts s).length := (List.getElem?_eq_some_iff.1 hp).1
    have key : ∀ j, j < 4 → w.cell? ⟨g, i * 4 + j, none⟩ = (pieceC s p)[j]? := fun j hj => by
      rw [h0.cellAt (i * 4 + j) (by omega), pieceCs_at s _ i j p hp hj]
    exact ⟨key 0 (by omega), key 1 (by omega), key 2 (by omega), key 3 (by omega)⟩

end Go.Proofs.YtmbekgfbnapelaaDoor
