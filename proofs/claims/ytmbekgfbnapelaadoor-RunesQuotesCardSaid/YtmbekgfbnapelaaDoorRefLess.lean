/-
  WALKS OF THE DOCUMENT's ANSWER: cognateref01.Less: two texts' pieces held against each other.
-/
import Derived.Test.YtmbekgfbnapelaaDoorLies
import Derived.Test.YtmbekgfbnapelaaDoorWeight
import Derived.Deep.RegionHeld3
namespace Go.Proofs.YtmbekgfbnapelaaDoor
open Go.RowKit Go.Lib
set_option linter.unusedVariables false

theorem below_undrew {B : Nat} {w w' : World} (h : Below B w.drew w') : Below B w w' := ⟨h.os, h.tape, h.output, h.size, h.block⟩

theorem lessL_end1 (s t : ByteArray) (l m : List Nat) (i : Nat) (h1 : i ≤ l.length) (h2 : i ≤ m.length) (h : ¬ (i < l.length ∧ i < m.length)) : lessL s t (l.drop i) (m.drop i) = decide (l.length < m.length) := by
  rcases Nat.lt_or_ge i l.length with hl | hl
  · have hm : m.length ≤ i := by omega
    rw [List.drop_eq_nil_of_le hm, List.drop_eq_getElem_cons hl]
    simp [lessL]; omega
  · rcases Nat.lt_or_ge i m.length with hm | hm
    · rw [List.drop_eq_nil_of_le hl, List.drop_eq_getElem_cons hm]
      simp [lessL]; omega
    · rw [List.drop_eq_nil_of_le hl, List.drop_eq_nil_of_le hm]
      simp [lessL]; omega
theorem lessL_same (s t : ByteArray) (l m : List Nat) (i p q : Nat) (hl : l[i]? = some p) (hm : m[i]? = some q) (h : wt s p = wt t q) : lessL s t (l.drop i) (m.drop i) = lessL s t (l.drop (i + 1)) (m.drop (i + 1)) := by
  obtain ⟨h1, rfl⟩ := List.getElem?_eq_some_iff.1 hl
  obtain ⟨h2, rfl⟩ := List.getElem?_eq_some_iff.1 hm
  rw [List.drop_eq_getElem_cons h1, List.drop_eq_getElem_cons h2]
  simp [lessL, h]
theorem lessL_ne (s t : ByteArray) (l m : List Nat) (i p q : Nat) (hl : l[i]? = some p) (hm : m[i]? = some q) (h : ¬ wt s p = wt t q) : lessL s t (l.drop i) (m.drop i) = decide (wt s p < wt t q) := by
  obtain ⟨h1, rfl⟩ := List.getElem?_eq_some_iff.1 hl
  obtain ⟨h2, rfl⟩ := List.getElem?_eq_some_iff.1 hm
  rw [List.drop_eq_getElem_cons h1, List.drop_eq_getElem_cons h2]
  simp [lessL, h]

def LessInv (a b : ByteArray) (B : Nat) (w wr : World) (x y : Value) (i : Nat) : Prop :=
  PiecesAt a B wr x ∧ PiecesAt b B wr y ∧ Below B w wr ∧ i ≤ (starts a).length ∧ i ≤ (starts b).length ∧ less a b = lessL a b ((starts a).drop i) ((starts b).drop i)

end Go.Proofs.YtmbekgfbnapelaaDoor
