/-
  WALKS: runes.Len, runes.Broken with its closure; cognateref01.Pieces, Len, Broken.
-/
import Derived.Test.YtmbekgfbnapelaaDoorStartsP
import Derived.Test.YtmbekgfbnapelaaDoorWalkB
import Derived.Test.YtmbekgfbnapelaaDoorRefLess
namespace Go.Proofs.YtmbekgfbnapelaaDoor
open Go.RowKit Go.Lib
set_option linter.unusedVariables false

def firstB (s : ByteArray) : List Nat → Int
  | [] => -1
  | p :: l => if brk s p then p else firstB s l
theorem firstB_ge (s : ByteArray) : ∀ l, -1 ≤ firstB s l
  | [] => by simp [firstB]
  | p :: l => by
    have := firstB_ge s l
    unfold firstB
    split <;> omega
theorem firstB_snoc_yes (s : ByteArray) (p : Nat) : ∀ l, firstB s l < 0 → brk s p = true → firstB s (l ++ [p]) = p
  | [], _, h => by simp [firstB, h]
  | q :: l, h, hp => by
    unfold firstB at h
    cases hq : brk s q with
    | true => rw [hq] at h; simp at h; omega
    | false =>
      rw [hq] at h
      have ih := firstB_snoc_yes s p l (by simpa using h) hp
      simp [firstB, hq, ih]
theorem firstB_snoc_no (s : ByteArray) (p : Nat) : ∀ l, (0 ≤ firstB s l ∨ brk s p = false) → firstB s (l ++ [p]) = firstB s l
  | [], h => by
    rcases h with h | h
    · simp [firstB] at h
    · simp [firstB, h]
  | q :: l, h => by
    cases hq : brk s q with
    | true => simp [firstB, hq]
    | false =>
      have ih := firstB_snoc_no s p l (by unfold firstB at h; rw [hq] at h; simpa using h)
      simp [firstB, hq, ih]
theorem firstB_drop_yes (s : ByteArray) (l : List Nat) (i p : Nat) (h : l[i]? = some p) (hp : brk s p = true) : firstB s (l.drop i) = p := by
  obtain ⟨h1, rfl⟩ := List.getElem?_eq_some_iff.1 h
  rw [List.drop_eq_getElem_cons h1]
  simp [firstB, hp]
theorem firstB_drop_no (s : ByteArray) (l : List Nat) (i p : Nat) (h : l[i]? = some p) (hp : brk s p = false) : firstB s (l.drop i) = firstB s (l.drop (i + 1)) := by
  obtain ⟨h1, rfl⟩ := List.getElem?_eq_some_iff.1 h
  rw [List.drop_eq_getElem_cons h1]
  simp [firstB, hp]
theorem firstB_le (s : ByteArray) : ∀ l : List Nat, (∀ p ∈ l, p < s.size) → firstB s l ≤ s.size
  | [], _ => by simp [firstB]
  | p :: l, h => by
    have := firstB_le s l (fun q hq => h q (by simp [hq]))
    have := h p (by simp)
    unfold firstB
    split <;> omega

theorem ret_t {k : IntKind} {a b : Int} {v : Value} (h : a = b) : Ending.returned (.tuple #[.int k a, v]) = .returned (.tuple #[.int k b, v]) := by rw [h]

/-! ### Len -/
/-! ### Broken -/
def BrkInv (s : ByteArray) (B L : Nat) (l : List Nat) (w : World) : Prop := B ≤ L ∧ w.heap[L]? = some (.cells #[.int .i64 (firstB s l)] 3 (0, 0))
theorem BrkInv.new {s : ByteArray} {B L : Nat} (l : List Nat) (w w' : World) (h : BrkInv s B L l w) (hb : Below w.heap.size w w') : BrkInv s B L l w' :=
  ⟨h.1, (hb.block L (lt_of_block h.2)).trans h.2⟩
theorem BrkInv.iter {s : ByteArray} {B L : Nat} (l : List Nat) (w : World) (k q r : Nat) (h : BrkInv s B L l w) (hk : w.heap[k]? = some (.stringIter s q)) : BrkInv s B L l (w.iterAt k s r) :=
  ⟨h.1, one_iterAt h.2 hk r⟩

/-! ### the document's answer -/
end Go.Proofs.YtmbekgfbnapelaaDoor
