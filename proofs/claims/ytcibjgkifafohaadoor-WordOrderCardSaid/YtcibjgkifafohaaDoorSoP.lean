/-
  PLAIN: the words of a list as places in the row of all their letters.
-/
import Derived.Test.YtcibjgkifafohaaDoorCf
namespace Go.Proofs.YtcibjgkifafohaaDoor
open Go.RowKit Go.Lib
set_option linter.unusedVariables false

theorem enL_len (l : List ByteArray) (k : Nat) : (enL l k).length = k := by unfold enL; rw [List.length_map, List.length_range]
theorem enL_at (l : List ByteArray) (n k : Nat) (hk : k < n) : (enL l n).getD k 0 = (alL (l.take (k + 1))).length := by
  unfold enL
  rw [List.getD_eq_getElem?_getD, List.getElem?_map, List.getElem?_range hk]
  rfl
theorem enF_at (l : List ByteArray) (n k : Nat) (hk : k < n) : enF (enL l n) k = (alL (l.take k)).length := by
  unfold enF
  by_cases h : k = 0
  · subst h; rw [if_pos rfl]; rfl
  · rw [if_neg h, enL_at l n (k - 1) (by omega), show k - 1 + 1 = k by omega]
theorem alL_take (l : List ByteArray) (k : Nat) : alL l = alL (l.take k) ++ alL (l.drop k) := by
  unfold alL
  rw [← List.flatMap_append, List.take_append_drop]
theorem en_bounds (l : List ByteArray) (k : Nat) (hk : k < l.length) : enF (enL l l.length) k ≤ (enL l l.length).getD k 0 ∧ (enL l l.length).getD k 0 ≤ (alL l).length := by
  rw [enF_at l _ k hk, enL_at l _ k hk]
  have h1 := alL_snoc hk
  have h2 := alL_take l (k + 1)
  have e1 : (alL (l.take (k + 1))).length = (alL (l.take k)).length + (runesL (cutW (l.getD k ByteArray.empty))).length := by rw [h1, List.length_append]
  have e2 : (alL l).length = (alL (l.take (k + 1))).length + (alL (l.drop (k + 1))).length := by rw [← List.length_append, ← h2]
  omega
/-- The k-th word's letters. -/
theorem en_word (l : List ByteArray) (k : Nat) (hk : k < l.length) : subL (alL l) (enF (enL l l.length) k) ((enL l l.length).getD k 0) = runesL (cutW (l.getD k ByteArray.empty)) := by
  rw [enF_at l _ k hk, enL_at l _ k hk]
  have h1 := alL_snoc hk
  have h2 := alL_take l (k + 1)
  unfold subL
  rw [h2, h1, List.length_append, Nat.add_sub_cancel_left, List.append_assoc, List.drop_left, List.take_left]
def mkWP {n : Nat} (a b : Nat) (h : a ≤ b ∧ b ≤ n) : WP n := ⟨(a, b), h⟩
/-- The words' places. -/
def wpL (l : List ByteArray) : List (WP (alL l).length) :=
  List.ofFn fun i : Fin l.length => mkWP (enF (enL l l.length) i.1) ((enL l l.length).getD i.1 0) (en_bounds l i.1 i.2)
theorem wpL_len (l : List ByteArray) : (wpL l).length = l.length := by unfold wpL; rw [List.length_ofFn]
theorem wpL_at (l : List ByteArray) (k : Nat) (hk : k < l.length) : (wpL l)[k]? = some (mkWP (enF (enL l l.length) k) ((enL l l.length).getD k 0) (en_bounds l k hk)) := by
  unfold wpL
  rw [List.getElem?_ofFn, dif_pos hk]
theorem wpL_words (l : List ByteArray) : (wpL l).map (wordP (alL l)) = l.map fun s => runesL (cutW s) := by
  apply List.ext_getElem?
  intro k
  by_cases hk : k < l.length
  · rw [List.getElem?_map, wpL_at l k hk, List.getElem?_map, List.getElem?_eq_getElem hk]
    show some (subL (alL l) (enF (enL l l.length) k) ((enL l l.length).getD k 0)) = _
    rw [en_word l k hk, getS_at hk]
    rfl
  · rw [List.getElem?_eq_none (by rw [List.length_map, wpL_len]; omega), List.getElem?_eq_none (by rw [List.length_map]; omega)]
theorem wpL_cut (oa : Option Addr) (l : List ByteArray) : (wpL l).map (encP oa) = cutCs oa (enL l l.length) l.length := by
  apply List.ext_getElem?
  intro k
  unfold cutCs
  by_cases hk : k < l.length
  · rw [List.getElem?_map, wpL_at l k hk, List.getElem?_map, List.getElem?_range hk]
    rfl
  · rw [List.getElem?_eq_none (by rw [List.length_map, wpL_len]; omega), List.getElem?_eq_none (by rw [List.length_map, List.length_range]; omega)]
end Go.Proofs.YtcibjgkifafohaaDoor
