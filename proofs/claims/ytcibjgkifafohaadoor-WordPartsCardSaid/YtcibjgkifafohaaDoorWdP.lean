/-
  PLAIN: what chapter 3 says of a word's letters, on lists.
-/
import Derived.Test.YtcibjgkifafohaaDoorWd2
import Derived.Test.YtcibjgkifafohaaDoorFeat8
namespace Go.Proofs.YtcibjgkifafohaaDoor
open Go.RowKit Go.Lib
set_option linter.unusedVariables false

/-- An alphabet's runes in its order. -/
def rowL (A : Al) : List Int := A.ls.map Ltr.r
/-- The error of a text's pieces, k letters ahead of them. -/
def rdE (row : List Int) (s : ByteArray) : List Nat → Nat → Int
  | [], _ => 0
  | p :: l, k => if brk s p = true then 6 else if (dR s p : Int) ∈ row then (if k = 64 then 4 else rdE row s l (k + 1)) else 5
/-- What of a text is looked at. -/
def cutW (s : ByteArray) : ByteArray := s.extract 0 (if s.size ≤ 260 then s.size else 260)
def rdW (row : List Int) (s : ByteArray) : Int := rdE row (cutW s) (starts (cutW s)) 0
theorem cutW_size (s : ByteArray) : (cutW s).size ≤ 260 := by
  unfold cutW
  split <;> simp <;> omega
theorem starts_le (s : ByteArray) : (starts s).length ≤ s.size := by simpa [starts] using startsF_le s s.size 0

theorem rdE_brk {row : List Int} {s : ByteArray} {k p : Nat} (h : (starts s)[k]? = some p) (hb : brk s p = true) : rdE row s ((starts s).drop k) k = 6 := by
  obtain ⟨h1, rfl⟩ := List.getElem?_eq_some_iff.1 h
  rw [List.drop_eq_getElem_cons h1, rdE, if_pos hb]
theorem rdE_not {row : List Int} {s : ByteArray} {k p : Nat} (h : (starts s)[k]? = some p) (hb : brk s p = false) (hm : ¬ (dR s p : Int) ∈ row) : rdE row s ((starts s).drop k) k = 5 := by
  obtain ⟨h1, rfl⟩ := List.getElem?_eq_some_iff.1 h
  rw [List.drop_eq_getElem_cons h1, rdE, if_neg (by rw [hb]; decide), if_neg hm]
theorem rdE_many {row : List Int} {s : ByteArray} {p : Nat} (h : (starts s)[64]? = some p) (hb : brk s p = false) (hm : (dR s p : Int) ∈ row) : rdE row s ((starts s).drop 64) 64 = 4 := by
  obtain ⟨h1, rfl⟩ := List.getElem?_eq_some_iff.1 h
  rw [List.drop_eq_getElem_cons h1, rdE, if_neg (by rw [hb]; decide), if_pos hm, if_pos rfl]
theorem rdE_on {row : List Int} {s : ByteArray} {k p : Nat} (h : (starts s)[k]? = some p) (hb : brk s p = false) (hm : (dR s p : Int) ∈ row) (hk : ¬ k = 64) : rdE row s ((starts s).drop k) k = rdE row s ((starts s).drop (k + 1)) (k + 1) := by
  obtain ⟨h1, rfl⟩ := List.getElem?_eq_some_iff.1 h
  rw [List.drop_eq_getElem_cons h1, rdE, if_neg (by rw [hb]; decide), if_pos hm, if_neg hk]
theorem rdE_end {row : List Int} {s : ByteArray} {k : Nat} (h : (starts s).length ≤ k) : rdE row s ((starts s).drop k) k = 0 := by
  rw [List.drop_eq_nil_of_le h]; rfl
theorem runesL_snoc {s : ByteArray} {k p : Nat} (h : (starts s)[k]? = some p) : (runesL s).take (k + 1) = (runesL s).take k ++ [(dR s p : Int)] := by
  obtain ⟨h1, rfl⟩ := List.getElem?_eq_some_iff.1 h
  rw [List.take_succ_eq_append_getElem (by rw [runesL_length]; exact h1)]
  simp [runesL]

/-! ### the class without features -/
theorem hasB_zero (l : Ltr) : hasB l 0 0 = true := by unfold hasB; simp
theorem clsL_zero (ls : List Ltr) : clsL ls 0 0 = ls.map Ltr.r := by
  unfold clsL
  congr 1
  exact List.filter_eq_self.2 fun l _ => hasB_zero l
end Go.Proofs.YtcibjgkifafohaaDoor
