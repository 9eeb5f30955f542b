/-
  PLAIN: what is made of patterns: the program's answers, as lists of nodes.
-/
import Derived.Test.YtnlojgomildajaaOnp
namespace Go.Proofs.Ytnlojgomildajaa
open Go.RowKit Go.Lib
set_option linter.unusedVariables false
instance : Inhabited Tr := ⟨.nd 0 0 0 0 .nil⟩
noncomputable def treeB (ns : List Nd) : Bool := @decide (IsTree ns) (Classical.propDecidable _)
theorem treeB_iff (ns : List Nd) : treeB ns = true ↔ IsTree ns := by unfold treeB; exact @decide_eq_true_iff _ (Classical.propDecidable _)
theorem treeB_no {ns : List Nd} (h : treeB ns = false) : ¬ IsTree ns := fun t => by rw [(treeB_iff ns).2 t] at h; cases h
def tr0 (ns : List Nd) : Tr := tre ns 0
theorem tr0_at {ns : List Nd} (h : IsTree ns) : (tr0 ns).At ns 0 := tre_is h ns.length 0 (by omega) h.one
theorem tr0_sz {ns : List Nd} (h : IsTree ns) : (tr0 ns).sz = ns.length := tre_sz h
/-- How far the second loop is: of the trees tl, i are put. -/
structure SofarL (tl : List Tr) (i : Nat) (pre : List Nd) (st : List Int) : Prop where
  flats : pre ++ (ofL (tl.drop i)).flats (1 + pre.length) = (ofL tl).flats 1
  starts : st ++ (ofL (tl.drop i)).starts (1 + pre.length) = (ofL tl).starts 1
  sz : pre.length + (ofL (tl.drop i)).sz = (ofL tl).sz
theorem SofarL.start (tl : List Tr) : SofarL tl 0 [] [] := ⟨by simp, by simp, by simp⟩
theorem SofarL.step {tl : List Tr} {i : Nat} {pre : List Nd} {st : List Int} (h : SofarL tl i pre st) (hi : i < tl.length) : pre.length + (tl.getD i default).sz ≤ (ofL tl).sz ∧ SofarL tl (i + 1) (pre ++ (tl.getD i default).flat (1 + pre.length)) (st ++ [((1 + pre.length : Nat) : Int)]) := by
  have e : tl.drop i = tl.getD i default :: tl.drop (i + 1) := by
    rw [List.drop_eq_getElem_cons hi, List.getD_eq_getElem?_getD, List.getElem?_eq_getElem hi]; rfl
  have h1 := h.flats
  have h2 := h.starts
  have h3 := h.sz
  rw [e] at h1 h2 h3
  simp only [ofL, Ts.sz] at h3
  refine ⟨by omega, ?_, ?_, ?_⟩
  · rw [← h1, List.length_append, Tr.flat_length, List.append_assoc, ← Nat.add_assoc]
    rfl
  · rw [← h2, List.length_append, Tr.flat_length, List.append_assoc, ← Nat.add_assoc]
    rfl
  · rw [List.length_append, Tr.flat_length]
    omega
theorem SofarL.done {tl : List Tr} {pre : List Nd} {st : List Int} (h : SofarL tl tl.length pre st) : pre = (ofL tl).flats 1 ∧ st = (ofL tl).starts 1 := by
  have h1 := h.flats
  have h2 := h.starts
  rw [List.drop_length] at h1 h2
  simp only [ofL, Ts.flats, Ts.starts, List.append_nil] at h1 h2
  exact ⟨h1, h2⟩
/-- How many nodes some patterns have. -/
def allN (l : List (List Nd)) : Nat := (l.map List.length).sum
theorem allN_snoc (l : List (List Nd)) (x : List Nd) : allN (l ++ [x]) = allN l + x.length := by simp [allN]
/-- What comes of a node above some patterns: the error. -/
noncomputable def madeE (l : List (List Nd)) : Nat := if 256 < l.length then 4 else if l.all treeB = true then (if 256 < 1 + allN l then 4 else 0) else 40
def madeN (kind : Nat) (l : List (List Nd)) : List Nd := (Tr.nd kind 0 0 0 (ofL (l.map tr0))).flat 0
theorem made_sz {l : List (List Nd)} (h : l.all treeB = true) : (ofL (l.map tr0)).sz = allN l := by
  rw [ofL_sz, List.map_map]
  unfold allN
  congr 1
  apply List.map_congr_left
  intro ns hns
  exact tr0_sz ((treeB_iff ns).1 (List.all_eq_true.1 h ns hns))
theorem made_le {l : List (List Nd)} (h : l.all treeB = true) : allN l ≤ l.length * 256 := by
  induction l with
  | nil => simp [allN]
  | cons a l ih =>
    simp only [List.all_cons, Bool.and_eq_true] at h
    have := ih h.2
    have := ((treeB_iff a).1 h.1).most
    simp only [allN, List.map_cons, List.sum_cons, List.length_cons] at *
    omega
theorem madeN_length {kind : Nat} {l : List (List Nd)} (h : l.all treeB = true) : (madeN kind l).length = 1 + allN l := by
  unfold madeN
  rw [Tr.flat_length, Tr.sz, made_sz h]
theorem madeN_eq (kind : Nat) (l : List (List Nd)) : madeN kind l = ⟨kind, 0, 0, 0, (ofL (l.map tr0)).starts 1⟩ :: (ofL (l.map tr0)).flats 1 := rfl
/-- Turned, compared. -/
def turnN (ns : List Nd) : List Nd := (tr0 ns).turn.flat 0
def normN (ns : List Nd) : List Nd := (tr0 ns).flat 0
noncomputable def sameB (a b : List Nd) : Bool := treeB a && treeB b && @decide (normN a = normN b) (Classical.propDecidable _)
theorem sameB_iff (a b : List Nd) : sameB a b = true ↔ IsTree a ∧ IsTree b ∧ normN a = normN b := by
  unfold sameB
  rw [Bool.and_eq_true, Bool.and_eq_true, treeB_iff, treeB_iff, @decide_eq_true_iff _ (Classical.propDecidable _), and_assoc]
theorem sameB_self (a : List Nd) : sameB a a = treeB a := by
  rw [Bool.eq_iff_iff, sameB_iff, treeB_iff]
  exact ⟨fun h => h.1, fun h => ⟨h, h, rfl⟩⟩
theorem starts_bits : ∀ (ts : Ts) (b : Nat), b + ts.sz ≤ 1000000 → ∀ k ∈ ts.starts b, -9223372036854775808 ≤ k ∧ k ≤ 9223372036854775807
  | .nil, _, _, k, hk => absurd hk (by simp [Ts.starts])
  | .cons t ts, b, h, k, hk => by
    simp only [Ts.sz] at h
    rcases List.mem_cons.1 hk with rfl | hk
    · omega
    · exact starts_bits ts (b + t.sz) (by omega) k hk
end Go.Proofs.Ytnlojgomildajaa
