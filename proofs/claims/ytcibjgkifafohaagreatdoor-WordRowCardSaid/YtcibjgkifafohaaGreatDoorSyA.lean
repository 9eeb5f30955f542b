/-
  WALKS: word.lettersAndPeaks, Peaks.
  WALKS: word.begin, Syllables.
-/
import Derived.Test.YtcibjgkifafohaaGreatDoorWdW
namespace Go.Proofs.YtcibjgkifafohaaGreatDoor
open Go.RowKit Go.Lib
set_option linter.unusedVariables false

/-- The numbers ahead of k of the letters that are in C. -/
def pkT (l C : List Int) (k : Nat) : List Nat := (List.range k).filter fun j => decide (l.getD j 0 ∈ C)
theorem pkT_yes {l C : List Int} {k : Nat} (h : l.getD k 0 ∈ C) : pkT l C (k + 1) = pkT l C k ++ [k] := by
  unfold pkT
  rw [List.range_succ, List.filter_append]
  simp only [List.filter_cons, List.filter_nil, decide_eq_true h, if_true]
theorem pkT_no {l C : List Int} {k : Nat} (h : ¬ l.getD k 0 ∈ C) : pkT l C (k + 1) = pkT l C k := by
  unfold pkT
  rw [List.range_succ, List.filter_append]
  simp only [List.filter_cons, List.filter_nil, decide_eq_false h, if_false, List.append_nil, Bool.false_eq_true]
theorem pkT_le (l C : List Int) (k : Nat) : (pkT l C k).length ≤ k := by
  unfold pkT
  have := List.length_filter_le (fun j => decide (l.getD j 0 ∈ C)) (List.range k)
  rw [List.length_range] at this
  exact this
def pkE (A : Al) (s : ByteArray) (p m : Nat) : Int := if letE A s = 0 then aacR A p m else letE A s
def pkL (A : Al) (s : ByteArray) (p m : Nat) : List Nat := if pkE A s p m = 0 then pkT (letL A s) (clsR A p m) (letL A s).length else []
def pkN (A : Al) (s : ByteArray) (p m : Nat) : Nat := if pkE A s p m = 0 then (letL A s).length else 0
def LapPost (n : Nat) (P : List Nat) (E : Int) (w : World) (e : Ending) (w' : World) : Prop :=
  ∃ v : Value, e = .returned (.tuple #[.int .i64 (n : Nat), v, .int .i64 E]) ∧ w'.ownsRow w.heap.size 3 1 v P.length (P.map E64) ∧ Below w.heap.size w w'
theorem c_cls {A : Al} {p m : Nat} {W : World} (hp : p < 4294967296) (hm : m < 4294967296) (h : aacR A p m = 0) (hlen : (clsR A p m).length ≤ 140737488355328) (hA : A.In W) :
    Calls Tryz.prog 41 #[A.v, .int .u32 p, .int .u32 m] W fun e w' => ∃ pr br cr, e = .returned (.tuple #[.slice pr (clsR A p m).length cr, .int .i64 0]) ∧ RsIn pr br 0 (clsR A p m) w' ∧ Below W.heap.size W w' := by
  refine (class_any A p m W hA hp hm).mono ?_
  rintro e w' ⟨v, he, ho, hb⟩
  obtain ⟨pr, br, cr, rfl, hr⟩ := own_rs ho hlen
  rw [h] at he
  exact ⟨pr, br, cr, he, hr, hb⟩
theorem cls_len (A : Al) (p m : Nat) : (clsR A p m).length ≤ A.ls.length := by
  unfold clsR
  split
  · unfold clsL
    rw [List.length_map]
    exact List.length_filter_le _ _
  · exact Nat.zero_le _
theorem c_clsno {A : Al} {p m : Nat} {W : World} (hp : p < 4294967296) (hm : m < 4294967296) (h : ¬ aacR A p m = 0) (hA : A.In W) :
    Calls Tryz.prog 41 #[A.v, .int .u32 p, .int .u32 m] W fun e w' => ∃ o c, e = .returned (.tuple #[.slice o 0 c, .int .i64 (aacR A p m)]) ∧ Below W.heap.size W w' := by
  refine (class_any A p m W hA hp hm).mono ?_
  rintro e w' ⟨v, he, ho, hb⟩
  have h0 : clsR A p m = [] := by unfold clsR; rw [if_neg h]
  rw [h0] at ho
  obtain ⟨o, c, rfl⟩ := own_shape ho
  exact ⟨o, c, he, hb⟩

/-! ### Peaks -/
def PksPost (P : List Nat) (E : Int) (w : World) (e : Ending) (w' : World) : Prop :=
  ∃ v : Value, e = .returned (.tuple #[v, .int .i64 E]) ∧ w'.ownsRow w.heap.size 3 1 v P.length (P.map E64) ∧ Below w.heap.size w w'
end Go.Proofs.YtcibjgkifafohaaGreatDoor
namespace Go.Proofs.YtcibjgkifafohaaGreatDoor
open Go.RowKit Go.Lib
set_option linter.unusedVariables false

/-- Where a peak's syllable begins behind an earlier peak. -/
def begN (e p : Nat) : Nat := max (p - 1) (e + 1)
def sylT (P : List Nat) (n i : Nat) : Nat := if i + 1 < P.length then begN (P.getD i 0) (P.getD (i + 1) 0) else n
def sylF (P : List Nat) (n i : Nat) : Nat := if i = 0 then 0 else sylT P n (i - 1)
def spanC (P : List Nat) (n i : Nat) : List Value := [.int .i64 (sylF P n i : Nat), .int .i64 (sylT P n i : Nat)]
def spanCs (P : List Nat) (n k : Nat) : List Value := (List.range k).flatMap (spanC P n)
theorem spanCs_snoc (P : List Nat) (n k : Nat) : spanCs P n k ++ spanC P n k = spanCs P n (k + 1) := by
  unfold spanCs
  rw [List.range_succ, List.flatMap_append]
  simp
theorem spanCs_len (P : List Nat) (n k : Nat) : (spanCs P n k).length = k * 2 := by
  induction k with
  | zero => rfl
  | succ k ih => rw [← spanCs_snoc, List.length_append, ih]; simp [spanC]; omega
theorem sylF_next (P : List Nat) (n i : Nat) : sylF P n (i + 1) = sylT P n i := by unfold sylF; rw [if_neg (by omega), Nat.add_sub_cancel]
/-- Rising numbers. -/
def Rising (P : List Nat) : Prop := ∀ i, i + 1 < P.length → P.getD i 0 < P.getD (i + 1) 0
theorem pkT_sorted (l C : List Int) (k : Nat) : (pkT l C k).Pairwise (· < ·) := by
  unfold pkT
  exact List.pairwise_lt_range.filter _
theorem getN_at {l : List Nat} {k : Nat} (hk : k < l.length) : l.getD k 0 = l[k] := by rw [List.getD_eq_getElem?_getD, List.getElem?_eq_getElem hk]; rfl
theorem pkT_rising (l C : List Int) (k : Nat) : Rising (pkT l C k) := by
  intro i hi
  have := List.pairwise_iff_getElem.1 (pkT_sorted l C k) i (i + 1) (by omega) hi (by omega)
  rw [getN_at (by omega), getN_at hi]
  exact this
theorem pkT_lt (l C : List Int) (k i : Nat) (hi : i < (pkT l C k).length) : (pkT l C k).getD i 0 < k := by
  rw [getN_at hi]
  have := List.getElem_mem hi
  unfold pkT at this
  exact List.mem_range.1 (List.mem_filter.1 this).1
theorem pkL_rising (A : Al) (s : ByteArray) (p m : Nat) : Rising (pkL A s p m) := by
  unfold pkL
  split
  · exact pkT_rising _ _ _
  · intro i hi; simp at hi
theorem pkL_lt (A : Al) (s : ByteArray) (p m : Nat) : ∀ i, i < (pkL A s p m).length → (pkL A s p m).getD i 0 < pkN A s p m := by
  unfold pkL pkN
  intro i hi
  by_cases h : pkE A s p m = 0
  · rw [if_pos h] at hi ⊢
    rw [if_pos h]
    exact pkT_lt _ _ _ _ hi
  · rw [if_neg h] at hi; simp at hi
theorem pkN_le (A : Al) (s : ByteArray) (p m : Nat) : pkN A s p m ≤ 260 := by
  unfold pkN
  split
  · exact letL_len A s
  · omega
theorem pkL_le (A : Al) (s : ByteArray) (p m : Nat) : (pkL A s p m).length ≤ 260 := by
  unfold pkL
  split
  · exact Nat.le_trans (pkT_le _ _ _) (letL_len A s)
  · simp

/-- A row of numbers in memory. -/
structure NsIn (pr : Option Addr) (br r0 : Nat) (l : List Nat) (w : World) : Prop where
  at_ : 0 < l.length → pr = some ⟨br, r0, none⟩
  cells : ∀ j, j < l.length → w.cell? ⟨br, r0 + j, none⟩ = some (.int .i64 (l.getD j 0 : Nat))
  big : l.length ≤ 140737488355328
theorem NsIn.next {pr : Option Addr} {br r0 : Nat} {l : List Nat} {w w' : World} (h : NsIn pr br r0 l w) (hb : RowKit.Below w.heap.size w w') : NsIn pr br r0 l w' :=
  ⟨h.at_, fun j hj => by have h1 := h.cells j hj; rw [hb.cell (p := ⟨br, r0 + j, none⟩) (lt_of_cell h1)]; exact h1, h.big⟩
theorem own_ns {w : World} {B : Nat} {v : Value} {l : List Nat} (h : w.ownsRow B 3 1 v l.length (l.map E64)) (hb : l.length ≤ 140737488355328) : ∃ pr br cr, v = .slice pr l.length cr ∧ NsIn pr br 0 l w := by
  rcases h.2 with ⟨rfl, hn⟩ | ⟨g, cap, cur, rfl, _⟩
  · exact ⟨none, 0, 0, by rw [hn], ⟨fun h => absurd h (by omega), fun j hj => absurd hj (by omega), hb⟩⟩
  · refine ⟨_, g, cap, rfl, ⟨fun _ => rfl, fun j hj => ?_, hb⟩⟩
    rw [Nat.zero_add, h.cellAt j (by omega), List.getElem?_map, getN_at hj, List.getElem?_eq_getElem hj]
    rfl
theorem pkL_no {A : Al} {s : ByteArray} {p m : Nat} (h : ¬ pkE A s p m = 0) : pkL A s p m = [] := by unfold pkL; rw [if_neg h]
end Go.Proofs.YtcibjgkifafohaaGreatDoor
