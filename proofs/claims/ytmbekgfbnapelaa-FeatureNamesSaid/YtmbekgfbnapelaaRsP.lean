/-
  PLAIN: a row of runes in memory.
-/
import Derived.Test.YtmbekgfbnapelaaFeatP
namespace Go.Proofs.Ytmbekgfbnapelaa
open Go.RowKit Go.Lib
set_option linter.unusedVariables false

structure RsIn (pr : Option Addr) (br r0 : Nat) (l : List Int) (w : World) : Prop where
  at_ : 0 < l.length → pr = some ⟨br, r0, none⟩
  cells : ∀ j, j < l.length → w.cell? ⟨br, r0 + j, none⟩ = some (.int .i32 (l.getD j 0))
  big : l.length ≤ 140737488355328
theorem RsIn.next {pr : Option Addr} {br r0 : Nat} {l : List Int} {w w' : World} (h : RsIn pr br r0 l w) (hb : RowKit.Below w.heap.size w w') : RsIn pr br r0 l w' :=
  ⟨h.at_, fun j hj => by have h1 := h.cells j hj; rw [hb.cell (p := ⟨br, r0 + j, none⟩) (lt_of_cell h1)]; exact h1, h.big⟩

/-- A row of runes that a call made, as RsIn. -/
theorem own_rs {w : World} {B : Nat} {v : Value} {l : List Int} (h : w.ownsRow B 21 1 v l.length (l.map E32)) (hb : l.length ≤ 140737488355328) : ∃ pr br cr, v = .slice pr l.length cr ∧ RsIn pr br 0 l w := by
  rcases h.2 with ⟨rfl, hn⟩ | ⟨g, cap, cur, rfl, _⟩
  · exact ⟨none, 0, 0, by rw [hn], ⟨fun h => absurd h (by omega), fun j hj => absurd hj (by omega), hb⟩⟩
  · refine ⟨_, g, cap, rfl, ⟨fun _ => rfl, fun j hj => ?_, hb⟩⟩
    rw [Nat.zero_add, h.cellAt j (by omega), List.getElem?_map, List.getD_eq_getElem?_getD, List.getElem?_eq_getElem hj]
    rfl

/-- Where a rune stands first, from k on; -1: nowhere. -/
def idxI : List Int → Int → Nat → Int
  | [], _, _ => -1
  | y :: l, x, k => if x = y then (k : Int) else idxI l x (k + 1)
theorem idxI_end (l : List Int) (x : Int) (k : Nat) (h : l.length ≤ k) : idxI (l.drop k) x k = -1 := by rw [List.drop_eq_nil_of_le h]; rfl
theorem getD_at {l : List Int} {k : Nat} (hk : k < l.length) : l.getD k 0 = l[k] := by rw [List.getD_eq_getElem?_getD, List.getElem?_eq_getElem hk]; rfl
theorem idxI_yes (l : List Int) (x : Int) (k : Nat) (hk : k < l.length) (h : x = l.getD k 0) : idxI (l.drop k) x k = k := by
  rw [List.drop_eq_getElem_cons hk, idxI, if_pos (by rw [h, getD_at hk])]
theorem idxI_no (l : List Int) (x : Int) (k : Nat) (hk : k < l.length) (h : ¬ x = l.getD k 0) : idxI (l.drop k) x k = idxI (l.drop (k + 1)) x (k + 1) := by
  rw [List.drop_eq_getElem_cons hk, idxI, if_neg (by rw [← getD_at hk]; exact h)]
theorem idxI_ge : ∀ (l : List Int) (x : Int) (k : Nat), -1 ≤ idxI l x k
  | [], _, _ => by simp [idxI]
  | y :: l, x, k => by
    have := idxI_ge l x (k + 1)
    unfold idxI
    split <;> omega
theorem idxI_mem : ∀ (l : List Int) (x : Int) (k : Nat), 0 ≤ idxI l x k ↔ x ∈ l
  | [], _, _ => by simp [idxI]
  | y :: l, x, k => by
    have ih := idxI_mem l x (k + 1)
    unfold idxI
    split
    · rename_i h; subst h; simp
    · rename_i h; rw [ih, List.mem_cons]; exact ⟨Or.inr, fun h' => h'.resolve_left h⟩
end Go.Proofs.Ytmbekgfbnapelaa
