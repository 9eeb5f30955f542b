/-
  PLAIN: a slice of bytes of the call's own.
-/
import Derived.Test.YtmbekgfbnapelaaDoorTextT
namespace Go.Proofs.YtmbekgfbnapelaaDoor
open Go.RowKit Go.Lib
set_option linter.unusedVariables false

theorem byte_info : (Tryd.prog.info? 5).map (fun i => (i.zero, i.size, i.bytes)) = some (some (.int .u8 0), 1, 1) := by kernel_rfl
theorem byteCells_one (l : List UInt8) : ∀ u ∈ byteCells l, u.oneCell' = true := by
  intro u hu
  simp only [byteCells, List.mem_map] at hu
  obtain ⟨b, _, rfl⟩ := hu
  rfl

/-- A slice of bytes of the call's own. -/
def OutAt (B : Nat) (l : List UInt8) (w : World) (v : Value) : Prop := w.ownsRow B 5 1 v l.length (byteCells l)
theorem OutAt.conv {B : Nat} {l : List UInt8} {w : World} {v : Value} (h : OutAt B l w v) : (convert 60 9 v).run Tryd.prog w = .ok (.string (strOf l)) w := conv_own h rfl
theorem take_snoc_text (ns : List Int) (i : Nat) (n : Int) (h : ns[i]? = some n) : textL (ns.take i) ++ encL n = textL (ns.take (i + 1)) := by
  obtain ⟨h1, rfl⟩ := List.getElem?_eq_some_iff.1 h
  rw [textL_snoc, List.take_succ_eq_append_getElem h1]
theorem textL_take_le (ns : List Int) (i : Nat) : (textL (ns.take i)).length ≤ 4 * i := by
  have := textL_length (ns.take i)
  have h2 : (ns.take i).length ≤ i := List.length_take_le _ _
  omega

theorem ret_s {a b : ByteArray} {v : Value} (h : a = b) : Ending.returned (.tuple #[.string a, v]) = .returned (.tuple #[.string b, v]) := by rw [h]
def BackPost (s : ByteArray) (w : World) (e : Ending) (w' : World) : Prop := e = .returned (.tuple #[.string (strOf (backL s)), .int .i64 0]) ∧ Below w.heap.size w w'

theorem runesL_at (s : ByteArray) (i p : Nat) (h : (starts s)[i]? = some p) : (runesL s)[i]? = some (dR s p : Int) := by simp [runesL, h]

/-- Rows of two kinds of elements are two blocks. -/
theorem own_apart {w : World} {B B' e e' size size' n n' : Nat} {v v' : Value} {xs xs' : List Value} (h : w.ownsRow B e size v n xs) (h' : w.ownsRow B' e' size' v' n' xs') (hne : e ≠ e') : v'.ownBlock = none ∨ v'.ownBlock ≠ v.ownBlock := by
  rcases h'.2 with ⟨rfl, _⟩ | ⟨g', c', cur', rfl, _, hg', _⟩
  · exact .inl rfl
  · rcases h.2 with ⟨rfl, _⟩ | ⟨g, c, cur, rfl, _, hg, _⟩
    · exact .inr (by simp [Value.ownBlock])
    · refine .inr ?_
      simp only [Value.ownBlock, ne_eq, Option.some.injEq]
      intro e
      subst e
      rw [hg] at hg'
      simp only [Option.some.injEq, Obj.cells.injEq] at hg'
      exact hne hg'.2.1

end Go.Proofs.YtmbekgfbnapelaaDoor
