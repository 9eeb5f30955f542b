/-
  WALKS OF THE DOCUMENT's ANSWER: cognateref01.All: the pieces of any text, in new memory.
-/
import Derived.Test.YtcibjgkifafohaaGreatDoorAt2
import Derived.Laws.OwnMore
namespace Go.Proofs.YtcibjgkifafohaaGreatDoor
open Go.RowKit Go.Lib
set_option linter.unusedVariables false

/-- A piece's four cells. -/
def pieceC (s : ByteArray) (p : Nat) : List Value := [.int .i32 (dR s p), .int .i64 p, .int .i64 (dW s p), .bool (brk s p)]
def pieceCs (s : ByteArray) (l : List Nat) : List Value := l.flatMap (pieceC s)
theorem pieceCs_snoc (s : ByteArray) (l : List Nat) (p : Nat) : pieceCs s l ++ pieceC s p = pieceCs s (l ++ [p]) := by simp [pieceCs]
theorem pieceCs_length (s : ByteArray) (l : List Nat) : (pieceCs s l).length = 4 * l.length := by
  induction l with
  | nil => rfl
  | cons a l ih => simp only [pieceCs, List.flatMap_cons, List.length_append] at ih ⊢; rw [ih]; simp [pieceC]; omega

theorem own_below {w w' : World} {B e size n : Nat} {v : Value} {xs : List Value} (h : w.ownsRow B e size v n xs) (hb : Below w.heap.size w w') : w'.ownsRow B e size v n xs :=
  h.kept (row := none) ⟨hb.os, hb.tape, hb.output, hb.size, fun k hk _ => hb.block k hk⟩ (by cases h : v.ownBlock <;> simp)
theorem own_base {w : World} {B B' e size n : Nat} {v : Value} {xs : List Value} (h : w.ownsRow B' e size v n xs) (hB : B ≤ B') : w.ownsRow B e size v n xs :=
  ⟨h.1, h.2.imp id (fun ⟨g, cap, cur, a, b, c⟩ => ⟨g, cap, cur, a, Nat.le_trans hB b, c⟩)⟩
theorem own_shape {w : World} {B e size n : Nat} {v : Value} {xs : List Value} (h : w.ownsRow B e size v n xs) : ∃ o c, v = .slice o n c := by
  rcases h.2 with ⟨a, b⟩ | ⟨g, cap, cur, a, b⟩
  · exact ⟨none, 0, by rw [a, b]⟩
  · exact ⟨_, _, a⟩

/-- What All leaves. -/
def PiecesAt (s : ByteArray) (B : Nat) (w' : World) (v : Value) : Prop := w'.ownsRow B 86 4 v (starts s).length (pieceCs s (starts s))
def AllPost (s : ByteArray) (w : World) (e : Ending) (w' : World) : Prop := ∃ v, e = .returned v ∧ PiecesAt s w.heap.size w' v ∧ Below w.heap.size w w'

def AllRel (s : ByteArray) (w : World) (v : Value) (pos : Nat) (wr : World) (l : List Nat) (f : Nat) : Prop :=
  wr.ownsRow w.heap.size 86 4 v l.length (pieceCs s l) ∧ Below w.heap.size w wr ∧ s.size ≤ pos + f ∧ starts s = l ++ startsF s f pos

theorem piece_info : (Tryz.prog.info? 86).map (fun i => (i.zero, i.size, i.bytes)) = some (some (.agg #[.int .i32 0, .int .i64 0, .int .i64 0, .bool false]), 4, 32) := by kernel_rfl

theorem startsF_cons (s : ByteArray) (f p : Nat) (h : p < s.size) (hf : s.size ≤ p + f) : startsF s f p = p :: startsF s (f - 1) (p + dW s p) := by
  cases f with
  | zero => omega
  | succ f => simp [startsF, h]

theorem cells_new (w : World) (s : ByteArray) (p : Nat) (t : TypeId) (b : Nat) (hb : b = w.heap.size) : ∀ j u, (pieceC s p)[j]? = some u → (w.alloc (.cells #[.int .i32 (dR s p), .int .i64 p, .int .i64 (dW s p), .bool (brk s p)] t)).cell? ((⟨b, 0, none⟩ : Addr).add j) = some u := by
  subst hb
  intro j u hj
  match j, hj with
  | 0, hj => simp [pieceC] at hj; subst hj; simp [Addr.add]
  | 1, hj => simp [pieceC] at hj; subst hj; simp [Addr.add]
  | 2, hj => simp [pieceC] at hj; subst hj; simp [Addr.add]
  | 3, hj => simp [pieceC] at hj; subst hj; simp [Addr.add]
  | (j + 4), hj => simp [pieceC] at hj
theorem cells_one (s : ByteArray) (p : Nat) : ∀ u ∈ pieceC s p, u.oneCell' = true := by
  intro u hu
  simp [pieceC] at hu
  rcases hu with rfl | rfl | rfl | rfl <;> rfl

end Go.Proofs.YtcibjgkifafohaaGreatDoor
