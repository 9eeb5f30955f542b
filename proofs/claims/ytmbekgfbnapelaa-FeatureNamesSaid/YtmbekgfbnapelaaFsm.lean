/-
  PLAIN: like alphabets answer alike; what a law keeps from call to call.
-/
import Derived.Test.YtmbekgfbnapelaaAlk
namespace Go.Proofs.Ytmbekgfbnapelaa
open Go.RowKit Go.Lib
set_option linter.unusedVariables false

theorem al_ok_same {A A' : Al} (e1 : A'.fs = A.fs) (e2 : A'.ls = A.ls) : A'.ok = A.ok := by unfold Al.ok; rw [e1, e2]
theorem ofR_same {A A' : Al} (e1 : A'.fs = A.fs) (e2 : A'.ls = A.ls) (x : Int) : ofR A' x = ofR A x := by unfold ofR; rw [al_ok_same e1 e2, e2]
theorem lacR_same {A A' : Al} (e1 : A'.fs = A.fs) (e2 : A'.ls = A.ls) (x : Int) (p m : Nat) : lacR A' x p m = lacR A x p m := by unfold lacR; rw [ofR_same e1 e2, e1]
theorem hasR_same {A A' : Al} (e1 : A'.fs = A.fs) (e2 : A'.ls = A.ls) (x : Int) (p m : Nat) : hasR A' x p m = hasR A x p m := by unfold hasR; rw [lacR_same e1 e2]
theorem aacR_same {A A' : Al} (e1 : A'.fs = A.fs) (e2 : A'.ls = A.ls) (p m : Nat) : aacR A' p m = aacR A p m := by unfold aacR; rw [al_ok_same e1 e2, e1]
theorem clsR_same {A A' : Al} (e1 : A'.fs = A.fs) (e2 : A'.ls = A.ls) (p m : Nat) : clsR A' p m = clsR A p m := by unfold clsR; rw [aacR_same e1 e2, e2]
theorem farR_same {A A' : Al} (e1 : A'.fs = A.fs) (e2 : A'.ls = A.ls) (x y : Int) : farR A' x y = farR A x y := by unfold farR; rw [ofR_same e1 e2, e2]
theorem nearR_same {A A' : Al} (e1 : A'.fs = A.fs) (e2 : A'.ls = A.ls) (x : Int) (p m : Nat) : nearR A' x p m = nearR A x p m := by unfold nearR; rw [lacR_same e1 e2, e2]
theorem chk_same {A A' : Al} (e1 : A'.fs = A.fs) (e2 : A'.ls = A.ls) : chk A' = chk A := by unfold chk; rw [al_ok_same e1 e2]
theorem Bx.made {A : Al} {F L : Value} {w w2 : World} (h : A.In w2) (hb : Below w.heap.size w w2) : Bx A F L w w2.heap.size (w2.alloc (.cells #[F, L] 26)) :=
  ⟨h.alloc _, by simp, by simp, hb.alloc hb.size _, by simp⟩
/-- Three cells of a block. -/
structure O3 (b : Nat) (x y z : Value) (w : World) : Prop where
  c0 : w.cell? ⟨b, 0, none⟩ = some x
  c1 : w.cell? ⟨b, 1, none⟩ = some y
  c2 : w.cell? ⟨b, 2, none⟩ = some z
  lt : b < w.heap.size
theorem O3.next {b : Nat} {x y z : Value} {w w' : World} (h : O3 b x y z w) (hb : Below w.heap.size w w') : O3 b x y z w' :=
  ⟨(hb.cell (p := ⟨b, 0, none⟩) h.lt).trans h.c0, (hb.cell (p := ⟨b, 1, none⟩) h.lt).trans h.c1, (hb.cell (p := ⟨b, 2, none⟩) h.lt).trans h.c2, Nat.lt_of_lt_of_le h.lt hb.size⟩
theorem O3.made (w : World) (x y z : Value) (t : TypeId) : O3 w.heap.size x y z (w.alloc (.cells #[x, y, z] t)) := ⟨by simp, by simp, by simp, by simp⟩
/-- A row of runes of the call's own. -/
def Rw (B : Nat) (v : Value) (l : List Int) (w : World) : Prop := w.ownsRow B 21 1 v l.length (l.map E32)
theorem Rw.next {B : Nat} {v : Value} {l : List Int} {w w' : World} (h : Rw B v l w) (hb : Below w.heap.size w w') : Rw B v l w' := ownF_below h hb
/-- From a world on nothing below has turned. -/
structure Sn (w0 w : World) : Prop where
  b : Below w0.heap.size w0 w
theorem Sn.next {w0 w w' : World} (h : Sn w0 w) (hb : Below w.heap.size w w') : Sn w0 w' := ⟨h.b.trans (hb.mono h.b.size)⟩

theorem leastR_same {A A' : Al} (e1 : A'.fs = A.fs) (e2 : A'.ls = A.ls) (l : List Int) : leastR A' l = leastR A l := by unfold leastR; rw [al_ok_same e1 e2, e1, e2]
theorem textR_same {A A' : Al} (e1 : A'.fs = A.fs) (e2 : A'.ls = A.ls) (p m : Nat) : textR A' p m = textR A p m := by unfold textR; rw [aacR_same e1 e2, e1]
theorem parR_same {A A' : Al} (e1 : A'.fs = A.fs) (e2 : A'.ls = A.ls) (s : ByteArray) : parR A' s = parR A s := by unfold parR; rw [al_ok_same e1 e2, e1]
theorem bitR_same {A A' : Al} (e1 : A'.fs = A.fs) (e2 : A'.ls = A.ls) (s : ByteArray) : bitR A' s = bitR A s := by unfold bitR bitI; rw [al_ok_same e1 e2, e1]
end Go.Proofs.Ytmbekgfbnapelaa
