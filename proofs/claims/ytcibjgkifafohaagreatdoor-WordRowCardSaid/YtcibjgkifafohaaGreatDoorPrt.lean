/-
  WALKS: cognatelaw03.WordParts where a word may not be.
-/
import Derived.Test.YtcibjgkifafohaaGreatDoorWdA
namespace Go.Proofs.YtcibjgkifafohaaGreatDoor
open Go.RowKit Go.Lib
set_option linter.unusedVariables false

/-- A law's world: the alphabet's value lies in box b. -/
structure Wx (A : Al) (F L : Value) (w : World) (b : Nat) (wk : World) : Prop where
  i : A.In wk
  t : Tabs wk
  c0 : wk.cell? ⟨b, 0, none⟩ = some F
  c1 : wk.cell? ⟨b, 1, none⟩ = some L
  below : Below w.heap.size w wk
  lt : b < wk.heap.size
theorem Wx.next {A : Al} {F L : Value} {w : World} {b : Nat} {wk w' : World} (h : Wx A F L w b wk) (hb : Below wk.heap.size wk w') : Wx A F L w b w' :=
  ⟨h.i.next hb, h.t.next hb, (hb.cell (p := ⟨b, 0, none⟩) h.lt).trans h.c0, (hb.cell (p := ⟨b, 1, none⟩) h.lt).trans h.c1, h.below.trans (hb.mono h.below.size), Nat.lt_of_lt_of_le h.lt hb.size⟩
theorem Wx.alloc {A : Al} {F L : Value} {w : World} {b : Nat} {wk : World} (h : Wx A F L w b wk) (o : Obj) : Wx A F L w b (wk.alloc o) := h.next ((Below.refl _ _).alloc (Nat.le_refl _) _)
theorem Wx.start {A : Al} {F L : Value} {w : World} (h : A.In w) (hT : Tabs w) : Wx A F L w w.heap.size (w.alloc (.cells #[F, L] 25)) :=
  ⟨h.alloc _, hT.next ((Below.refl _ _).alloc (Nat.le_refl _) _), by simp, by simp, (Below.refl _ _).alloc (Nat.le_refl _) _, by simp⟩
theorem awake_w (A : Al) (W : World) (_ : A.In W) (hT : Tabs W) : Calls Tryz.prog 4 #[] W fun e w' => e = .returned (.bool true) ∧ Below W.heap.size W w' := awake_any W hT

end Go.Proofs.YtcibjgkifafohaaGreatDoor
