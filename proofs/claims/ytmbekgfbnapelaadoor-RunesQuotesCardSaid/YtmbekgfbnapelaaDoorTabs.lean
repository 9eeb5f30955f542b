/-
  unicode/utf8's two tables in a world; DecodeRuneInString of what is left of a text.
-/
import Derived.Test.YtmbekgfbnapelaaDoorShelf
import Derived.Test.YtmbekgfbnapelaaDoorRef1
import Derived.Lib.OthersKept
import Derived.Lib.RuneCountTail
import Derived.Shelf.Unicode.DecodeSlow
import Derived.Deep.RegionWith
import Derived.Deep.Cut
import Derived.Deep.CutRange
import Derived.Deep.LoopGhost
import Derived.LoopTactic
namespace Go.Proofs.YtmbekgfbnapelaaDoor
open Go.RowKit

/-- unicode/utf8's two tables lie as their initialisers lay them. -/
def Tabs (w : World) : Prop := Lib.Utf8Tabs 0 1 w ∧ 0 < w.heap.size ∧ 1 < w.heap.size

theorem Tabs.mk' {w : World} (h : Lib.Utf8Tabs 0 1 w) : Tabs w :=
  ⟨h, World.block_lt_of_cell? _ _ (h.1 0 (by omega)), World.block_lt_of_cell? _ _ (h.2 0 (by omega)).1⟩
theorem Tabs.below {w w' : World} {B : Nat} (h : Tabs w) (hB : 0 < B ∧ 1 < B) (hb : Below B w w') : Tabs w' :=
  ⟨⟨fun c hc => (hb.cell (p := ⟨0, c, none⟩) hB.1).trans (h.1.1 c hc), fun i hi => ⟨(hb.cell (p := ⟨1, 2 * i, none⟩) hB.2).trans (h.1.2 i hi).1, (hb.cell (p := ⟨1, 2 * i + 1, none⟩) hB.2).trans (h.1.2 i hi).2⟩⟩,
   Nat.lt_of_lt_of_le h.2.1 hb.size, Nat.lt_of_lt_of_le h.2.2 hb.size⟩
theorem Tabs.next {w w' : World} (h : Tabs w) (hb : Below w.heap.size w w') : Tabs w' := h.below h.2 hb

theorem below_undrew {B : Nat} {w w' : World} (h : Below B w.drew w') : Below B w w' := ⟨h.os, h.tape, h.output, h.size, h.block⟩
theorem Tabs.drew {w : World} (h : Tabs w) : Tabs w.drew := h
theorem Tabs.iterAt {w : World} (h : Tabs w) {k : Nat} {s : ByteArray} {q : Nat} (hk : w.heap[k]? = some (.stringIter s q)) (pos : Nat) : Tabs (w.iterAt k s pos) := by
  have key : ∀ b o v, w.cell? ⟨b, o, none⟩ = some v → (w.iterAt k s pos).cell? ⟨b, o, none⟩ = some v := by
    intro b o v hv
    have hne : b ≠ k := by
      intro e; subst e
      simp [World.cell?, hk] at hv
    rw [← hv]
    exact World.cell?_of_block (w := w) (Lib.iterAt_other w k b s pos hne)
  refine ⟨⟨fun c hc => key _ _ _ (h.1.1 c hc), fun i hi => ⟨key _ _ _ (h.1.2 i hi).1, key _ _ _ (h.1.2 i hi).2⟩⟩, ?_, ?_⟩
  · rw [Lib.iterAt_size]; exact h.2.1
  · rw [Lib.iterAt_size]; exact h.2.2

theorem decodeGo_cut (s : ByteArray) (p : Nat) (h : p < s.size) : Lib.decodeGo (s.extract p s.size) = (dR s p, dW s p) := by
  have e : ¬ (s.extract p s.size).size = 0 := by simp; omega
  unfold Lib.decodeGo
  rw [if_neg e, Lib.tail_decode, Nat.add_zero]
  rfl
theorem decodeGo_all (s : ByteArray) (h : 0 < s.size) : Lib.decodeGo s = (dR s 0, dW s 0) := by
  have e : ¬ s.size = 0 := by omega
  unfold Lib.decodeGo
  rw [if_neg e]
  rfl

theorem decode_cut (s : ByteArray) (p : Nat) (w : World) (h : p < s.size) (hT : Tabs w) :
    Calls Tryd.prog 73 #[.string (s.extract p s.size)] w fun e w' => e = .returned (.tuple #[.int .i32 (dR s p), .int .i64 (dW s p)]) ∧ Below w.heap.size w w' := by
  have := Tryd.utf8_DecodeRuneInString (s.extract p s.size) w hT.1
  rw [decodeGo_cut s p h] at this
  exact this

end Go.Proofs.YtmbekgfbnapelaaDoor
