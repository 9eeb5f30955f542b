/-
  NODES THAT LIE IN THE WORLD.
-/
import Derived.Test.YtnlojgomildajaaNdP
namespace Go.Proofs.Ytnlojgomildajaa
open Go.RowKit Go.Lib
set_option linter.unusedVariables false

/-- A row of ints in the world. -/
structure KsIn (pk : Option Addr) (bk k0 c : Nat) (ks : List Int) (w : World) : Prop where
  at_ : 0 < ks.length → pk = some ⟨bk, k0, none⟩
  cells : ∀ j, j < ks.length → w.cell? ⟨bk, k0 + j, none⟩ = some (.int .i64 (ks.getD j 0))
  room : ks.length ≤ c
  big : ks.length ≤ 140737488355328
  bits : ∀ k ∈ ks, -9223372036854775808 ≤ k ∧ k ≤ 9223372036854775807
theorem KsIn.next {pk : Option Addr} {bk k0 c : Nat} {ks : List Int} {w w' : World} (h : KsIn pk bk k0 c ks w) (hb : Below w.heap.size w w') : KsIn pk bk k0 c ks w' :=
  ⟨h.at_, fun j hj => by have h1 := h.cells j hj; rw [hb.cell (p := ⟨bk, k0 + j, none⟩) (blk_of_cell h1)]; exact h1, h.room, h.big, h.bits⟩
/-- A node, and where its kids lie. -/
structure NdM where
  nd : Nd
  pk : Option Addr
  bk : Nat
  k0 : Nat
  c : Nat
instance : Inhabited NdM := ⟨⟨default, none, 0, 0, 0⟩⟩
def NdM.v (m : NdM) : Value := .agg #[.int .u8 m.nd.k, .int .i32 m.nd.r, .int .u32 m.nd.p, .int .u32 m.nd.m, .slice m.pk m.nd.ks.length m.c]
/-- A node's five cells. -/
structure N5 (b o : Nat) (m : NdM) (w : World) : Prop where
  c0 : w.cell? ⟨b, o, none⟩ = some (.int .u8 m.nd.k)
  c1 : w.cell? ⟨b, o + 1, none⟩ = some (.int .i32 m.nd.r)
  c2 : w.cell? ⟨b, o + 2, none⟩ = some (.int .u32 m.nd.p)
  c3 : w.cell? ⟨b, o + 3, none⟩ = some (.int .u32 m.nd.m)
  c4 : w.cell? ⟨b, o + 4, none⟩ = some (.slice m.pk m.nd.ks.length m.c)
theorem N5.next {b o : Nat} {m : NdM} {w w' : World} (h : N5 b o m w) (hb : Below w.heap.size w w') : N5 b o m w' := by
  have hl := blk_of_cell h.c0
  exact ⟨(hb.cell (p := ⟨b, o, none⟩) hl).trans h.c0, (hb.cell (p := ⟨b, o + 1, none⟩) hl).trans h.c1, (hb.cell (p := ⟨b, o + 2, none⟩) hl).trans h.c2, (hb.cell (p := ⟨b, o + 3, none⟩) hl).trans h.c3, (hb.cell (p := ⟨b, o + 4, none⟩) hl).trans h.c4⟩
/-- A node is of its types. -/
structure NdM.Ok (m : NdM) : Prop where
  k : m.nd.k < 256
  r : -2147483648 ≤ m.nd.r ∧ m.nd.r ≤ 2147483647
  p : m.nd.p < 4294967296
  m_ : m.nd.m < 4294967296
/-- A row of nodes in the world. -/
structure NsIn (pn : Option Addr) (bn n0 : Nat) (ms : List NdM) (w : World) : Prop where
  at_ : 0 < ms.length → pn = some ⟨bn, n0, none⟩
  node : ∀ j, j < ms.length → N5 bn (n0 + j * 5) (ms.getD j default) w
  kids : ∀ j, j < ms.length → KsIn (ms.getD j default).pk (ms.getD j default).bk (ms.getD j default).k0 (ms.getD j default).c (ms.getD j default).nd.ks w
  ok : ∀ j, j < ms.length → (ms.getD j default).Ok
  big : ms.length ≤ 140737488355328
theorem NsIn.next {pn : Option Addr} {bn n0 : Nat} {ms : List NdM} {w w' : World} (h : NsIn pn bn n0 ms w) (hb : Below w.heap.size w w') : NsIn pn bn n0 ms w' :=
  ⟨h.at_, fun j hj => (h.node j hj).next hb, fun j hj => (h.kids j hj).next hb, h.ok, h.big⟩
/-- The nodes alone. -/
def nds (ms : List NdM) : List Nd := ms.map NdM.nd
theorem nds_length (ms : List NdM) : (nds ms).length = ms.length := by simp [nds]
theorem nds_at (ms : List NdM) (j : Nat) (hj : j < ms.length) : (nds ms)[j]'(by rw [nds_length]; exact hj) = (ms.getD j default).nd := by
  simp [nds, List.getD_eq_getElem?_getD, List.getElem?_eq_getElem hj]
theorem isNode_m (m : NdM) (w : World) (h : m.Ok) : Calls Try.prog 42 #[m.v] w fun e w' => e = .returned (.bool (nodeB m.nd)) ∧ Below w.heap.size w w' := by
  rw [nodeB_eq]
  exact isNode_any _ _ _ _ _ _ _ w h.p h.m_
end Go.Proofs.Ytnlojgomildajaa
