/-
  THE WITNESS's WORLD where unicode/utf8's two tables alone are listed.
-/
import Derived.Test.YtcibjgkifafohaaGreatDoorLaid
namespace Go.Proofs.YtcibjgkifafohaaGreatDoor
open Go.ChangeShapes Go.WideShapes Go.ChangeAt Go.RowKit
noncomputable def laidWorld (os : Os) : World :=
  { World.holding Tryz.prog os ⟨#[], #[], []⟩ with heap := (((World.holding Tryz.prog os ⟨#[], #[], []⟩).heap.modify 0 fun
      | .cells _ t frozen => .cells firstCells t frozen
      | o => o).modify 1 fun
      | .cells _ t frozen => .cells acceptCells t frozen
      | o => o) }
end Go.Proofs.YtcibjgkifafohaaGreatDoor
