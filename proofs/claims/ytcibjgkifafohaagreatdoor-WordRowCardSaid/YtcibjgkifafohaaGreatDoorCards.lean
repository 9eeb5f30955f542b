/-
  DERIVED. GIVEN WITH THE SEED: THE CARDS: each row of YtcibjgkifafohaaGreatDoorRows.lean that lists a variable, with what it lists TIED to the program's text (the seventh form; the later family's looks); each row that meets fmt, with fmt's text TOLD by the authors' own Lean function (tested against real Go, not proved from fmt's source: count such statements apart). THE CARD IS WHAT COUNTS. Prove the row's statement (the work); the ties are given (YtcibjgkifafohaaGreatDoorTie.lean); close each card by the builder's one call (the guide's Derived/Test/ToyasCard.lean, 'card_holds'). Laid BY PROGRAM, IN A SANDBOX (cutbox-door.mjs). By AI agents, Wed Nov 11 2026. No macro, syntax, notation, axiom, sorry.
-/
import Derived.Test.YtcibjgkifafohaaGreatDoorRows
import GoSem.ClaimSeven
namespace Go.Proofs.YtcibjgkifafohaaGreatDoor
namespace Rows

/-- THE TIED CARD OF 'cognatelaw03.WordRow'. -/
def wordRowCard : Claim7 := { stood := { row := wordRowRow, standIns := [], harness := (true, "85cda9c0f877627810213ea0757b0f8a30fca742169423c711d76ce290564b4a"), looks := false }, kinds := [], alts := [], laidByText := true, laidKinds := [.data, .pinned], laidTests := true, laidLooks := .later }
def WordRowCardSaid : Prop := Claim7.holds Tryz.pinned (.plain (OpenSpec.ofChange wordRowSpec)) wordRowCard

/-- THE SECOND FORM's CARD OF 'cognatelaw03.WordRow'. -/
def wordRowUptoCard : Claim7 := { stood := { row := wordRowUptoRow, standIns := [], harness := (true, "85cda9c0f877627810213ea0757b0f8a30fca742169423c711d76ce290564b4a"), looks := false }, kinds := [], alts := [], laidByText := true, laidKinds := [.data, .pinned], laidTests := true, laidLooks := .later }
def WordRowUptoCardSaid : Prop := Claim7.holds Tryz.pinned (.plain (OpenSpec.upto wordRowSpec)) wordRowUptoCard
end Rows
end Go.Proofs.YtcibjgkifafohaaGreatDoor
