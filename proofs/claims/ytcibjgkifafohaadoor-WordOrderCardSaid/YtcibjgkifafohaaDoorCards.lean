/-
  DERIVED. GIVEN WITH THE SEED: THE CARDS: each row of YtcibjgkifafohaaDoorRows.lean that lists a variable, with what it lists TIED to the program's text (the seventh form; the later family's looks); each row that meets fmt, with fmt's text TOLD by the authors' own Lean function (tested against real Go, not proved from fmt's source: count such statements apart). THE CARD IS WHAT COUNTS. Prove the row's statement (the work); the ties are given (YtcibjgkifafohaaDoorTie.lean); close each card by the builder's one call (the guide's Derived/Test/ToyasCard.lean, 'card_holds'). Laid BY PROGRAM, IN A SANDBOX (cutbox-door.mjs). By AI agents, Wed Nov 11 2026. No macro, syntax, notation, axiom, sorry.
-/
import Derived.Test.YtcibjgkifafohaaDoorRows
import GoSem.ClaimSeven
namespace Go.Proofs.YtcibjgkifafohaaDoor
namespace Rows

/-- THE TIED CARD OF 'cognatelaw01.RunesQuotes'. -/
def runesQuotesCard : Claim7 := { stood := { row := runesQuotesRow, standIns := [], harness := (true, "a1cab1886bb3ddac1daad62b1a2db173ddb82170d2ee6f96a327bcf32fc911f3"), looks := false }, kinds := [], alts := [], laidByText := true, laidKinds := [.data, .data, .data, .data, .pinned], laidTests := true, laidLooks := .later }
def RunesQuotesCardSaid : Prop := Claim7.holds Tryd.pinned (.plain (OpenSpec.ofChange runesQuotesSpec)) runesQuotesCard

/-- THE TIED CARD OF 'cognatelaw03.WordLetters'. -/
def wordLettersCard : Claim7 := { stood := { row := wordLettersRow, standIns := [], harness := (true, "a1cab1886bb3ddac1daad62b1a2db173ddb82170d2ee6f96a327bcf32fc911f3"), looks := false }, kinds := [], alts := [], laidByText := true, laidKinds := [.data, .pinned], laidTests := true, laidLooks := .later }
def WordLettersCardSaid : Prop := Claim7.holds Tryd.pinned (.plain (OpenSpec.ofChange wordLettersSpec)) wordLettersCard

/-- THE TIED CARD OF 'cognatelaw03.WordPeaks'. -/
def wordPeaksCard : Claim7 := { stood := { row := wordPeaksRow, standIns := [], harness := (true, "a1cab1886bb3ddac1daad62b1a2db173ddb82170d2ee6f96a327bcf32fc911f3"), looks := false }, kinds := [], alts := [], laidByText := true, laidKinds := [.data, .pinned], laidTests := true, laidLooks := .later }
def WordPeaksCardSaid : Prop := Claim7.holds Tryd.pinned (.plain (OpenSpec.ofChange wordPeaksSpec)) wordPeaksCard

/-- THE TIED CARD OF 'cognatelaw03.WordOrder'. -/
def wordOrderCard : Claim7 := { stood := { row := wordOrderRow, standIns := [], harness := (true, "a1cab1886bb3ddac1daad62b1a2db173ddb82170d2ee6f96a327bcf32fc911f3"), looks := false }, kinds := [], alts := [], laidByText := true, laidKinds := [.data, .pinned], laidTests := true, laidLooks := .later }
def WordOrderCardSaid : Prop := Claim7.holds Tryd.pinned (.plain (OpenSpec.ofChange wordOrderSpec)) wordOrderCard

/-- THE TIED CARD OF 'cognatelaw03.WordParts'. -/
def wordPartsCard : Claim7 := { stood := { row := wordPartsRow, standIns := [], harness := (true, "a1cab1886bb3ddac1daad62b1a2db173ddb82170d2ee6f96a327bcf32fc911f3"), looks := false }, kinds := [], alts := [], laidByText := true, laidKinds := [.data, .pinned], laidTests := true, laidLooks := .later }
def WordPartsCardSaid : Prop := Claim7.holds Tryd.pinned (.plain (OpenSpec.ofChange wordPartsSpec)) wordPartsCard

/-- THE TIED CARD OF 'cognatelaw03.WordSyllables'. -/
def wordSyllablesCard : Claim7 := { stood := { row := wordSyllablesRow, standIns := [], harness := (true, "a1cab1886bb3ddac1daad62b1a2db173ddb82170d2ee6f96a327bcf32fc911f3"), looks := false }, kinds := [], alts := [], laidByText := true, laidKinds := [.data, .pinned], laidTests := true, laidLooks := .later }
def WordSyllablesCardSaid : Prop := Claim7.holds Tryd.pinned (.plain (OpenSpec.ofChange wordSyllablesSpec)) wordSyllablesCard

/-- THE SECOND FORM's CARD OF 'cognatelaw01.RunesQuotes'. -/
def runesQuotesUptoCard : Claim7 := { stood := { row := runesQuotesUptoRow, standIns := [], harness := (true, "a1cab1886bb3ddac1daad62b1a2db173ddb82170d2ee6f96a327bcf32fc911f3"), looks := false }, kinds := [], alts := [], laidByText := true, laidKinds := [.data, .data, .data, .data, .pinned], laidTests := true, laidLooks := .later }
def RunesQuotesUptoCardSaid : Prop := Claim7.holds Tryd.pinned (.plain (OpenSpec.upto runesQuotesSpec)) runesQuotesUptoCard

/-- THE SECOND FORM's CARD OF 'cognatelaw03.WordLetters'. -/
def wordLettersUptoCard : Claim7 := { stood := { row := wordLettersUptoRow, standIns := [], harness := (true, "a1cab1886bb3ddac1daad62b1a2db173ddb82170d2ee6f96a327bcf32fc911f3"), looks := false }, kinds := [], alts := [], laidByText := true, laidKinds := [.data, .pinned], laidTests := true, laidLooks := .later }
def WordLettersUptoCardSaid : Prop := Claim7.holds Tryd.pinned (.plain (OpenSpec.upto wordLettersSpec)) wordLettersUptoCard

/-- THE SECOND FORM's CARD OF 'cognatelaw03.WordPeaks'. -/
def wordPeaksUptoCard : Claim7 := { stood := { row := wordPeaksUptoRow, standIns := [], harness := (true, "a1cab1886bb3ddac1daad62b1a2db173ddb82170d2ee6f96a327bcf32fc911f3"), looks := false }, kinds := [], alts := [], laidByText := true, laidKinds := [.data, .pinned], laidTests := true, laidLooks := .later }
def WordPeaksUptoCardSaid : Prop := Claim7.holds Tryd.pinned (.plain (OpenSpec.upto wordPeaksSpec)) wordPeaksUptoCard

/-- THE SECOND FORM's CARD OF 'cognatelaw03.WordOrder'. -/
def wordOrderUptoCard : Claim7 := { stood := { row := wordOrderUptoRow, standIns := [], harness := (true, "a1cab1886bb3ddac1daad62b1a2db173ddb82170d2ee6f96a327bcf32fc911f3"), looks := false }, kinds := [], alts := [], laidByText := true, laidKinds := [.data, .pinned], laidTests := true, laidLooks := .later }
def WordOrderUptoCardSaid : Prop := Claim7.holds Tryd.pinned (.plain (OpenSpec.upto wordOrderSpec)) wordOrderUptoCard

/-- THE SECOND FORM's CARD OF 'cognatelaw03.WordParts'. -/
def wordPartsUptoCard : Claim7 := { stood := { row := wordPartsUptoRow, standIns := [], harness := (true, "a1cab1886bb3ddac1daad62b1a2db173ddb82170d2ee6f96a327bcf32fc911f3"), looks := false }, kinds := [], alts := [], laidByText := true, laidKinds := [.data, .pinned], laidTests := true, laidLooks := .later }
def WordPartsUptoCardSaid : Prop := Claim7.holds Tryd.pinned (.plain (OpenSpec.upto wordPartsSpec)) wordPartsUptoCard

/-- THE SECOND FORM's CARD OF 'cognatelaw03.WordSyllables'. -/
def wordSyllablesUptoCard : Claim7 := { stood := { row := wordSyllablesUptoRow, standIns := [], harness := (true, "a1cab1886bb3ddac1daad62b1a2db173ddb82170d2ee6f96a327bcf32fc911f3"), looks := false }, kinds := [], alts := [], laidByText := true, laidKinds := [.data, .pinned], laidTests := true, laidLooks := .later }
def WordSyllablesUptoCardSaid : Prop := Claim7.holds Tryd.pinned (.plain (OpenSpec.upto wordSyllablesSpec)) wordSyllablesUptoCard
end Rows
end Go.Proofs.YtcibjgkifafohaaDoor
