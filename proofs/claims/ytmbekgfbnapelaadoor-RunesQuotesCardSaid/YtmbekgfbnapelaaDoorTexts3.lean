/-
  WALKS OF THE DOCUMENT's ANSWER: cognateref01.Back, Text: runes put back, rune by rune.
-/
import Derived.Test.YtmbekgfbnapelaaDoorOutP
import Derived.Test.YtmbekgfbnapelaaDoorTexts2
namespace Go.Proofs.YtmbekgfbnapelaaDoor
open Go.RowKit Go.Lib
set_option linter.unusedVariables false

end Go.Proofs.YtmbekgfbnapelaaDoor
