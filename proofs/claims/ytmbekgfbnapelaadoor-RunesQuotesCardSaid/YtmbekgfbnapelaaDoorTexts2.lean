/-
  WALK: runes.Back.
-/
import Derived.Test.YtmbekgfbnapelaaDoorTextT
import Derived.Test.YtmbekgfbnapelaaDoorTexts1
namespace Go.Proofs.YtmbekgfbnapelaaDoor
open Go.RowKit Go.Lib
set_option linter.unusedVariables false

end Go.Proofs.YtmbekgfbnapelaaDoor
