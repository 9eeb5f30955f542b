/-
  WALK: runes.walk with Broken's closure.
-/
import Derived.Test.YtmbekgfbnapelaaDoorWalkF
namespace Go.Proofs.YtmbekgfbnapelaaDoor
open Go.RowKit Go.Lib
set_option linter.unusedVariables false

end Go.Proofs.YtmbekgfbnapelaaDoor
