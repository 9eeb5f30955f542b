/-
  WALKS: cognatelaw02.FeatureFar.
-/
import Derived.Test.YtmbekgfbnapelaaFarP
namespace Go.Proofs.Ytmbekgfbnapelaa
open Go.RowKit Go.Lib
set_option linter.unusedVariables false

end Go.Proofs.Ytmbekgfbnapelaa
