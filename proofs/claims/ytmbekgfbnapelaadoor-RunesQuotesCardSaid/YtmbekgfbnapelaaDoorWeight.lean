/-
  WALK: cognateref01.weight.
-/
import Derived.Test.YtmbekgfbnapelaaDoorRef1
namespace Go.Proofs.YtmbekgfbnapelaaDoor
open Go.RowKit

end Go.Proofs.YtmbekgfbnapelaaDoor
