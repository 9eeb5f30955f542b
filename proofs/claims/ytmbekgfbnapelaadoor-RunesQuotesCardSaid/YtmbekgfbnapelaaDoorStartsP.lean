/-
  PLAIN: how many pieces a text has.
-/
import Derived.Test.YtmbekgfbnapelaaDoorPieces
import Derived.Test.YtmbekgfbnapelaaDoorLies
namespace Go.Proofs.YtmbekgfbnapelaaDoor
open Go.RowKit Go.Lib
set_option linter.unusedVariables false

/-! ### plain -/
theorem count_starts (s : ByteArray) : ∀ f p, runeCountFrom s f p = (startsF s f p).length
  | 0, _ => rfl
  | f + 1, p => by
    have ih := count_starts s f (p + dW s p)
    unfold runeCountFrom startsF
    split
    · rw [List.length_cons, ← ih]
      show 1 + runeCountFrom s f (p + (Utf8.decode s p).2) = _
      unfold dW
      omega
    · rfl
theorem runeCount_starts (s : ByteArray) : runeCount s = (starts s).length := count_starts s s.size 0

end Go.Proofs.YtmbekgfbnapelaaDoor
