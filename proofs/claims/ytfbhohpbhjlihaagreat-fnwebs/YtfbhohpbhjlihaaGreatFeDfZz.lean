/-
  The laws' draws of chapter 14: which mark a walk begins at.
-/
import Derived.Test.YtfbhohpbhjlihaaGreatFeLkZz
import Derived.Test.YtfbhohpbhjlihaaGreatMAnyZz
namespace Go.Proofs.YtfbhohpbhjlihaaGreat
open Go Go.RowKit

end Go.Proofs.YtfbhohpbhjlihaaGreat
