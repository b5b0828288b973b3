/-
  The laws' own helpers: what is written into hits is held, and marks are written over, in their own blocks alone.
-/
import Derived.Test.YtaaagmgglolibaaGreatWithZz
import Derived.Test.YtaaagmgglolibaaGreatMCopyZz
import Derived.Test.YtaaagmgglolibaaGreatMHighZz
namespace Go.Proofs.YtaaagmgglolibaaGreat
open Go Go.RowKit

end Go.Proofs.YtaaagmgglolibaaGreat
