import Derived.Test.YtaaagmgglolibaaGreatMCopyZz
import Derived.Test.YtaaagmgglolibaaGreatMMarkZz
import Derived.Test.YtaaagmgglolibaaGreatLastZz
import Derived.Tactics
import Derived.Tactics2
import Derived.Defers
import Derived.Laws.Pointers
import Derived.Laws.LoneSync
import Derived.RegionTactic
import Derived.RegionCalls
import Derived.ChangeAlike
import Derived.Laws.NewBlocks
namespace Go.Proofs.YtaaagmgglolibaaGreat
open Go Go.RowKit
end Go.Proofs.YtaaagmgglolibaaGreat
