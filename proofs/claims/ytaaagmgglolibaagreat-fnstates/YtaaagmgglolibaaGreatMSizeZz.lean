import Derived.Test.YtaaagmgglolibaaGreatCopyZz
import Derived.Below
import Derived.Test.YtaaagmgglolibaaGreatMCellsZz
namespace Go.Proofs.YtaaagmgglolibaaGreat
open Go Go.RowKit
end Go.Proofs.YtaaagmgglolibaaGreat
