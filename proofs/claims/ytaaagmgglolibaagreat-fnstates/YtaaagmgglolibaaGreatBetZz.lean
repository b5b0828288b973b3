import Derived.Test.YtaaagmgglolibaaGreatCopyZz
import Derived.Test.YtaaagmgglolibaaGreatMCopyZz
namespace Go.Proofs.YtaaagmgglolibaaGreat
open Go Go.RowKit
end Go.Proofs.YtaaagmgglolibaaGreat
