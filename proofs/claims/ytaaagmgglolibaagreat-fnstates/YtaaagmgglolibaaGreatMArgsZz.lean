import Derived.Test.YtaaagmgglolibaaGreatArgsZz
import Derived.Test.YtaaagmgglolibaaGreatMCopyZz
import Derived.Deep.SlicePairs
namespace Go.Proofs.YtaaagmgglolibaaGreat
open Go Go.RowKit Go.Deep
end Go.Proofs.YtaaagmgglolibaaGreat
