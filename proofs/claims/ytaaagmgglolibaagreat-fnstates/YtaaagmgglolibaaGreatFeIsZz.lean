import Derived.Test.YtaaagmgglolibaaGreatFeWalkZz
import Derived.Test.YtaaagmgglolibaaGreatMathZz
import Derived.Test.YtaaagmgglolibaaGreatAppendZz
import Derived.Deep.CutBlock
import Derived.Deep.DeepCutAuto
namespace Go.Proofs.YtaaagmgglolibaaGreat
open Go Go.RowKit
end Go.Proofs.YtaaagmgglolibaaGreat
