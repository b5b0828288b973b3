import Derived.Test.YtilkaeclgmcolaaGreatFeWalkZz
import Derived.Test.YtilkaeclgmcolaaGreatMathZz
import Derived.Test.YtilkaeclgmcolaaGreatAppendZz
import Derived.Deep.CutBlock
import Derived.Deep.DeepCutAuto
namespace Go.Proofs.YtilkaeclgmcolaaGreat
open Go Go.RowKit
end Go.Proofs.YtilkaeclgmcolaaGreat
