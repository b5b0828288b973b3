import Derived.Test.YtilkaeclgmcolaaGreatCopyZz
import Derived.Test.YtilkaeclgmcolaaGreatMCopyZz
namespace Go.Proofs.YtilkaeclgmcolaaGreat
open Go Go.RowKit
end Go.Proofs.YtilkaeclgmcolaaGreat
