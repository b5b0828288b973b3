import Derived.Test.YtilkaeclgmcolaaGreatMRowZz
import Derived.Test.YtilkaeclgmcolaaGreatMCellsZz
namespace Go.Proofs.YtilkaeclgmcolaaGreat
open Go Go.RowKit
end Go.Proofs.YtilkaeclgmcolaaGreat
