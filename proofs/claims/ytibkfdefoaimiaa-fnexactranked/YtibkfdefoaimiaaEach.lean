/-
  The program's own point: pairs, each with a method value, total, and what is measured by them.
-/
import Derived.Test.YtibkfdefoaimiaaSpec
namespace Go.Proofs.Ytibkfdefoaimiaa
open Go Go.RowKit

end Go.Proofs.Ytibkfdefoaimiaa
