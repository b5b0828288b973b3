/-
  The program's own heaped and hitsOf.
-/
import Derived.Test.YtbmljcpeonopmaaHM5Zz
import Derived.Test.YtbmljcpeonopmaaCopyZz
import Derived.Test.YtbmljcpeonopmaaMCopyZz
import Derived.Test.YtbmljcpeonopmaaMHighZz
import Derived.Deep.RegionWith
namespace Go.Proofs.Ytbmljcpeonopmaa
open Go Go.RowKit

theorem hitsL_at (ms : List Mk) (q : List Int) (k : Nat) (hk : k < ms.length) : hnth (hitsL ms q) k = (mid ms k, farV (mat ms k) q) := by
  simp [hnth, hitsL, hk, hitF, mid, mat, List.getD]

end Go.Proofs.Ytbmljcpeonopmaa
