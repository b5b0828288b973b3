/-
  Hits that are handed out: nothing, or a row of the call's own; what an answer goes through in the exact laws.
-/
import Derived.Test.YtbmljcpeonopmaaHMarkZz
import Derived.Test.YtbmljcpeonopmaaMMarkZz
namespace Go.Proofs.Ytbmljcpeonopmaa
open Go Go.RowKit

theorem below_far {w w1 w2 : World} {r : Option Nat} (h : Below w.heap.size w w1) (hg : w1.grownBy w2 r) (hr : ∀ g, r = some g → w.heap.size ≤ g) : Below w.heap.size w w2 := h.grown hg h.size hr

end Go.Proofs.Ytbmljcpeonopmaa
