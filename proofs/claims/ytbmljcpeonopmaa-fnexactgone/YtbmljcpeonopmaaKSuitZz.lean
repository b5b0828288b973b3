/-
  The program's countOk and suits.
-/
import Derived.Test.YtbmljcpeonopmaaMCopyZz
import Derived.Test.YtbmljcpeonopmaaMathZz
namespace Go.Proofs.Ytbmljcpeonopmaa
open Go Go.RowKit

/-- As long as the marks are, where there are any. -/
def longB (ms : List Mk) (n : Nat) : Bool := decide (ms.length = 0) || decide ((mat ms 0).length = n)
theorem toldB_long {ms : List Mk} {q : List Int} (h1 : marksB ms = true) (h2 : okB q = true) : toldB ms q = longB ms q.length := by simp [toldB, longB, h1, h2]

end Go.Proofs.Ytbmljcpeonopmaa
