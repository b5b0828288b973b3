/-
  The given Far, Dot, Steps and Reach: each answers as its plain function.
-/
import Derived.Test.YtbmljcpeonopmaaOk
namespace Go.Proofs.Ytbmljcpeonopmaa
open Go Go.RowKit

theorem ret_int {a b : Int} (h : a = b) : Ending.returned (.int .i64 a) = .returned (.int .i64 b) := by rw [h]

end Go.Proofs.Ytbmljcpeonopmaa
