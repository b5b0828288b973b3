/-
  The walks of the exact laws of chapter 14, over what the program's own functions answer.
-/
import Derived.Test.YtbmljcpeonopmaaFeHelpZz
import Derived.Test.YtbmljcpeonopmaaLastZz
import Derived.Test.YtbmljcpeonopmaaBMarkZz
namespace Go.Proofs.Ytbmljcpeonopmaa
open Go Go.RowKit

def IWebOk : Prop := ∀ (am : Option Addr) (cm : Nat) (ms : List Mk) (al : Option Addr) (cl : Nat) (ls : List (List Int)) (w : World), MView w am ms → CView w al ls → MSmall ms → CSmall ls → ms.length ≤ cm → ls.length ≤ cl → Calls Try.prog 96 #[.agg #[.slice am ms.length cm, .slice al ls.length cl]] w fun e w' => e = .returned (.bool (webB ms ls)) ∧ Below w.heap.size w w'
end Go.Proofs.Ytbmljcpeonopmaa
