/-
  The walks of the exact laws of chapter 14, over what the program's own functions answer.
-/
import Derived.Test.YtfbhohpbhjlihaaGreatFeHelpZz
import Derived.Test.YtfbhohpbhjlihaaGreatFeIsZz
import Derived.Test.YtfbhohpbhjlihaaGreatFeBmZz
import Derived.Test.YtfbhohpbhjlihaaGreatLastZz
import Derived.Test.YtfbhohpbhjlihaaGreatBMarkZz
namespace Go.Proofs.YtfbhohpbhjlihaaGreat
open Go Go.RowKit

def IWebOk : Prop := ∀ (am : Option Addr) (cm : Nat) (ms : List Mk) (al : Option Addr) (cl : Nat) (ls : List (List Int)) (w : World), MView w am ms → CView w al ls → MSmall ms → CSmall ls → ms.length ≤ cm → ls.length ≤ cl → Calls Tryz.prog 17 #[.agg #[.slice am ms.length cm, .slice al ls.length cl]] w fun e w' => e = .returned (.bool (webB ms ls)) ∧ Below w.heap.size w w'
def IIslands : Prop := ∀ (am : Option Addr) (cm : Nat) (ms : List Mk) (al : Option Addr) (cl : Nat) (ls : List (List Int)) (w : World), MView w am ms → CView w al ls → MSmall ms → CSmall ls → ms.length ≤ cm → ls.length ≤ cl → Calls Tryz.prog 19 #[.agg #[.slice am ms.length cm, .slice al ls.length cl]] w fun e w' => e = .returned (.int .i64 (islV ms ls)) ∧ Below w.heap.size w w'

end Go.Proofs.YtfbhohpbhjlihaaGreat
