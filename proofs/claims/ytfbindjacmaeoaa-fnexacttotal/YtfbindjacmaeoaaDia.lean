/-
  How far the farthest is, and the diameter: the given ones and the program's own answer mostV and diaV.
-/
import Derived.Test.YtfbindjacmaeoaaBet
namespace Go.Proofs.Ytfbindjacmaeoaa
open Go Go.RowKit

theorem maxV_bet (ms : List Mk) (p : List Int) (kd : Int) (k : Nat) : maxTo (betF ms p kd) (k + 1) = maxV (maxTo (betF ms p kd) k) (betV p (mat ms k) kd) := rfl
theorem max_bet (ms : List Mk) (p : List Int) (kd : Int) (k : Nat) : maxTo (betF ms p kd) (k + 1) = max (maxTo (betF ms p kd) k) (betV p (mat ms k) kd) := rfl
theorem maxV_most (ms : List Mk) (kd : Int) (k : Nat) : maxTo (mostF ms kd) (k + 1) = maxV (maxTo (mostF ms kd) k) (mostV ms (mat ms k) kd) := rfl

end Go.Proofs.Ytfbindjacmaeoaa
