/-
  The laws' own helpers over rows of marks: szMarkS (are they small enough).
-/
import Derived.Test.YtiddimmifjklmaaSpec
import Derived.Below
import Derived.Test.YtiddimmifjklmaaMCells
namespace Go.Proofs.Ytiddimmifjklmaa
open Go Go.RowKit

def cutV (left : Int) (n : Nat) : Int := if left < n then -1 else left - n
theorem cutV_le {left : Int} (n : Nat) (h0 : -1 ≤ left) (h1 : left ≤ 1048576) : -1 ≤ cutV left n ∧ cutV left n ≤ 1048576 := by unfold cutV; split <;> omega
theorem cutV_small {left : Int} {n : Nat} (h1 : left ≤ 1048576) (h : 0 ≤ cutV left n) : n ≤ 1048576 := by unfold cutV at h; split at h <;> omega

theorem mnth_mem_len (ms : List Mk) (i : Nat) : (mat ms i).length = (mnth ms i).2.length := rfl

end Go.Proofs.Ytiddimmifjklmaa
