/-
  The given l4Told, ToBox, Corner and Inside.
-/
import Derived.Test.YthddhblmnfjciaaBSpec
namespace Go.Proofs.Ythddhblmnfjciaa
open Go Go.RowKit

theorem toldX_no {lo hi p : List Int} (h : boxB (lo, hi) = false) : toldX (lo, hi) p = false := by simp [toldX, h]
theorem toldX_eq {lo hi p : List Int} (h : boxB (lo, hi) = true) : toldX (lo, hi) p = twoB lo p := by simp [toldX, h]

end Go.Proofs.Ythddhblmnfjciaa
