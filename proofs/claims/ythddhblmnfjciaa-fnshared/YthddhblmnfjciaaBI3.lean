/-
  The program's own Corner.
-/
import Derived.Test.YthddhblmnfjciaaBI2
namespace Go.Proofs.Ythddhblmnfjciaa
open Go Go.RowKit

def gapL (lo hi p : List Int) : List Int := tabL (fun k => max (nth (tabL (gapF hi p) p.length) k) (nth (tabL (gapF lo p) p.length) k)) p.length
theorem gapL_at {lo hi p : List Int} {k : Nat} (hk : k < p.length) : nth (gapL lo hi p) k = endF (lo, hi) p k := by
  unfold gapL
  rw [tabL_getD _ _ _ hk, tabL_getD _ _ _ hk, tabL_getD _ _ _ hk]
  unfold gapF endF maxV absV
  simp only
  omega
theorem gapL_bd {lo hi p : List Int} (ht : toldX (lo, hi) p = true) (k : Nat) : -2000 ≤ nth (gapL lo hi p) k ∧ nth (gapL lo hi p) k ≤ 2000 := by
  by_cases hk : k < p.length
  · rw [gapL_at hk]; have := endF_bd ht k; omega
  · have : nth (gapL lo hi p) k = 0 := by simp [gapL, nth, tabL, List.getD, hk]
    omega
theorem gapL_sum {lo hi p : List Int} (ht : toldX (lo, hi) p = true) : sumTo (mulF (gapL lo hi p) (gapL lo hi p)) p.length = cornerV (lo, hi) p := by
  have e : cornerV (lo, hi) p = sumTo (endQ (lo, hi) p) p.length := by simp [cornerV, ht]
  rw [e]
  refine sumTo_congr _ _ _ fun i hi => ?_
  unfold mulF endQ
  rw [gapL_at hi]

end Go.Proofs.Ythddhblmnfjciaa
