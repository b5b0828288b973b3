/-
  The program's Diameter, and the middle: the given one and the program's own answer diaV and midV.
-/
import Derived.Test.YtfbindjacmaeoaaDia
namespace Go.Proofs.Ytfbindjacmaeoaa
open Go Go.RowKit

def diaI (ms : List Mk) (kd : Int) (k : Nat) : Int := if k = 0 then -1 else maxTo (mostF ms kd) k
theorem diaI_le (ms : List Mk) (kd : Int) (k : Nat) : -1 ≤ diaI ms kd k ∧ diaI ms kd k ≤ 16000000 := by
  have := dia_le ms kd k
  unfold diaI; split <;> omega
theorem diaI_next (ms : List Mk) (kd : Int) (k : Nat) : diaI ms kd (k + 1) = max (diaI ms kd k) (mostV ms (mat ms k) kd) := by
  have h := mostF_le ms kd k
  have h' : mostF ms kd k = mostV ms (mat ms k) kd := rfl
  unfold diaI
  rw [if_neg (by omega)]
  split
  · rename_i hk; subst hk; simp only [maxTo]; omega
  · simp only [maxTo]; omega
theorem diaI_all (ms : List Mk) (kd : Int) (hm : marksB ms = true) (hk : kindB kd = true) : diaV ms kd = diaI ms kd ms.length := by
  unfold diaI
  split
  · rename_i h; simp [diaV, noneB_nil h]
  · rename_i h; simp [diaV, noneB_false h hm hk]

theorem bestI_yes (ms : List Mk) (kd : Int) (k : Nat) (h : mostF ms kd k < mostF ms kd (bestI ms kd k)) : bestI ms kd (k + 1) = k := by simp [bestI, h]
theorem bestI_no (ms : List Mk) (kd : Int) (k : Nat) (h : ¬ mostF ms kd k < mostF ms kd (bestI ms kd k)) : bestI ms kd (k + 1) = bestI ms kd k := by simp [bestI, h]
theorem mostF_V (ms : List Mk) (kd : Int) (k : Nat) : mostF ms kd k = mostV ms (mat ms k) kd := rfl

end Go.Proofs.Ytfbindjacmaeoaa
