/-
  Between: the given one and the program's own, each answers betV.
  How far the farthest is, and the diameter: the given ones and the program's own answer mostV and diaV.
  The program's Diameter, and the middle: the given one and the program's own answer diaV and midV.
-/
import Derived.Test.YtbmljcpeonopmaaCopyZz
import Derived.Test.YtbmljcpeonopmaaMCopyZz
namespace Go.Proofs.Ytbmljcpeonopmaa
open Go Go.RowKit

theorem betV_1 (xs ys : List Int) : betV xs ys 1 = farV xs ys := by simp [betV]
theorem betV_2 (xs ys : List Int) : betV xs ys 2 = stepsV xs ys := by simp [betV]
theorem betV_3 (xs ys : List Int) : betV xs ys 3 = reachV xs ys := by simp [betV]
theorem betV_no (xs ys : List Int) {k : Int} (h1 : k ≠ 1) (h2 : k ≠ 2) (h3 : k ≠ 3) : betV xs ys k = -1 := by simp [betV, h1, h2, h3]
theorem betV_apart (xs ys : List Int) (k : Int) (h : twoB xs ys = false) : betV xs ys k = -1 := by simp [betV, farV, stepsV, reachV, h]

theorem below_two {w w1 w2 : World} (h : Below w.heap.size w w1) (k : Below w1.heap.size w1 w2) : Below w.heap.size w w2 := h.trans (k.mono h.size)

end Go.Proofs.Ytbmljcpeonopmaa
namespace Go.Proofs.Ytbmljcpeonopmaa
open Go Go.RowKit

theorem maxV_bet (ms : List Mk) (p : List Int) (kd : Int) (k : Nat) : maxTo (betF ms p kd) (k + 1) = maxV (maxTo (betF ms p kd) k) (betV p (mat ms k) kd) := rfl
theorem max_bet (ms : List Mk) (p : List Int) (kd : Int) (k : Nat) : maxTo (betF ms p kd) (k + 1) = max (maxTo (betF ms p kd) k) (betV p (mat ms k) kd) := rfl
theorem maxV_most (ms : List Mk) (kd : Int) (k : Nat) : maxTo (mostF ms kd) (k + 1) = maxV (maxTo (mostF ms kd) k) (mostV ms (mat ms k) kd) := rfl

end Go.Proofs.Ytbmljcpeonopmaa
namespace Go.Proofs.Ytbmljcpeonopmaa
open Go Go.RowKit

def diaI (ms : List Mk) (kd : Int) (k : Nat) : Int := if k = 0 then -1 else maxTo (mostF ms kd) k
theorem diaI_le (ms : List Mk) (kd : Int) (k : Nat) : -1 ≤ diaI ms kd k ∧ diaI ms kd k ≤ 16000000 := by
  have := dia_le ms kd k
  unfold diaI; split <;> omega
theorem diaI_next (ms : List Mk) (kd : Int) (k : Nat) : diaI ms kd (k + 1) = max (diaI ms kd k) (mostV ms (mat ms k) kd) := by
  have h := mostF_le ms kd k
  have h' : mostF ms kd k = mostV ms (mat ms k) kd := rfl
  unfold diaI
  rw [if_neg (by omega)]
  split
  · rename_i hk; subst hk; simp only [maxTo]; omega
  · simp only [maxTo]; omega
theorem diaI_all (ms : List Mk) (kd : Int) (hm : marksB ms = true) (hk : kindB kd = true) : diaV ms kd = diaI ms kd ms.length := by
  unfold diaI
  split
  · rename_i h; simp [diaV, noneB_nil h]
  · rename_i h; simp [diaV, noneB_false h hm hk]

theorem bestI_yes (ms : List Mk) (kd : Int) (k : Nat) (h : mostF ms kd k < mostF ms kd (bestI ms kd k)) : bestI ms kd (k + 1) = k := by simp [bestI, h]
theorem bestI_no (ms : List Mk) (kd : Int) (k : Nat) (h : ¬ mostF ms kd k < mostF ms kd (bestI ms kd k)) : bestI ms kd (k + 1) = bestI ms kd k := by simp [bestI, h]
theorem mostF_V (ms : List Mk) (kd : Int) (k : Nat) : mostF ms kd k = mostV ms (mat ms k) kd := rfl

end Go.Proofs.Ytbmljcpeonopmaa
