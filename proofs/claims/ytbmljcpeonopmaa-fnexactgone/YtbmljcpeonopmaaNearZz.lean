/-
  The given Nearest and Within: the first ones of all hits in order, and those within a distance.
-/
import Derived.Test.YtbmljcpeonopmaaPutZz
import Derived.Test.YtbmljcpeonopmaaMCopyZz
namespace Go.Proofs.Ytbmljcpeonopmaa
open Go Go.RowKit

theorem toldB_nil {ms : List Mk} {q : List Int} (h : marksB ms = true) (hq : okB q = true) (h0 : ms.length = 0) : toldB ms q = true := by simp [toldB, h, hq, h0]
theorem toldB_yes {ms : List Mk} {q : List Int} (h : marksB ms = true) (hq : okB q = true) (h0 : (mat ms 0).length = q.length) : toldB ms q = true := by simp [toldB, h, hq, h0]
theorem toldB_len {ms : List Mk} {q : List Int} (h : ms.length ≠ 0) (h0 : (mat ms 0).length ≠ q.length) : toldB ms q = false := by
  simp [toldB, h0]
  intro _ _
  simpa using h

theorem hitsL_length (ms : List Mk) (q : List Int) : (hitsL ms q).length = ms.length := by simp [hitsL]
theorem take_succ_hit (ms : List Mk) (q : List Int) (k : Nat) (hk : k < ms.length) : sortL ((hitsL ms q).take (k + 1)) = putL (sortL ((hitsL ms q).take k)) (mid ms k, farV (mat ms k) q) := by
  have : (hitsL ms q).take (k + 1) = (hitsL ms q).take k ++ [(mid ms k, farV (mat ms k) q)] := by
    rw [List.take_add_one]
    congr 1
    simp [hitsL, hk, hitF, mid, mat, List.getD]
  rw [this, sortL_snoc]

theorem countB_in (k : Int) : inR k 1 60 = countB k := rfl

end Go.Proofs.Ytbmljcpeonopmaa
