/-
  The given l5Looked: how many knots are looked at, and the least till then, in a block of two cells.
-/
import Derived.Test.YtodielfilhodeaaGreatKTallZz
import Derived.Test.YtodielfilhodeaaGreatKCellsZz
namespace Go.Proofs.YtodielfilhodeaaGreat
open Go Go.RowKit

theorem far_le (a b : List Int) : -1 ≤ farV a b ∧ farV a b ≤ 16000000 := by
  unfold farV
  split
  · rename_i h
    obtain ⟨ha, hb, _⟩ := twoB_of h
    have h4 := okB_len ha
    have := sumTo_le (sqF a b) 0 4000000 (sqF_bd ha hb) a.length
    omega
  · omega

end Go.Proofs.YtodielfilhodeaaGreat
