/-
  The given Islands.
-/
import Derived.Test.YtaaagmgglolibaaGreatFeWalkZz
import Derived.Test.YtaaagmgglolibaaGreatMathZz
import Derived.Test.YtaaagmgglolibaaGreatAppendZz
import Derived.Deep.CutBlock
import Derived.Deep.DeepCutAuto
namespace Go.Proofs.YtaaagmgglolibaaGreat
open Go Go.RowKit

/-- Both rows while an island is flooded. -/
structure FlIn (base : Nat) (w : World) (gs cs : Nat) (S : List Int) (gt ot ct : Nat) (T : List Int) : Prop where
  rs : Row base w gs cs S
  rt : CutRow base w gt ot ct T
  ne : gt ≠ gs

end Go.Proofs.YtaaagmgglolibaaGreat
