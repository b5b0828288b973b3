/-
  The given Islands.
-/
import Derived.Test.YtmembegdbceooaaFeWalkZz
import Derived.Test.YtmembegdbceooaaMathZz
import Derived.Test.YtmembegdbceooaaAppendZz
import Derived.Deep.CutBlock
import Derived.Deep.DeepCutAuto
namespace Go.Proofs.Ytmembegdbceooaa
open Go Go.RowKit

def slLen2 : Value → Nat
  | .slice _ n _ => n
  | _ => 0
/-- What falls with each turn. -/
def islM (n : Nat) (s t : Nat) : Nat := (n - s) * (n + 1) + t
theorem islM_skip (n s t : Nat) : islM n s t < islM n s (t + 1) := by unfold islM; omega
theorem islM_take {n s t l : Nat} (hs : s < n) (hl : l ≤ n) : islM n (s + 1) (t + l) < islM n s (t + 1) := by
  unfold islM
  have e : n - s = (n - (s + 1)) + 1 := by omega
  rw [e, Nat.add_mul]
  omega
/-- Both rows while an island is flooded. -/
structure FlIn (base : Nat) (w : World) (gs cs : Nat) (S : List Int) (gt ot ct : Nat) (T : List Int) : Prop where
  rs : Row base w gs cs S
  rt : CutRow base w gt ot ct T
  ne : gt ≠ gs

end Go.Proofs.Ytmembegdbceooaa
