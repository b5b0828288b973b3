/-
  A text that came in: what a law's frame opens and shuts.
-/
import Derived.Test.YtaaagmgglolibaaRows
import Derived.WalkKit
import Derived.ProofKit
import Derived.OpenShut
import Derived.ShutString
import Derived.ChangeOld
import Derived.ChangeMaps5
import Derived.Below
