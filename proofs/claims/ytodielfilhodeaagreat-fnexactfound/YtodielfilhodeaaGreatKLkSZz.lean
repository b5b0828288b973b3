/-
  The given Looked.
-/
import Derived.Test.YtodielfilhodeaaGreatKLookZz
import Derived.Test.YtodielfilhodeaaGreatKLeadZz
namespace Go.Proofs.YtodielfilhodeaaGreat
open Go Go.RowKit

end Go.Proofs.YtodielfilhodeaaGreat
