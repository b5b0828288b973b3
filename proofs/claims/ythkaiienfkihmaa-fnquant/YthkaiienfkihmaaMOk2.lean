/-
  The given MarksOk answers marksB.
-/
import Derived.Test.YthkaiienfkihmaaMOk
namespace Go.Proofs.Ythkaiienfkihmaa
open Go Go.RowKit

end Go.Proofs.Ythkaiienfkihmaa
