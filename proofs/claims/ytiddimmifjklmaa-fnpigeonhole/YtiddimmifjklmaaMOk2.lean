/-
  The given MarksOk answers marksB.
-/
import Derived.Test.YtiddimmifjklmaaMOk
namespace Go.Proofs.Ytiddimmifjklmaa
open Go Go.RowKit

end Go.Proofs.Ytiddimmifjklmaa
