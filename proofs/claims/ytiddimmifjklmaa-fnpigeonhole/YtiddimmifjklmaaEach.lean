/-
  The program's own point: pairs, each with a method value, total, and what is measured by them.
-/
import Derived.Test.YtiddimmifjklmaaSpec
namespace Go.Proofs.Ytiddimmifjklmaa
open Go Go.RowKit

end Go.Proofs.Ytiddimmifjklmaa
