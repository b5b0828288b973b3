/-
  A slice of hits that came in, as the frame tells of it, read as a list of hits.
-/
import Derived.Test.YtefgpfeibjoceaaMArgsZz
import Derived.Test.YtefgpfeibjoceaaHCellsZz
namespace Go.Proofs.Ytefgpfeibjoceaa
open Go Go.RowKit Go.Deep

def HWf (_hs : List Ht) : Prop := True
end Go.Proofs.Ytefgpfeibjoceaa
