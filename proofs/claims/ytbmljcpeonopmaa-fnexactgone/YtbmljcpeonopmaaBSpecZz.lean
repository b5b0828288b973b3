/-
  The given BoxOk, l4Told, ToBox, Corner and Inside.
-/
import Derived.Test.YtbmljcpeonopmaaMathZz
import Derived.Test.YtbmljcpeonopmaaCopyZz
import Derived.Test.YtbmljcpeonopmaaArgsZz
import Derived.Test.YtbmljcpeonopmaaMCellsZz
namespace Go.Proofs.Ytbmljcpeonopmaa
open Go Go.RowKit

theorem View.seg {w : World} {ao : Option Addr} {xs : List Int} (h : View w ao xs) (h0 : 0 < xs.length) : ∃ b off, ao = some ⟨b, off, none⟩ ∧ b < w.heap.size ∧ Seg w b off xs := by
  rcases h with h | h
  · subst h; simp at h0
  · exact h

end Go.Proofs.Ytbmljcpeonopmaa
