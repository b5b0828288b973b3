/-
  The draws that the law of middles takes.
-/
import Derived.Test.YtfbindjacmaeoaaMAnyZz
import Derived.Test.YtfbindjacmaeoaaBytesZz
import Derived.Test.YtfbindjacmaeoaaMArgsZz
namespace Go.Proofs.Ytfbindjacmaeoaa
open Go Go.RowKit

/-- What a draw of marks and a kind hands back, ready for a call. -/
def MGot (w : World) (g c : Nat) (ms : List Mk) : Prop := MView w (some ⟨g, 0, none⟩) ms ∧ MSmall ms ∧ ms.length ≤ c ∧ ms.length ≤ 60
theorem MNew.got {base : Nat} {w : World} {g c : Nat} {ms : List Mk} {most : Int} (h : MNew base w g c ms most) (hm : most ≤ 60) : MGot w g c ms := ⟨h.view, h.small hm, h.2.1, by have := h.1; omega⟩

end Go.Proofs.Ytfbindjacmaeoaa
