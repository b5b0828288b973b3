/-
  The given Moved: a slice that reads as the plain sum of two points, or as nothing.
-/
import Derived.Test.YthkaiienfkihmaaImpl
import Derived.Deep.RegionHeld3
import Derived.Deep.AppendLies
namespace Go.Proofs.Ythkaiienfkihmaa
open Go Go.RowKit

theorem hideP {p : Prop} (h : p) : Hid p := h

theorem own_view {w : World} {base g cap n : Nat} {xs : List Int} (h : w.ownsRow base 2 1 (.slice (some ⟨g, 0, none⟩) n cap) n (xs.map (Value.int .i64))) : View w (some ⟨g, 0, none⟩) xs := by
  have hl : xs.length = n := by have := h.1; simpa using this
  refine Or.inr ⟨g, 0, rfl, (h.lt g rfl).2, fun i hi => ?_⟩
  rw [Nat.zero_add, h.cellAt i (by omega)]
  simp [nth, List.getD, hi]

end Go.Proofs.Ythkaiienfkihmaa
