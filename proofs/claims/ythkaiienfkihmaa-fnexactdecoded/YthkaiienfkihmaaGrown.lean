/-
  What a world that grew keeps (no program is named here).
-/
import Derived.Test.YthkaiienfkihmaaMCells
namespace Go.Proofs.Ythkaiienfkihmaa
open Go Go.RowKit

theorem seg_grown {w w' : World} {b : Nat} {xs : List Int} {r : Option Nat} (h : Seg w b 0 xs) (hb : b < w.heap.size) (hg : w.grownBy w' r) (hr : some b ≠ r) : Seg w' b 0 xs := fun i hi =>
  (World.cell?_of_block (w := w) (a := ⟨b, 0 + i, none⟩) (hg.block b hb hr)).trans (h i hi)
theorem cell_grown {w w' : World} {g j : Nat} {r : Option Nat} (hb : g < w.heap.size) (hg : w.grownBy w' r) (hr : some g ≠ r) : w'.cell? ⟨g, j, none⟩ = w.cell? ⟨g, j, none⟩ :=
  World.cell?_of_block (w := w) (a := ⟨g, j, none⟩) (hg.block g hb hr)

theorem frozen_grown {w w' : World} {g j : Nat} {r : Option Nat} (hb : g < w.heap.size) (hg : w.grownBy w' r) (hr : some g ≠ r) : w'.frozen? ⟨g, j, none⟩ = w.frozen? ⟨g, j, none⟩ :=
  World.frozen?_of_block (w := w) (a := ⟨g, j, none⟩) (hg.block g hb hr)
theorem grown_setCell (w : World) (g j : Nat) (v : Value) : w.grownBy (w.setCell ⟨g, j, none⟩ v) (some g) :=
  ⟨rfl, rfl, rfl, Nat.le_of_eq (setCell_size w _ v).symm, fun i _ hne => Below.heap_setCell w ⟨g, j, none⟩ v i (fun e => hne (by rw [e]))⟩

end Go.Proofs.Ythkaiienfkihmaa
