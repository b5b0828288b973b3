/-
  The closed facts of FnExactKept's row, one by one.
-/
import Derived.Test.YtaaagmgglolibaaGreatRows
import Derived.JoinedOf
import Derived.JoinedAt
import Derived.RowKit3
namespace Go.Proofs.YtaaagmgglolibaaGreat.fnExactKept
open Go.ChangeShapes Go.WideShapes Go.ChangeAt Go.RowKit

theorem kin : (Rows.fnExactKeptRow.inPlace == Tryz.prog.inPlace 9) = true := by kernel_rfl
theorem kun : (Rows.fnExactKeptRow.unfollowed == Tryz.prog.unfollowed 9) = true := by kernel_rfl
theorem kre : (Rows.fnExactKeptRow.recurses == Tryz.prog.recurses 9) = true := by kernel_rfl
theorem kva : (Rows.fnExactKeptRow.named == Tryz.prog.varsNamed 9) = true := by kernel_rfl
theorem klo : laidOutB Tryz.prog = true := by kernel_rfl
theorem kmr : mapsRowed Tryz.prog = true := by kernel_rfl
theorem ksh : Tryz.prog.stopsHeard = true := by kernel_rfl
theorem kme : Tryz.prog.mayEnter = true := by kernel_rfl
theorem kpk : (Rows.fnExactKeptRow.plainKeys == Tryz.prog.plainKeys) = true := by kernel_rfl
theorem klf : (Rows.fnExactKeptRow.lifted == Tryz.prog.liftsFinal) = true := by kernel_rfl
theorem closed : joinedFacts Tryz.prog 9 Tryz.f9 Rows.fnExactKeptSpec Rows.fnExactKeptRow = true := by
  unfold joinedFacts
  rw [kin, kun, kre, kva, klo, kmr, ksh, kme, kpk, klf]
  kernel_rfl
end Go.Proofs.YtaaagmgglolibaaGreat.fnExactKept
