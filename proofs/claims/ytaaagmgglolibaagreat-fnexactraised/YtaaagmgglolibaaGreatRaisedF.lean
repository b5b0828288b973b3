/-
  The closed facts of FnExactRaised's row, one by one.
-/
import Derived.Test.YtaaagmgglolibaaGreatRows
import Derived.JoinedOf
import Derived.JoinedAt
import Derived.RowKit3
namespace Go.Proofs.YtaaagmgglolibaaGreat.fnExactRaised
open Go.ChangeShapes Go.WideShapes Go.ChangeAt Go.RowKit

theorem kin : (Rows.fnExactRaisedRow.inPlace == Tryz.prog.inPlace 8) = true := by kernel_rfl
theorem kun : (Rows.fnExactRaisedRow.unfollowed == Tryz.prog.unfollowed 8) = true := by kernel_rfl
theorem kre : (Rows.fnExactRaisedRow.recurses == Tryz.prog.recurses 8) = true := by kernel_rfl
theorem kva : (Rows.fnExactRaisedRow.named == Tryz.prog.varsNamed 8) = true := by kernel_rfl
theorem klo : laidOutB Tryz.prog = true := by kernel_rfl
theorem kmr : mapsRowed Tryz.prog = true := by kernel_rfl
theorem ksh : Tryz.prog.stopsHeard = true := by kernel_rfl
theorem kme : Tryz.prog.mayEnter = true := by kernel_rfl
theorem kpk : (Rows.fnExactRaisedRow.plainKeys == Tryz.prog.plainKeys) = true := by kernel_rfl
theorem klf : (Rows.fnExactRaisedRow.lifted == Tryz.prog.liftsFinal) = true := by kernel_rfl
theorem closed : joinedFacts Tryz.prog 8 Tryz.f8 Rows.fnExactRaisedSpec Rows.fnExactRaisedRow = true := by
  unfold joinedFacts
  rw [kin, kun, kre, kva, klo, kmr, ksh, kme, kpk, klf]
  kernel_rfl
end Go.Proofs.YtaaagmgglolibaaGreat.fnExactRaised
