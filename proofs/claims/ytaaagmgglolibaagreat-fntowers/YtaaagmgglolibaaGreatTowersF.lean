/-
 The closed facts of FnTowers's row, one by one.
-/
import Derived.Test.YtaaagmgglolibaaGreatRows
import Derived.JoinedOf
import Derived.JoinedAt
import Derived.RowKit3
namespace Go.Proofs.YtaaagmgglolibaaGreat.fnTowers
open Go.ChangeShapes Go.WideShapes Go.ChangeAt Go.RowKit
theorem kin : (Rows.fnTowersRow.inPlace == Tryz.prog.inPlace 3) = true := by kernel_rfl
theorem kun : (Rows.fnTowersRow.unfollowed == Tryz.prog.unfollowed 3) = true := by kernel_rfl
theorem kre : (Rows.fnTowersRow.recurses == Tryz.prog.recurses 3) = true := by kernel_rfl
theorem kva : (Rows.fnTowersRow.named == Tryz.prog.varsNamed 3) = true := by kernel_rfl
theorem klo : laidOutB Tryz.prog = true := by kernel_rfl
theorem kmr : mapsRowed Tryz.prog = true := by kernel_rfl
theorem ksh : Tryz.prog.stopsHeard = true := by kernel_rfl
theorem kme : Tryz.prog.mayEnter = true := by kernel_rfl
theorem kpk : (Rows.fnTowersRow.plainKeys == Tryz.prog.plainKeys) = true := by kernel_rfl
theorem klf : (Rows.fnTowersRow.lifted == Tryz.prog.liftsFinal) = true := by kernel_rfl
theorem closed : joinedFacts Tryz.prog 3 Tryz.f3 Rows.fnTowersSpec Rows.fnTowersRow = true := by
 unfold joinedFacts
 rw [kin, kun, kre, kva, klo, kmr, ksh, kme, kpk, klf]
 kernel_rfl
end Go.Proofs.YtaaagmgglolibaaGreat.fnTowers
