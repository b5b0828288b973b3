/-
 The closed facts of FnFelt's row, one by one.
-/
import Derived.Test.YtaaagmgglolibaaGreatRows
import Derived.JoinedOf
import Derived.JoinedAt
import Derived.RowKit3
namespace Go.Proofs.YtaaagmgglolibaaGreat.fnFelt
open Go.ChangeShapes Go.WideShapes Go.ChangeAt Go.RowKit
theorem kin : (Rows.fnFeltRow.inPlace == Tryz.prog.inPlace 5) = true := by kernel_rfl
theorem kun : (Rows.fnFeltRow.unfollowed == Tryz.prog.unfollowed 5) = true := by kernel_rfl
theorem kre : (Rows.fnFeltRow.recurses == Tryz.prog.recurses 5) = true := by kernel_rfl
theorem kva : (Rows.fnFeltRow.named == Tryz.prog.varsNamed 5) = true := by kernel_rfl
theorem klo : laidOutB Tryz.prog = true := by kernel_rfl
theorem kmr : mapsRowed Tryz.prog = true := by kernel_rfl
theorem ksh : Tryz.prog.stopsHeard = true := by kernel_rfl
theorem kme : Tryz.prog.mayEnter = true := by kernel_rfl
theorem kpk : (Rows.fnFeltRow.plainKeys == Tryz.prog.plainKeys) = true := by kernel_rfl
theorem klf : (Rows.fnFeltRow.lifted == Tryz.prog.liftsFinal) = true := by kernel_rfl
theorem closed : joinedFacts Tryz.prog 5 Tryz.f5 Rows.fnFeltSpec Rows.fnFeltRow = true := by
 unfold joinedFacts
 rw [kin, kun, kre, kva, klo, kmr, ksh, kme, kpk, klf]
 kernel_rfl
end Go.Proofs.YtaaagmgglolibaaGreat.fnFelt
