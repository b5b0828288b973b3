/-
 The closed facts of FnExactApplied's row,one by one.
-/
import Derived.Test.YtilkaeclgmcolaaGreatRows
import Derived.JoinedOf
import Derived.JoinedAt
import Derived.RowKit3
namespace Go.Proofs.YtilkaeclgmcolaaGreat.fnExactApplied
open Go.ChangeShapes Go.WideShapes Go.ChangeAt Go.RowKit
theorem kin:(Rows.fnExactAppliedRow.inPlace ==Tryz.prog.inPlace 3)=true:=by kernel_rfl
theorem kun:(Rows.fnExactAppliedRow.unfollowed ==Tryz.prog.unfollowed 3)=true:=by kernel_rfl
theorem kre:(Rows.fnExactAppliedRow.recurses ==Tryz.prog.recurses 3)=true:=by kernel_rfl
theorem kva:(Rows.fnExactAppliedRow.named ==Tryz.prog.varsNamed 3)=true:=by kernel_rfl
theorem klo:laidOutB Tryz.prog=true:=by kernel_rfl
theorem kmr:mapsRowed Tryz.prog=true:=by kernel_rfl
theorem ksh:Tryz.prog.stopsHeard=true:=by kernel_rfl
theorem kme:Tryz.prog.mayEnter=true:=by kernel_rfl
theorem kpk:(Rows.fnExactAppliedRow.plainKeys ==Tryz.prog.plainKeys)=true:=by kernel_rfl
theorem klf:(Rows.fnExactAppliedRow.lifted ==Tryz.prog.liftsFinal)=true:=by kernel_rfl
theorem closed:joinedFacts Tryz.prog 3 Tryz.f3 Rows.fnExactAppliedSpec Rows.fnExactAppliedRow=true:=by
 unfold joinedFacts
 rw [kin,kun,kre,kva,klo,kmr,ksh,kme,kpk,klf]
 kernel_rfl
end Go.Proofs.YtilkaeclgmcolaaGreat.fnExactApplied
