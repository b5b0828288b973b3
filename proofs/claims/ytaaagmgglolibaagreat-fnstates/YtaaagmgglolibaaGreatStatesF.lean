/-
 The closed facts of FnStates's row,one by one.
-/
import Derived.Test.YtaaagmgglolibaaGreatRows
import Derived.JoinedOf
import Derived.JoinedAt
import Derived.RowKit3
namespace Go.Proofs.YtaaagmgglolibaaGreat.fnStates
open Go.ChangeShapes Go.WideShapes Go.ChangeAt Go.RowKit
theorem kin:(Rows.fnStatesRow.inPlace ==Tryz.prog.inPlace 4)=true:=by kernel_rfl
theorem kun:(Rows.fnStatesRow.unfollowed ==Tryz.prog.unfollowed 4)=true:=by kernel_rfl
theorem kre:(Rows.fnStatesRow.recurses ==Tryz.prog.recurses 4)=true:=by kernel_rfl
theorem kva:(Rows.fnStatesRow.named ==Tryz.prog.varsNamed 4)=true:=by kernel_rfl
theorem klo:laidOutB Tryz.prog=true:=by kernel_rfl
theorem kmr:mapsRowed Tryz.prog=true:=by kernel_rfl
theorem ksh:Tryz.prog.stopsHeard=true:=by kernel_rfl
theorem kme:Tryz.prog.mayEnter=true:=by kernel_rfl
theorem kpk:(Rows.fnStatesRow.plainKeys ==Tryz.prog.plainKeys)=true:=by kernel_rfl
theorem klf:(Rows.fnStatesRow.lifted ==Tryz.prog.liftsFinal)=true:=by kernel_rfl
theorem closed:joinedFacts Tryz.prog 4 Tryz.f4 Rows.fnStatesSpec Rows.fnStatesRow=true:=by
 unfold joinedFacts
 rw [kin,kun,kre,kva,klo,kmr,ksh,kme,kpk,klf]
 kernel_rfl
end Go.Proofs.YtaaagmgglolibaaGreat.fnStates
