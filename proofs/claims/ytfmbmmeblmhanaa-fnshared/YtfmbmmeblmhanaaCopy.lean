/-
  The laws' own helpers over rows of numbers: toInt64S (a copy), eqInt64S (are two alike).
-/
import Derived.Test.YtfmbmmeblmhanaaProg
import Derived.WalkKit
import Derived.WalkSpells
import Derived.WalkLawsBesides
import Derived.Deep.OwnRows
import Derived.Deep.QuietTactic
import Derived.BigQuiet
import Derived.Test.YtfmbmmeblmhanaaCells
namespace Go.Proofs.Ytfmbmmeblmhanaa
open Go Go.RowKit

theorem Try.info2 : (Try.prog.info? 2).map (fun i => (i.zero, i.size, i.bytes)) = some (some (.int .i64 0), 1, 8) := by kernel_rfl

theorem ret_bool {a b : Bool} (h : a = b) : Ending.returned (.bool a) = .returned (.bool b) := by rw [h]

end Go.Proofs.Ytfmbmmeblmhanaa
