/-
  The laws' own helpers over rows of marks: toMarkS (a copy), eqMarkS (are two alike).
-/
import Derived.Test.YtfmbmmeblmhanaaMSize
import Derived.Deep.RegionHeld3
namespace Go.Proofs.Ytfmbmmeblmhanaa
open Go Go.RowKit

theorem Try.info37 : (Try.prog.info? 37).map (fun i => (i.zero, i.size, i.bytes)) = some (some (.agg #[.int .i64 0, .slice none 0 0]), 2, 32) := by kernel_rfl

theorem ms_eq {ms ns : List Mk} (hl : ms.length = ns.length) (h : ∀ j, j < ms.length → mnth ms j = mnth ns j) : ms = ns :=
  mk_eq hl fun i hi => ⟨congrArg Prod.fst (h i hi), congrArg Prod.snd (h i hi)⟩

end Go.Proofs.Ytfmbmmeblmhanaa
