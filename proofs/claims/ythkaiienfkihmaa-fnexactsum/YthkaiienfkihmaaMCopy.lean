/-
  The laws' own helpers over rows of marks: toMarkS (a copy), eqMarkS (are two alike).
-/
import Derived.Test.YthkaiienfkihmaaMSize
import Derived.Deep.RegionHeld3
namespace Go.Proofs.Ythkaiienfkihmaa
open Go Go.RowKit

theorem ms_eq {ms ns : List Mk} (hl : ms.length = ns.length) (h : ∀ j, j < ms.length → mnth ms j = mnth ns j) : ms = ns :=
  mk_eq hl fun i hi => ⟨congrArg Prod.fst (h i hi), congrArg Prod.snd (h i hi)⟩

end Go.Proofs.Ythkaiienfkihmaa
