/-
  The laws' draws of marks: whatever the bytes are, new marks that are right.
-/
import Derived.Test.YthddhblmnfjciaaMRow
import Derived.Test.YthddhblmnfjciaaMCopy
namespace Go.Proofs.Ythddhblmnfjciaa
open Go Go.RowKit

theorem row_mono {base base' : Nat} {w : World} {g c : Nat} {xs : List Int} (h : Row base w g c xs) (hb : base' ≤ base) : Row base' w g c xs :=
  ⟨h.1, h.2.imp id fun ⟨g, cap, cur, h1, h2, h3⟩ => ⟨g, cap, cur, h1, Nat.le_trans hb h2, h3⟩⟩

/-- What a draw of marks hands back. -/
def DNew (base : Nat) (w : World) (g c : Nat) (ds : List Dm) (most : Int) : Prop := (ds.length : Int) ≤ most ∧ DRow base w g c ds ∧ ∃ width id : Int, 1 ≤ width ∧ width ≤ 3 ∧ id ≤ 1000 ∧ DGood width id ds

end Go.Proofs.Ythddhblmnfjciaa
