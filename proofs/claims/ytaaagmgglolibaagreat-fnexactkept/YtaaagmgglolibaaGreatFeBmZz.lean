/-
  The given l14Beam and Beam.
-/
import Derived.Test.YtaaagmgglolibaaGreatFeWalkZz
import Derived.Test.YtaaagmgglolibaaGreatMathZz
import Derived.Deep.CutBlock
import Derived.Deep.DeepCutAuto
namespace Go.Proofs.YtaaagmgglolibaaGreat
open Go Go.RowKit

theorem HRow.one (w : World) (h : Ht) (base : Nat) (hb : base ≤ w.heap.size) : HRow base (w.alloc (.cells #[.int .i64 h.1, .int .i64 h.2] 66)) w.heap.size 1 [h] := World.ownsRow_lit w #[.int .i64 h.1, .int .i64 h.2] 1 hb (by unfold maxLen; omega) rfl
/-- The three rows while one looks. -/
structure BeamIn (base : Nat) (w : World) (gs cs : Nat) (s : List Ht) (gi ci : Nat) (ids : List Int) (go co : Nat) (op : List Int) : Prop where
  rs : HRow base w gs cs s
  ri : Row base w gi ci ids
  ro : Row base w go co op
  n1 : gi ≠ gs
  n2 : go ≠ gs
  n3 : gi ≠ go
theorem BeamIn.next {base gs cs gi ci go co : Nat} {w w' : World} {s : List Ht} {ids op : List Int} (h : BeamIn base w gs cs s gi ci ids go co op) (L : Below w.heap.size w w') : BeamIn base w' gs cs s gi ci ids go co op :=
  ⟨h.rs.below (Nat.le_refl _) L, h.ri.next L h.ri.lt2.2, h.ro.next L h.ro.lt2.2, h.n1, h.n2, h.n3⟩

end Go.Proofs.YtaaagmgglolibaaGreat
