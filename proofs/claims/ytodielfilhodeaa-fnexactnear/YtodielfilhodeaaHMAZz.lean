/-
  slices.Grow of nothing and slices.Concat of two lists of hits.
  The program's own Merged and HitsOk.
-/
import Derived.Test.YtodielfilhodeaaHM9Zz
import Derived.Lib.AppendZerosOnto
namespace Go.Proofs.Ytodielfilhodeaa
open Go Go.RowKit

theorem zero_size (n : Nat) : (Builtin.zeroCells #[.int .i64 0, .int .i64 0] n).size = n * 2 := by simp [Builtin.zeroCells]

def catK (aa bb : List Ht) (k : Nat) : List Ht := if k = 0 then [] else if k = 1 then aa else aa ++ bb

end Go.Proofs.Ytodielfilhodeaa
namespace Go.Proofs.Ytodielfilhodeaa
open Go Go.RowKit

theorem append_none (ao : Option Addr) (cap : Nat) (ty : TypeId) (w : World) : (Builtin.append_ #[69, 69] ty #[.slice none 0 0, .slice ao 0 cap]).run Try.prog w = .ok (.slice none 0 0) w := by
  unfold Builtin.append_
  cases ao with
  | none => simp [go_sem]
  | some a => simp [go_sem]

end Go.Proofs.Ytodielfilhodeaa
