/-
  slices.Grow of nothing and slices.Concat of some rows of marks.
-/
import Derived.Test.YtbmljcpeonopmaaSCellsZz
import Derived.Test.YtbmljcpeonopmaaAppendZz
import Derived.Test.YtbmljcpeonopmaaArgsZz
import Derived.Lib.AppendZerosOnto
namespace Go.Proofs.Ytbmljcpeonopmaa
open Go Go.RowKit

theorem zeroM_size (n : Nat) : (Builtin.zeroCells #[.int .i64 0, .slice none 0 0] n).size = n * 2 := by simp [Builtin.zeroCells]

theorem wrap60 {y : Int} (h0 : 0 ≤ y) (h1 : y ≤ 60) : wrap64 y = y := by unfold wrap64; omega
/-- Rows of marks: where each lies, its room, its marks. -/
abbrev RwC := Option Addr × Nat × List Sm
def catR (L : List RwC) : List Sm := L.flatMap (·.2.2)
theorem catR_take {L : List RwC} {k : Nat} (h : k < L.length) : catR (L.take (k + 1)) = catR (L.take k) ++ L[k].2.2 := by
  unfold catR
  rw [List.take_add_one, List.getElem?_eq_getElem h, List.flatMap_append]
  congr 1
  simp
theorem catR_len {L : List RwC} {k : Nat} : (catR (L.take k)).length ≤ (catR L).length := by
  have e : catR L = catR (L.take k) ++ catR (L.drop k) := by
    unfold catR
    rw [← List.flatMap_append, List.take_append_drop]
  rw [e]; simp

end Go.Proofs.Ytbmljcpeonopmaa
