/-
  A row of noughts, as make lays it.
-/
import Derived.Test.YtpnccjcgnmhncaaBytes
import Derived.Test.YtpnccjcgnmhncaaLine
namespace Go.Proofs.Ytpnccjcgnmhncaa
open Go Go.RowKit

theorem made_zeros (n : Nat) : madeCells #[.int .i64 0] n = rowC (zeros n) := by
  rw [← filled_zero (fun _ => 0) n]
  have e : zeros n = List.replicate n 0 := by
    apply List.ext_getElem
    · simp [zeros, tabL]
    · intro i h1 h2; simp [zeros, tabL]
  rw [e]
  simp [filled, tabL]

end Go.Proofs.Ytpnccjcgnmhncaa
