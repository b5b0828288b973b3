/-
  The given Far, Dot, Steps and Reach: each answers as its plain function.
-/
import Derived.Test.YtiddimmifjklmaaOk
namespace Go.Proofs.Ytiddimmifjklmaa
open Go Go.RowKit

theorem ret_int {a b : Int} (h : a = b) : Ending.returned (.int .i64 a) = .returned (.int .i64 b) := by rw [h]

set_option maxHeartbeats 400000 in
theorem sMax (x y : Int) (w : World) :
    Calls Try.prog 34 #[.int .i64 x, .int .i64 y] w fun e w' => e = .returned (.int .i64 (maxV x y)) ∧ w' = w := by
  by_cases h : y < x
  · go_enter Try.func34, Try.ntmps34
    go_wp2
    go_ret
    exact ⟨ret_int (by unfold maxV; omega), rfl⟩
  · go_enter Try.func34, Try.ntmps34
    go_wp2
    go_ret
    exact ⟨ret_int (by unfold maxV; omega), rfl⟩

end Go.Proofs.Ytiddimmifjklmaa
