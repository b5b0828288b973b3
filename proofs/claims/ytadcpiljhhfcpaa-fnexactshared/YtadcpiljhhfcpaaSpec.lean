/-
  The given Far, Dot, Steps and Reach: each answers as its plain function.
-/
import Derived.Test.YtadcpiljhhfcpaaOk
namespace Go.Proofs.Ytadcpiljhhfcpaa
open Go Go.RowKit

theorem ret_int {a b : Int} (h : a = b) : Ending.returned (.int .i64 a) = .returned (.int .i64 b) := by rw [h]

set_option maxHeartbeats 400000 in
theorem sTwo (ao ao' : Option Addr) (cap cap' : Nat) (xs ys : List Int) (w : World) (hv : View w ao xs) (hv' : View w ao' ys) (hn : xs.length ≤ 1048576) (hn' : ys.length ≤ 1048576) :
    Calls Try.prog 33 #[.slice ao xs.length cap, .slice ao' ys.length cap'] w fun e w' => e = .returned (.bool (twoB xs ys)) ∧ w' = w := by
  rcases ha : okB xs with _ | _
  · have HT := twoB_left (b := ys) ha
    go_enter Try.func33, Try.ntmps33
    go_wp2_with (go_at_call 54; refine (sOk ao cap xs _ hv hn).mono ?_; rintro e w' ⟨rfl, rfl⟩)
    go_ret
    exact ⟨ret_bool (by simp [HT]), rfl⟩
  · rcases hb : okB ys with _ | _
    · have HT := twoB_right (a := xs) hb
      go_enter Try.func33, Try.ntmps33
      go_wp2_with fail
      refine (sOk ao cap xs _ hv hn).mono ?_
      rintro e w' ⟨rfl, rfl⟩
      go_wp2_with fail
      refine (sOk ao' cap' ys _ hv' hn').mono ?_
      rintro e w' ⟨rfl, rfl⟩
      go_wp2_with fail
      go_ret
      exact ⟨ret_bool (by simp [HT]), rfl⟩
    · by_cases hl : xs.length = ys.length
      · have HT := twoB_true ha hb hl
        have hlb : ((xs.length : Int) == (ys.length : Int)) = true := by simp [hl]
        clear hl
        go_enter Try.func33, Try.ntmps33
        go_wp2_with fail
        refine (sOk ao cap xs _ hv hn).mono ?_
        rintro e w' ⟨rfl, rfl⟩
        go_wp2_with fail
        refine (sOk ao' cap' ys _ hv' hn').mono ?_
        rintro e w' ⟨rfl, rfl⟩
        go_wp2_with fail
        go_ret
        exact ⟨ret_bool (by simp [HT]), rfl⟩
      · have HT := twoB_len hl
        have hlb : ((xs.length : Int) == (ys.length : Int)) = false := by simp; omega
        clear hl
        go_enter Try.func33, Try.ntmps33
        go_wp2_with fail
        refine (sOk ao cap xs _ hv hn).mono ?_
        rintro e w' ⟨rfl, rfl⟩
        go_wp2_with fail
        refine (sOk ao' cap' ys _ hv' hn').mono ?_
        rintro e w' ⟨rfl, rfl⟩
        go_wp2_with fail
        go_ret
        exact ⟨ret_bool (by simp [HT]), rfl⟩

set_option maxHeartbeats 400000 in
theorem sAbs (x : Int) (w : World) (h1 : -2000 ≤ x) (h2 : x ≤ 2000) :
    Calls Try.prog 50 #[.int .i64 x] w fun e w' => e = .returned (.int .i64 (absV x)) ∧ w' = w := by
  by_cases h : x < 0
  · go_enter Try.func50, Try.ntmps50
    go_wp2
    go_ret
    exact ⟨ret_int (by unfold absV; omega), rfl⟩
  · go_enter Try.func50, Try.ntmps50
    go_wp2
    go_ret
    exact ⟨ret_int (by unfold absV; omega), rfl⟩

set_option maxHeartbeats 400000 in
theorem sMax (x y : Int) (w : World) :
    Calls Try.prog 39 #[.int .i64 x, .int .i64 y] w fun e w' => e = .returned (.int .i64 (maxV x y)) ∧ w' = w := by
  by_cases h : y < x
  · go_enter Try.func39, Try.ntmps39
    go_wp2
    go_ret
    exact ⟨ret_int (by unfold maxV; omega), rfl⟩
  · go_enter Try.func39, Try.ntmps39
    go_wp2
    go_ret
    exact ⟨ret_int (by unfold maxV; omega), rfl⟩

end Go.Proofs.Ytadcpiljhhfcpaa
