/-
  Both Cell: a row that reads as the cell of a point, or as nothing.
-/
import Derived.Test.YtodielfilhodeaaMathZz
import Derived.Test.YtodielfilhodeaaMovedSZz
import Derived.Test.YtodielfilhodeaaMCopyZz
namespace Go.Proofs.Ytodielfilhodeaa
open Go Go.RowKit

set_option maxHeartbeats 400000 in
theorem iDownG (x s : Int) (w : World) (hs : 1 ≤ s) (hs' : s ≤ 1000) (h1 : -1000 ≤ x) (h2 : x ≤ 1000) :
    Calls Try.prog 188 #[.int .i64 x, .int .i64 s] w fun e w' => e = .returned (.int .i64 (x / s)) ∧ w' = w := by
  have hs0 : (s == 0) = false := by simp; omega
  have hbd := floor_bd (n := x) (s := s) (by omega) h1 h2
  by_cases h : x < 0
  · have HV := hideP (floor_low (n := x) (s := s) (by omega) h)
    have hw1 : IntKind.i64.wrap ((x - (s - 1)).tdiv s) = (x - (s - 1)).tdiv s := by rw [HV.out]; exact IntWalk.i64_in _ ⟨by omega, by omega⟩
    clear hbd
    go_enter Try.func188, Try.ntmps188
    go_wp2
    go_ret
    exact ⟨ret_int HV.out, rfl⟩
  · have HV := hideP (tdiv_pos (n := x) (s := s) (by omega))
    have hw1 : IntKind.i64.wrap (x.tdiv s) = x.tdiv s := by rw [HV.out]; exact IntWalk.i64_in _ ⟨by omega, by omega⟩
    clear hbd
    go_enter Try.func188, Try.ntmps188
    go_wp2
    go_ret
    exact ⟨ret_int HV.out, rfl⟩

set_option maxHeartbeats 400000 in
theorem iSideOk (s : Int) (w : World) :
    Calls Try.prog 106 #[.int .i64 s] w fun e w' => e = .returned (.bool (gsideB s)) ∧ w' = w := by
  by_cases h1 : s ≥ 1
  · by_cases h2 : s ≤ 1000
    · have HV : Hid (gsideB s = true) := by show gsideB s = true; simp [gsideB]; omega
      go_enter Try.func106, Try.ntmps106
      go_wp2
      go_ret
      exact ⟨ret_bool HV.out.symm, rfl⟩
    · have HV : Hid (gsideB s = false) := by show gsideB s = false; simp [gsideB]; omega
      go_enter Try.func106, Try.ntmps106
      go_wp2
      go_ret
      exact ⟨ret_bool HV.out.symm, rfl⟩
  · have HV : Hid (gsideB s = false) := by show gsideB s = false; simp [gsideB]; omega
    go_enter Try.func106, Try.ntmps106
    go_wp2
    go_ret
    exact ⟨ret_bool HV.out.symm, rfl⟩

/-- A row of the call's own that reads as xs. -/
def IOwn (base : Nat) (w : World) (g c : Nat) (xs : List Int) : Prop := w.ownsRow base 2 1 (.slice (some ⟨g, 0, none⟩) xs.length c) xs.length (xs.map (Value.int .i64))

end Go.Proofs.Ytodielfilhodeaa
