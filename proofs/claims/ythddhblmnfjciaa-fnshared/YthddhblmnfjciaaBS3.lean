/-
  The given Around.
-/
import Derived.Test.YthddhblmnfjciaaBI4
import Derived.Test.YthddhblmnfjciaaFresh
import Derived.Test.YthddhblmnfjciaaLast
import Derived.Deep.RegionHeld3
import Derived.Deep.CutRange
namespace Go.Proofs.Ythddhblmnfjciaa
open Go Go.RowKit

theorem sMin (x y : Int) (w : World) :
    Calls Try.prog 118 #[.int .i64 x, .int .i64 y] w fun e w' => e = .returned (.int .i64 (min x y)) ∧ w' = w := by
  by_cases h : x < y
  · have HV : Hid (min x y = x) := by show min x y = x; omega
    go_enter Try.func118, Try.ntmps118
    go_wp2
    go_ret
    exact ⟨ret_int HV.out.symm, rfl⟩
  · have HV : Hid (min x y = y) := by show min x y = y; omega
    go_enter Try.func118, Try.ntmps118
    go_wp2
    go_ret
    exact ⟨ret_int HV.out.symm, rfl⟩

theorem lowL_zero (ms : List Mk) : lowL ms 0 = mat ms 0 := tabL_list (mat ms 0)
theorem highL_zero (ms : List Mk) : highL ms 0 = mat ms 0 := tabL_list (mat ms 0)
theorem lowTo_next (ms : List Mk) (k : Nat) {j : Nat} (h : 1 ≤ j) : lowTo ms k j = min (lowTo ms k (j - 1)) (nth (mat ms j) k) := by
  obtain ⟨i, rfl⟩ : ∃ i, j = i + 1 := ⟨j - 1, by omega⟩
  rfl
theorem highTo_next (ms : List Mk) (k : Nat) {j : Nat} (h : 1 ≤ j) : highTo ms k j = maxV (highTo ms k (j - 1)) (nth (mat ms j) k) := by
  obtain ⟨i, rfl⟩ : ∃ i, j = i + 1 := ⟨j - 1, by omega⟩
  rfl
theorem IRow.drew {base : Nat} {w : World} {g c : Nat} {xs : List Int} (h : IRow base w g c xs) : IRow base w.drew g c xs := h
/-- A box under way: its block D, and its two rows. -/
def BoxAt (base : Nat) (w : World) (D g1 c1 g2 c2 n : Nat) (lo hi : List Int) : Prop :=
  Two w D (.slice (some ⟨g1, 0, none⟩) n c1) (.slice (some ⟨g2, 0, none⟩) n c2) 75 ∧ IRow base w g1 c1 lo ∧ IRow base w g2 c2 hi ∧ g1 ≠ g2 ∧ D ≠ g1 ∧ D ≠ g2 ∧ base ≤ D

theorem boxAt_mk {base : Nat} {w w2 : World} {D g1 c1 g2 c2 n : Nat} {lo hi : List Int} (two : Two w D (.slice (some ⟨g1, 0, none⟩) n c1) (.slice (some ⟨g2, 0, none⟩) n c2) 75) (r1 : IRow base w g1 c1 lo) (r2 : IRow base w g2 c2 hi)
    (n1 : g1 ≠ g2) (n2 : D ≠ g1) (n3 : D ≠ g2) (n4 : base ≤ D) (bel : Below base w2 w) :
    ∃ D' g1 c1 g2 c2, Value.pointer (some ⟨D, 0, none⟩) = .pointer (some ⟨D', 0, none⟩) ∧ BoxAt base w D' g1 c1 g2 c2 n lo hi ∧ Below base w2 w := ⟨D, g1, c1, g2, c2, rfl, ⟨two, r1, r2, n1, n2, n3, n4⟩, bel⟩

end Go.Proofs.Ythddhblmnfjciaa
