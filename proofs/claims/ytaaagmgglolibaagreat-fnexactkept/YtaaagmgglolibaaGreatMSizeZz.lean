/-
  The laws' own helpers over rows of marks: szMarkS (are they small enough).
-/
import Derived.Test.YtaaagmgglolibaaGreatCopyZz
import Derived.Below
import Derived.Test.YtaaagmgglolibaaGreatMCellsZz
namespace Go.Proofs.YtaaagmgglolibaaGreat
open Go Go.RowKit

def cutV (left : Int) (n : Nat) : Int := if left < n then -1 else left - n
theorem cutV_le {left : Int} (n : Nat) (h0 : -1 ≤ left) (h1 : left ≤ 1048576) : -1 ≤ cutV left n ∧ cutV left n ≤ 1048576 := by unfold cutV; split <;> omega
theorem cutV_small {left : Int} {n : Nat} (h1 : left ≤ 1048576) (h : 0 ≤ cutV left n) : n ≤ 1048576 := by unfold cutV at h; split at h <;> omega

set_option maxHeartbeats 400000 in
theorem szS (ao : Option Addr) (n cap : Nat) (left : Int) (w : World) (hn : n ≤ maxLen) (h0 : 0 ≤ left) (h1 : left ≤ 1048576) :
    Calls Tryz.prog 162 #[.slice ao n cap, .int .i64 left] w fun e w' => e = .returned (.int .i64 (cutV left n)) ∧ w' = w := by
  unfold maxLen at hn
  by_cases h : left < n
  · have hv : cutV left n = -1 := by unfold cutV; rw [if_pos h]
    have ht : left - n < 0 := by omega
    go_enter Tryz.func162, Tryz.ntmps162
    go_wp2
    go_ret
    exact ⟨ret_int hv.symm, rfl⟩
  · have hv : cutV left n = left - n := by unfold cutV; rw [if_neg h]
    have HV := hidP hv
    clear hv
    have ht : ¬ left - n < 0 := by omega
    go_enter Tryz.func162, Tryz.ntmps162
    go_wp2
    go_ret
    exact ⟨ret_int HV.out.symm, rfl⟩

set_option maxHeartbeats 400000 in
theorem szM (m : Mk) (ao : Option Addr) (cap : Nat) (left : Int) (w : World) (hn : m.2.length ≤ maxLen) (h0 : 0 ≤ left) (h1 : left ≤ 1048576) :
    Calls Tryz.prog 65 #[.agg #[.int .i64 m.1, .slice ao m.2.length cap], .int .i64 left] w fun e w' => e = .returned (.int .i64 (cutV left m.2.length)) ∧ Below w.heap.size w w' := by
  have hv := cutV_le m.2.length (by omega) h1
  have HB : Hid (∀ o, Below w.heap.size w (w.alloc o)) := fun o => (Below.refl _ _).alloc (Nat.le_refl _) _
  by_cases h : cutV left m.2.length < 0
  · go_enter Tryz.func65, Tryz.ntmps65
    go_wp2_with fail
    refine (szS ao m.2.length cap left _ hn h0 h1).mono ?_
    rintro e w1 ⟨rfl, rfl⟩
    go_wp2_with fail
    go_ret
    exact ⟨ret_int (by omega), HB.out _⟩
  · go_enter Tryz.func65, Tryz.ntmps65
    go_wp2_with fail
    refine (szS ao m.2.length cap left _ hn h0 h1).mono ?_
    rintro e w1 ⟨rfl, rfl⟩
    go_wp2_with fail
    go_ret
    exact ⟨rfl, HB.out _⟩

theorem mnth_mem_len (ms : List Mk) (i : Nat) : (mat ms i).length = (mnth ms i).2.length := rfl

end Go.Proofs.YtaaagmgglolibaaGreat
