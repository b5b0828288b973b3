/-
  The program's Radius and choiceOk.
-/
import Derived.Test.YtfbindjacmaeoaaZLnkZz
import Derived.Test.YtfbindjacmaeoaaZSpBZz
import Derived.Test.YtfbindjacmaeoaaGIdsZz
namespace Go.Proofs.Ytfbindjacmaeoaa
open Go Go.RowKit

set_option maxRecDepth 100000 in
set_option maxHeartbeats 1000000 in
theorem iChoice (ao : Option Addr) (cap : Nat) (ms : List Mk) (k kd : Int) (w : World) (hv : MView w ao ms) (hsm : MSmall ms) :
    Calls Try.prog 70 #[.slice ao ms.length cap, .int .i64 k, .int .i64 kd] w fun e w' => e = .returned (.bool (chosB ms k kd)) ∧ Below w.heap.size w w' := by
  have HC := hidP (iMarks ao cap ms w hv hsm)
  have HK := fun w => hidP (iKind kd w)
  have hn := hsm.1
  clear hv hsm
  by_cases h1 : k ≥ 1
  · by_cases h2 : k ≤ ms.length
    · rcases hm : marksB ms with _ | _
      · have HV := hidP (chosB_marks (k := k) (kd := kd) hm)
        rw [hm] at HC
        clear hm
        go_enter Try.func70, Try.ntmps70
        go_wp2_with fail
        refine HC.out.mono ?_
        rintro e w1 ⟨rfl, L1⟩
        go_wp2_with fail
        go_ret
        exact ⟨ret_bool HV.out.symm, L1⟩
      · rw [hm] at HC
        have HV : Hid (chosB ms k kd = kindB kd) := by show _ = _; rw [chosB, hm]; simp [h1, h2]
        clear hm
        go_enter Try.func70, Try.ntmps70
        go_wp2_with fail
        refine HC.out.mono ?_
        rintro e w1 ⟨rfl, L1⟩
        go_wp2_with fail
        refine (HK _).out.mono ?_
        rintro e w2 ⟨rfl, hw2⟩
        subst w2
        go_wp2_with fail
        go_ret
        exact ⟨ret_bool HV.out.symm, L1⟩
    · have HV := hidP (chosB_false (ms := ms) (k := k) (kd := kd) (fun h => by omega))
      go_enter Try.func70, Try.ntmps70
      go_wp2_with fail
      go_ret
      exact ⟨ret_bool HV.out.symm, Below.refl _ _⟩
  · have HV := hidP (chosB_false (ms := ms) (k := k) (kd := kd) (fun h => by omega))
    go_enter Try.func70, Try.ntmps70
    go_wp2_with fail
    go_ret
    exact ⟨ret_bool HV.out.symm, Below.refl _ _⟩

end Go.Proofs.Ytfbindjacmaeoaa
