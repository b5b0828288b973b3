/-
  The program's mayGain: whether one more could be kept.
-/
import Derived.Test.YtodielfilhodeaaKKeepIZz
import Derived.Test.YtodielfilhodeaaMathZz
import Derived.BigQuiet
namespace Go.Proofs.Ytodielfilhodeaa
open Go Go.RowKit

set_option maxRecDepth 100000 in
set_option maxHeartbeats 1000000 in
theorem iGain (P c k : Nat) (a : Option Addr) (hs : List Ht) (kn qv lv : Value) (f : Int) (w : World) (hP : Five w P kn qv (.int .i64 k) (.slice a hs.length c) lv 98) (hv : HView w a hs) (hk1 : 1 ≤ k) (hk2 : k ≤ 1000) :
    Calls Try.prog 175 #[.pointer (some ⟨P, 0, none⟩), .int .i64 f] w fun e w' => e = .returned (.bool (gainB hs k f)) ∧ ∃ n, w' = w.drewN n := by
  obtain ⟨_, _, p2, p3, _⟩ := hP.cells
  by_cases h1 : hs.length < k
  · have hd : decide (hs.length < k) = true := by simp [h1]
    have HV : Hid (gainB hs k f = true) := by show gainB hs k f = true; simp [gainB, h1]
    clear hP hv h1
    go_enter Try.func175, Try.ntmps175
    go_wp2_with fail
    go_quiet (fail)
    go_wp2_with fail
    go_ret
    exact ⟨ret_bool HV.out.symm, _, rfl⟩
  · have hd : decide (hs.length < k) = false := by simp [h1]
    obtain ⟨b, off, rfl, _, hseg⟩ := hv.seg (by omega)
    obtain ⟨_, d1⟩ := hseg (k - 1) (by omega)
    have HV : Hid (gainB hs k f = decide (f ≤ (hnth hs (k - 1)).2)) := by show gainB hs k f = _; simp [gainB, h1]
    have hi0 : (0 : Int) ≤ ((k - 1 : Nat) : Int) := Int.natCast_nonneg _
    have hi1 : ((k - 1 : Nat) : Int) < (hs.length : Int) := by omega
    obtain ⟨j, hj⟩ : ∃ j, j = k - 1 := ⟨_, rfl⟩
    have hs1 : (k : Int) - 1 = (j : Int) := by omega
    rw [← hj] at d1 HV hi0 hi1
    clear hP hv h1 hseg hj
    generalize (hnth hs j).2 = x at *
    go_enter Try.func175, Try.ntmps175
    go_wp2_with fail
    go_quiet (fail)
    go_wp2_with fail
    go_ret
    exact ⟨ret_bool HV.out.symm, _, rfl⟩

end Go.Proofs.Ytodielfilhodeaa
