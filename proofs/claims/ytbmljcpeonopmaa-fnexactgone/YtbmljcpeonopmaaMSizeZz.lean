/-
  The laws' own helpers over rows of marks: szMarkS (are they small enough).
-/
import Derived.Test.YtbmljcpeonopmaaCopyZz
import Derived.Below
import Derived.Test.YtbmljcpeonopmaaMCellsZz
namespace Go.Proofs.Ytbmljcpeonopmaa
open Go Go.RowKit

def cutV (left : Int) (n : Nat) : Int := if left < n then -1 else left - n
theorem cutV_le {left : Int} (n : Nat) (h0 : -1 ≤ left) (h1 : left ≤ 1048576) : -1 ≤ cutV left n ∧ cutV left n ≤ 1048576 := by unfold cutV; split <;> omega
theorem cutV_small {left : Int} {n : Nat} (h1 : left ≤ 1048576) (h : 0 ≤ cutV left n) : n ≤ 1048576 := by unfold cutV at h; split at h <;> omega

set_option maxHeartbeats 400000 in
theorem szS (ao : Option Addr) (n cap : Nat) (left : Int) (w : World) (hn : n ≤ maxLen) (h0 : 0 ≤ left) (h1 : left ≤ 1048576) :
    Calls Try.prog 45 #[.slice ao n cap, .int .i64 left] w fun e w' => e = .returned (.int .i64 (cutV left n)) ∧ w' = w := by
  unfold maxLen at hn
  by_cases h : left < n
  · have hv : cutV left n = -1 := by unfold cutV; rw [if_pos h]
    have ht : left - n < 0 := by omega
    go_enter Try.func45, Try.ntmps45
    go_wp2
    go_ret
    exact ⟨ret_int hv.symm, rfl⟩
  · have hv : cutV left n = left - n := by unfold cutV; rw [if_neg h]
    have HV := hidP hv
    clear hv
    have ht : ¬ left - n < 0 := by omega
    go_enter Try.func45, Try.ntmps45
    go_wp2
    go_ret
    exact ⟨ret_int HV.out.symm, rfl⟩

set_option maxHeartbeats 400000 in
theorem szM (m : Mk) (ao : Option Addr) (cap : Nat) (left : Int) (w : World) (hn : m.2.length ≤ maxLen) (h0 : 0 ≤ left) (h1 : left ≤ 1048576) :
    Calls Try.prog 60 #[.agg #[.int .i64 m.1, .slice ao m.2.length cap], .int .i64 left] w fun e w' => e = .returned (.int .i64 (cutV left m.2.length)) ∧ Below w.heap.size w w' := by
  have hv := cutV_le m.2.length (by omega) h1
  have HB : Hid (∀ o, Below w.heap.size w (w.alloc o)) := fun o => (Below.refl _ _).alloc (Nat.le_refl _) _
  by_cases h : cutV left m.2.length < 0
  · go_enter Try.func60, Try.ntmps60
    go_wp2_with fail
    refine (szS ao m.2.length cap left _ hn h0 h1).mono ?_
    rintro e w1 ⟨rfl, rfl⟩
    go_wp2_with fail
    go_ret
    exact ⟨ret_int (by omega), HB.out _⟩
  · go_enter Try.func60, Try.ntmps60
    go_wp2_with fail
    refine (szS ao m.2.length cap left _ hn h0 h1).mono ?_
    rintro e w1 ⟨rfl, rfl⟩
    go_wp2_with fail
    go_ret
    exact ⟨rfl, HB.out _⟩

theorem mnth_mem_len (ms : List Mk) (i : Nat) : (mat ms i).length = (mnth ms i).2.length := rfl

set_option maxHeartbeats 400000 in
theorem szMS_long (ao : Option Addr) (n cap : Nat) (w : World) (hn : n ≤ maxLen) (h : 1048576 < n) :
    Calls Try.prog 28 #[.slice ao n cap, .int .i64 1048576] w fun e w' => e = .returned (.int .i64 (-1)) ∧ w' = w := by
  unfold maxLen at hn
  have ht : (1048576 : Int) - n < 0 := by omega
  go_enter Try.func28, Try.ntmps28
  go_wp2
  go_ret
  exact ⟨rfl, rfl⟩

set_option maxHeartbeats 400000 in
theorem szMS_nil (ao : Option Addr) (cap : Nat) (w : World) :
    Calls Try.prog 28 #[.slice ao 0 cap, .int .i64 1048576] w fun e w' => e = .returned (.int .i64 1048576) ∧ w' = w := by
  go_enter Try.func28, Try.ntmps28
  go_wp2
  refine wp_loop_rounds 1 ?_
  rw [rounds_succ]
  go_wp2
  go_ret
  exact ⟨rfl, rfl⟩

set_option maxHeartbeats 800000 in
theorem szMS_seg (b off cap : Nat) (ms : List Mk) (w : World) (hs : MSeg w b off ms) (hb : b < w.heap.size) (hn : ms.length ≤ 1048576) (hat : ∀ i, (mat ms i).length ≤ maxLen) :
    Calls Try.prog 28 #[.slice (some ⟨b, off, none⟩) ms.length cap, .int .i64 1048576] w fun e w' => ∃ r, e = .returned (.int .i64 r) ∧ (r < 0 ∨ MSmall ms) ∧ Below w.heap.size w w' := by
  have ht : ¬ (1048576 : Int) - ms.length < 0 := by omega
  go_enter Try.func28, Try.ntmps28
  go_wp2
  go_loopw [1, 5] (fun l i wr => ∃ (k : Nat) (left : Int), k ≤ ms.length ∧ i = .int .i64 k ∧ l = .int .i64 left ∧ 0 ≤ left ∧ left ≤ 1048576 ∧ (∀ j, j < k → (mat ms j).length ≤ 1048576) ∧ Below w.heap.size w wr) (fun _ i _ => ms.length - (intOf i).toNat)
  case atStart => exact ⟨0, 1048576 - ms.length, Nat.zero_le _, rfl, rfl, by omega, by omega, fun j hj => by omega, Below.refl _ _⟩
  case round =>
    obtain ⟨k, left, hk, rfl, rfl, h0, h1, hall, L⟩ := hrel
    have HA := hidP hall
    clear hall
    by_cases hlt : k < ms.length
    · obtain ⟨hc0, ao, cap', hc1, hv⟩ := (hs.below hb (Nat.le_refl _) L).at hlt
      have hcut := cutV_le (mat ms k).length (by omega) h1
      have HS := hidP (fun h => cutV_small (n := (mat ms k).length) h1 h)
      have hz := L.size
      clear hv
      go_wp2_with fail
      refine (szM (mnth ms k) ao cap' left _ (hat k) h0 h1).mono ?_
      rintro e w1 ⟨rfl, L1⟩
      rw [← mnth_mem_len] at *
      by_cases hneg : cutV left (mat ms k).length < 0
      · go_wp2_with fail
        go_ret
        exact ⟨_, rfl, Or.inl (by omega), L.trans (L1.mono hz)⟩
      · go_wp2_with fail
        go_roundw
        case rel => exact ⟨k + 1, cutV left (mat ms k).length, by omega, by go_num, rfl, by omega, by omega, fun j hj => by
          rcases Nat.lt_or_ge j k with h | h
          · exact HA.out j h
          · rw [show j = k by omega]; exact HS.out (by omega), L.trans (L1.mono hz)⟩
        case measure => simp [intOf]; omega
    · go_wp2
      go_ret
      obtain rfl : k = ms.length := by omega
      refine ⟨_, rfl, Or.inr ⟨hn, fun i => ?_⟩, L⟩
      rcases Nat.lt_or_ge i ms.length with h | h
      · exact HA.out i h
      · simp [mat, List.getD, h]

theorem szMS (ao : Option Addr) (cap : Nat) (ms : List Mk) (w : World) (hv : MView w ao ms) (hn : ms.length ≤ maxLen) (hat : ∀ i, (mat ms i).length ≤ maxLen) :
    Calls Try.prog 28 #[.slice ao ms.length cap, .int .i64 1048576] w fun e w' => ∃ r, e = .returned (.int .i64 r) ∧ (r < 0 ∨ MSmall ms) ∧ Below w.heap.size w w' := by
  rcases Nat.lt_or_ge 1048576 ms.length with h | h
  · refine (szMS_long ao ms.length cap w hn h).mono ?_
    rintro e w' ⟨rfl, rfl⟩
    exact ⟨_, rfl, Or.inl (by omega), Below.refl _ _⟩
  · rcases hv with rfl | ⟨b, off, rfl, hb, hs⟩
    · refine (szMS_nil ao cap w).mono ?_
      rintro e w' ⟨rfl, rfl⟩
      exact ⟨_, rfl, Or.inr ⟨by simp, fun i => by simp [mat]⟩, Below.refl _ _⟩
    · exact szMS_seg b off cap ms w hs hb h hat

end Go.Proofs.Ytbmljcpeonopmaa
