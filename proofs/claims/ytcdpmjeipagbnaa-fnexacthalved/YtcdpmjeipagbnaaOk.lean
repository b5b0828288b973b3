/-
  What is a point: the given PointOk and the program's own, each answers okB.
-/
import Derived.Test.YtcdpmjeipagbnaaCopy
namespace Go.Proofs.Ytcdpmjeipagbnaa
open Go Go.RowKit

set_option maxHeartbeats 400000 in
theorem sOk_bad (ao : Option Addr) (n cap : Nat) (w : World) (h : n < 1 ∨ 4 < n) (hn : n ≤ 1048576) :
    Calls Try.prog 72 #[.slice ao n cap] w fun e w' => e = .returned (.bool false) ∧ w' = w := by
  rcases h with h | h
  · go_enter Try.func72, Try.ntmps72
    go_wp2
    go_ret
    exact ⟨rfl, rfl⟩
  · have h1 : ¬ n < 1 := by omega
    go_enter Try.func72, Try.ntmps72
    go_wp2
    go_ret
    exact ⟨rfl, rfl⟩

set_option maxHeartbeats 400000 in
theorem sOk_seg (b off cap : Nat) (xs : List Int) (w : World) (hs : Seg w b off xs) (h1 : 1 ≤ xs.length) (h4 : xs.length ≤ 4) :
    Calls Try.prog 72 #[.slice (some ⟨b, off, none⟩) xs.length cap] w fun e w' => e = .returned (.bool (okB xs)) ∧ w' = w := by
  go_enter Try.func72, Try.ntmps72
  go_wp2
  go_loop [3] (fun i => ∃ k : Nat, k ≤ xs.length ∧ i = .int .i64 k ∧ ∀ j, j < k → -1000 ≤ nth xs j ∧ nth xs j ≤ 1000) (fun i => xs.length - (intOf i).toNat)
  case atStart => exact ⟨0, Nat.zero_le _, rfl, fun j hj => by omega⟩
  case round =>
    obtain ⟨k, hk, rfl, hall⟩ := hrel
    have HA : Hid (∀ j, j < k → -1000 ≤ nth xs j ∧ nth xs j ≤ 1000) := hall
    clear hall
    by_cases hlt : k < xs.length
    · have hc := hs k hlt
      by_cases ha : -1000 ≤ nth xs k
      · by_cases hb : nth xs k ≤ 1000
        · go_wp2
          go_round
          case rel => exact ⟨k + 1, by omega, by go_num, fun j hj => by
            rcases Nat.lt_or_ge j k with h | h
            · exact HA.out j h
            · rw [show j = k by omega]; exact ⟨ha, hb⟩⟩
          case measure => simp [intOf]; omega
        · go_wp2
          go_ret
          exact ⟨ret_bool (Eq.symm (okB_out k (by omega))), rfl⟩
      · go_wp2
        go_ret
        exact ⟨ret_bool (Eq.symm (okB_out k (by omega))), rfl⟩
    · go_wp2
      go_ret
      obtain rfl : k = xs.length := by omega
      exact ⟨ret_bool (Eq.symm (okB_mk h1 h4 HA.out)), rfl⟩

theorem sOk (ao : Option Addr) (cap : Nat) (xs : List Int) (w : World) (hv : View w ao xs) (hn : xs.length ≤ 1048576) :
    Calls Try.prog 72 #[.slice ao xs.length cap] w fun e w' => e = .returned (.bool (okB xs)) ∧ w' = w := by
  by_cases h : 1 ≤ xs.length ∧ xs.length ≤ 4
  · rcases hv with rfl | ⟨b, off, rfl, _, hs⟩
    · simp at h
    · exact sOk_seg b off cap xs w hs h.1 h.2
  · refine (sOk_bad ao xs.length cap w (by omega) hn).mono ?_
    rintro e w' ⟨rfl, rfl⟩
    refine ⟨ret_bool ?_, rfl⟩
    rcases Nat.lt_or_ge xs.length 1 with h1 | h1
    · exact (okB_short h1).symm
    · exact (okB_long (by omega)).symm

set_option maxHeartbeats 400000 in
theorem pOk_bad (ao : Option Addr) (n cap : Nat) (w : World) (h : n < 1 ∨ 4 < n) (hn : n ≤ 1048576) :
    Calls Try.prog 104 #[.slice ao n cap] w fun e w' => e = .returned (.bool false) ∧ w' = w := by
  rcases h with h | h
  · go_enter Try.func104, Try.ntmps104
    go_wp2
    go_ret
    exact ⟨rfl, rfl⟩
  · have h1 : ¬ n < 1 := by omega
    go_enter Try.func104, Try.ntmps104
    go_wp2
    go_ret
    exact ⟨rfl, rfl⟩

set_option maxHeartbeats 400000 in
theorem pOk_seg (b off cap : Nat) (xs : List Int) (w : World) (hs : Seg w b off xs) (h1 : 1 ≤ xs.length) (h4 : xs.length ≤ 4) :
    Calls Try.prog 104 #[.slice (some ⟨b, off, none⟩) xs.length cap] w fun e w' => e = .returned (.bool (okB xs)) ∧ w' = w := by
  go_enter Try.func104, Try.ntmps104
  go_wp2
  go_loop [15] (fun i => ∃ k : Nat, k ≤ xs.length ∧ i = .int .i64 k ∧ ∀ j, j < k → -1000 ≤ nth xs j ∧ nth xs j ≤ 1000) (fun i => xs.length - (intOf i).toNat)
  case atStart => exact ⟨0, Nat.zero_le _, rfl, fun j hj => by omega⟩
  case round =>
    obtain ⟨k, hk, rfl, hall⟩ := hrel
    have HA : Hid (∀ j, j < k → -1000 ≤ nth xs j ∧ nth xs j ≤ 1000) := hall
    clear hall
    by_cases hlt : k < xs.length
    · have hc := hs k hlt
      by_cases ha : -1000 ≤ nth xs k
      · by_cases hb : nth xs k ≤ 1000
        · go_wp2
          go_round
          case rel => exact ⟨k + 1, by omega, by go_num, fun j hj => by
            rcases Nat.lt_or_ge j k with h | h
            · exact HA.out j h
            · rw [show j = k by omega]; exact ⟨ha, hb⟩⟩
          case measure => simp [intOf]; omega
        · go_wp2
          go_ret
          exact ⟨ret_bool (Eq.symm (okB_out k (by omega))), rfl⟩
      · go_wp2
        go_ret
        exact ⟨ret_bool (Eq.symm (okB_out k (by omega))), rfl⟩
    · go_wp2
      go_ret
      obtain rfl : k = xs.length := by omega
      exact ⟨ret_bool (Eq.symm (okB_mk h1 h4 HA.out)), rfl⟩

theorem pOk (ao : Option Addr) (cap : Nat) (xs : List Int) (w : World) (hv : View w ao xs) (hn : xs.length ≤ 1048576) :
    Calls Try.prog 104 #[.slice ao xs.length cap] w fun e w' => e = .returned (.bool (okB xs)) ∧ w' = w := by
  by_cases h : 1 ≤ xs.length ∧ xs.length ≤ 4
  · rcases hv with rfl | ⟨b, off, rfl, _, hs⟩
    · simp at h
    · exact pOk_seg b off cap xs w hs h.1 h.2
  · refine (pOk_bad ao xs.length cap w (by omega) hn).mono ?_
    rintro e w' ⟨rfl, rfl⟩
    refine ⟨ret_bool ?_, rfl⟩
    rcases Nat.lt_or_ge xs.length 1 with h1 | h1
    · exact (okB_short h1).symm
    · exact (okB_long (by omega)).symm

set_option maxHeartbeats 400000 in
theorem iOk (ao : Option Addr) (cap : Nat) (xs : List Int) (w : World) (hv : View w ao xs) (hn : xs.length ≤ 1048576) :
    Calls Try.prog 91 #[.slice ao xs.length cap] w fun e w' => e = .returned (.bool (okB xs)) ∧ w' = w := by
  go_enter Try.func91, Try.ntmps91
  go_wp2_with (go_at_call 104; refine (pOk ao cap xs _ hv hn).mono ?_; rintro e w' ⟨rfl, rfl⟩)
  go_ret
  exact ⟨rfl, rfl⟩
end Go.Proofs.Ytcdpmjeipagbnaa
