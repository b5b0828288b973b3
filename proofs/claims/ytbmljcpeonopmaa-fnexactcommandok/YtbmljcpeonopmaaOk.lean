/-
  What is a point: the given PointOk and the program's own, each answers okB.
-/
import Derived.Test.YtbmljcpeonopmaaCopy
namespace Go.Proofs.Ytbmljcpeonopmaa
open Go Go.RowKit

set_option maxHeartbeats 400000 in
theorem sOk_bad (ao : Option Addr) (n cap : Nat) (w : World) (h : n < 1 ∨ 4 < n) (hn : n ≤ 1048576) :
    Calls Try.prog 47 #[.slice ao n cap] w fun e w' => e = .returned (.bool false) ∧ w' = w := by
  rcases h with h | h
  · go_enter Try.func47, Try.ntmps47
    go_wp2
    go_ret
    exact ⟨rfl, rfl⟩
  · have h1 : ¬ n < 1 := by omega
    go_enter Try.func47, Try.ntmps47
    go_wp2
    go_ret
    exact ⟨rfl, rfl⟩

set_option maxHeartbeats 400000 in
theorem sOk_seg (b off cap : Nat) (xs : List Int) (w : World) (hs : Seg w b off xs) (h1 : 1 ≤ xs.length) (h4 : xs.length ≤ 4) :
    Calls Try.prog 47 #[.slice (some ⟨b, off, none⟩) xs.length cap] w fun e w' => e = .returned (.bool (okB xs)) ∧ w' = w := by
  go_enter Try.func47, Try.ntmps47
  go_wp2
  go_loop [3] (fun i => ∃ k : Nat, k ≤ xs.length ∧ i = .int .i64 k ∧ ∀ j, j < k → -1000 ≤ nth xs j ∧ nth xs j ≤ 1000) (fun i => xs.length - (intOf i).toNat)
  case atStart => exact ⟨0, Nat.zero_le _, rfl, fun j hj => by omega⟩
  case round =>
    obtain ⟨k, hk, rfl, hall⟩ := hrel
    have HA : Hid (∀ j, j < k → -1000 ≤ nth xs j ∧ nth xs j ≤ 1000) := hall
    clear hall
    by_cases hlt : k < xs.length
    · have hc := hs k hlt
      by_cases ha : -1000 ≤ nth xs k
      · by_cases hb : nth xs k ≤ 1000
        · go_wp2
          go_round
          case rel => exact ⟨k + 1, by omega, by go_num, fun j hj => by
            rcases Nat.lt_or_ge j k with h | h
            · exact HA.out j h
            · rw [show j = k by omega]; exact ⟨ha, hb⟩⟩
          case measure => simp [intOf]; omega
        · go_wp2
          go_ret
          exact ⟨ret_bool (Eq.symm (okB_out k (by omega))), rfl⟩
      · go_wp2
        go_ret
        exact ⟨ret_bool (Eq.symm (okB_out k (by omega))), rfl⟩
    · go_wp2
      go_ret
      obtain rfl : k = xs.length := by omega
      exact ⟨ret_bool (Eq.symm (okB_mk h1 h4 HA.out)), rfl⟩

theorem sOk (ao : Option Addr) (cap : Nat) (xs : List Int) (w : World) (hv : View w ao xs) (hn : xs.length ≤ 1048576) :
    Calls Try.prog 47 #[.slice ao xs.length cap] w fun e w' => e = .returned (.bool (okB xs)) ∧ w' = w := by
  by_cases h : 1 ≤ xs.length ∧ xs.length ≤ 4
  · rcases hv with rfl | ⟨b, off, rfl, _, hs⟩
    · simp at h
    · exact sOk_seg b off cap xs w hs h.1 h.2
  · refine (sOk_bad ao xs.length cap w (by omega) hn).mono ?_
    rintro e w' ⟨rfl, rfl⟩
    refine ⟨ret_bool ?_, rfl⟩
    rcases Nat.lt_or_ge xs.length 1 with h1 | h1
    · exact (okB_short h1).symm
    · exact (okB_long (by omega)).symm

/-- As many numbers as a point has, each from lo to hi? -/
def keepB (lo hi : Int) (xs : List Int) : Bool := decide (1 ≤ xs.length) && decide (xs.length ≤ 4) && xs.all (fun x => decide (lo ≤ x) && decide (x ≤ hi))

theorem okB_keep (xs : List Int) : okB xs = keepB (-1000) 1000 xs := rfl

theorem keepB_len {lo hi : Int} {xs : List Int} (h : keepB lo hi xs = true) : 1 ≤ xs.length ∧ xs.length ≤ 4 := by
  simp [keepB] at h; omega

theorem keepB_at {lo hi : Int} {xs : List Int} (h : keepB lo hi xs = true) {i : Nat} (hi' : i < xs.length) : lo ≤ nth xs i ∧ nth xs i ≤ hi := by
  simp only [keepB, Bool.and_eq_true, List.all_eq_true, decide_eq_true_eq] at h
  have := h.2 xs[i] (List.getElem_mem hi')
  simpa [nth, List.getD, hi'] using this

theorem keepB_mk {lo hi : Int} {xs : List Int} (h1 : 1 ≤ xs.length) (h4 : xs.length ≤ 4) (h : ∀ i, i < xs.length → lo ≤ nth xs i ∧ nth xs i ≤ hi) : keepB lo hi xs = true := by
  simp only [keepB, Bool.and_eq_true, List.all_eq_true, decide_eq_true_eq]
  refine ⟨⟨h1, h4⟩, fun x hx => ?_⟩
  obtain ⟨i, hi, rfl⟩ := List.getElem_of_mem hx
  have := h i hi
  simpa [nth, List.getD, hi] using this

theorem keepB_short {lo hi : Int} {xs : List Int} (h : xs.length < 1) : keepB lo hi xs = false := by simp [keepB]; omega
theorem keepB_long {lo hi : Int} {xs : List Int} (h : 4 < xs.length) : keepB lo hi xs = false := by simp [keepB]; omega
theorem keepB_out {lo hi : Int} {xs : List Int} (i : Nat) (hl : i < xs.length) (h : nth xs i < lo ∨ hi < nth xs i) : keepB lo hi xs = false := by
  rcases hb : keepB lo hi xs with _ | _
  · rfl
  · have := keepB_at hb hl; omega

set_option maxHeartbeats 400000 in
theorem pKeeps_bad (lo hi : Int) (ao : Option Addr) (n cap : Nat) (w : World) (h : n < 1 ∨ 4 < n) (hn : n ≤ 1048576) :
    Calls Try.prog 121 #[.slice ao n cap, .int .i64 lo, .int .i64 hi] w fun e w' => e = .returned (.bool false) ∧ w' = w := by
  rcases h with h | h
  · go_enter Try.func121, Try.ntmps121
    go_wp2
    go_ret
    exact ⟨rfl, rfl⟩
  · have h1 : ¬ n < 1 := by omega
    go_enter Try.func121, Try.ntmps121
    go_wp2
    go_ret
    exact ⟨rfl, rfl⟩

set_option maxHeartbeats 400000 in
theorem pKeeps_seg (lo hi : Int) (b off cap : Nat) (xs : List Int) (w : World) (hs : Seg w b off xs) (h1 : 1 ≤ xs.length) (h4 : xs.length ≤ 4) :
    Calls Try.prog 121 #[.slice (some ⟨b, off, none⟩) xs.length cap, .int .i64 lo, .int .i64 hi] w fun e w' => e = .returned (.bool (keepB lo hi xs)) ∧ w' = w := by
  go_enter Try.func121, Try.ntmps121
  go_wp2
  go_loop [19] (fun i => ∃ k : Nat, k ≤ xs.length ∧ i = .int .i64 k ∧ ∀ j, j < k → lo ≤ nth xs j ∧ nth xs j ≤ hi) (fun i => xs.length - (intOf i).toNat)
  case atStart => exact ⟨0, Nat.zero_le _, rfl, fun j hj => by omega⟩
  case round =>
    obtain ⟨k, hk, rfl, hall⟩ := hrel
    have HA : Hid (∀ j, j < k → lo ≤ nth xs j ∧ nth xs j ≤ hi) := hall
    clear hall
    by_cases hlt : k < xs.length
    · have hc := hs k hlt
      by_cases ha : lo ≤ nth xs k
      · by_cases hb : nth xs k ≤ hi
        · go_wp2
          go_round
          case rel => exact ⟨k + 1, by omega, by go_num, fun j hj => by
            rcases Nat.lt_or_ge j k with h | h
            · exact HA.out j h
            · rw [show j = k by omega]; exact ⟨ha, hb⟩⟩
          case measure => simp [intOf]; omega
        · go_wp2
          go_ret
          exact ⟨ret_bool (Eq.symm (keepB_out k hlt (by omega))), rfl⟩
      · go_wp2
        go_ret
        exact ⟨ret_bool (Eq.symm (keepB_out k hlt (by omega))), rfl⟩
    · go_wp2
      go_ret
      obtain rfl : k = xs.length := by omega
      exact ⟨ret_bool (Eq.symm (keepB_mk h1 h4 HA.out)), rfl⟩

theorem pKeeps (lo hi : Int) (ao : Option Addr) (cap : Nat) (xs : List Int) (w : World) (hv : View w ao xs) (hn : xs.length ≤ 1048576) :
    Calls Try.prog 121 #[.slice ao xs.length cap, .int .i64 lo, .int .i64 hi] w fun e w' => e = .returned (.bool (keepB lo hi xs)) ∧ w' = w := by
  by_cases h : 1 ≤ xs.length ∧ xs.length ≤ 4
  · rcases hv with rfl | ⟨b, off, rfl, _, hs⟩
    · simp at h
    · exact pKeeps_seg lo hi b off cap xs w hs h.1 h.2
  · refine (pKeeps_bad lo hi ao xs.length cap w (by omega) hn).mono ?_
    rintro e w' ⟨rfl, rfl⟩
    refine ⟨ret_bool ?_, rfl⟩
    rcases Nat.lt_or_ge xs.length 1 with h1 | h1
    · exact (keepB_short h1).symm
    · exact (keepB_long (by omega)).symm

set_option maxHeartbeats 400000 in
theorem pOk (ao : Option Addr) (cap : Nat) (xs : List Int) (w : World) (hv : View w ao xs) (hn : xs.length ≤ 1048576) :
    Calls Try.prog 116 #[.slice ao xs.length cap] w fun e w' => e = .returned (.bool (okB xs)) ∧ w' = w := by
  go_enter Try.func116, Try.ntmps116
  go_wp2_with (go_at_call 121; refine (pKeeps (-1000) 1000 ao cap xs _ hv hn).mono ?_; rintro e w' ⟨rfl, rfl⟩)
  go_ret
  exact ⟨rfl, rfl⟩

set_option maxHeartbeats 400000 in
theorem iOk (ao : Option Addr) (cap : Nat) (xs : List Int) (w : World) (hv : View w ao xs) (hn : xs.length ≤ 1048576) :
    Calls Try.prog 111 #[.slice ao xs.length cap] w fun e w' => e = .returned (.bool (okB xs)) ∧ w' = w := by
  go_enter Try.func111, Try.ntmps111
  go_wp2_with (go_at_call 116; refine (pOk ao cap xs _ hv hn).mono ?_; rintro e w' ⟨rfl, rfl⟩)
  go_ret
  exact ⟨rfl, rfl⟩
end Go.Proofs.Ytbmljcpeonopmaa
