/-
  Are marks and rows small enough, one behind the other (szMarkS, szInt64SS).
-/
import Derived.Test.YthkaiienfkihmaaJRw
namespace Go.Proofs.Ythkaiienfkihmaa
open Go Go.RowKit

set_option maxHeartbeats 400000 in
theorem szCS_long (ao : Option Addr) (n cap : Nat) (left : Int) (w : World) (hn : n ≤ maxLen) (h0 : 0 ≤ left) (h : left < n) :
    Calls Try.prog 26 #[.slice ao n cap, .int .i64 left] w fun e w' => e = .returned (.int .i64 (-1)) ∧ w' = w := by
  unfold maxLen at hn
  have ht : left - n < 0 := by omega
  go_enter Try.func26, Try.ntmps26
  go_wp2
  go_ret
  exact ⟨rfl, rfl⟩

set_option maxHeartbeats 400000 in
theorem szCS_nil (ao : Option Addr) (cap : Nat) (left : Int) (w : World) (h0 : 0 ≤ left) (h1 : left ≤ 1048576) :
    Calls Try.prog 26 #[.slice ao 0 cap, .int .i64 left] w fun e w' => e = .returned (.int .i64 left) ∧ w' = w := by
  have ht : ¬ left < 0 := by omega
  go_enter Try.func26, Try.ntmps26
  go_wp2
  refine wp_loop_rounds 1 ?_
  rw [rounds_succ]
  go_wp2
  go_ret
  exact ⟨rfl, rfl⟩

set_option maxHeartbeats 800000 in
theorem szCS_seg (b off cap : Nat) (ls : List (List Int)) (left0 : Int) (w : World) (hs : CSeg w b off ls) (hn : (ls.length : Int) ≤ left0) (hl0 : left0 ≤ 1048576) (hat : ∀ i, (cn ls i).length ≤ maxLen) :
    Calls Try.prog 26 #[.slice (some ⟨b, off, none⟩) ls.length cap, .int .i64 left0] w fun e w' => ∃ r, e = .returned (.int .i64 r) ∧ (r < 0 ∨ CSmall ls) ∧ w' = w := by
  have ht : ¬ left0 - ls.length < 0 := by omega
  go_enter Try.func26, Try.ntmps26
  go_wp2
  go_loop [1, 5] (fun l i => ∃ (k : Nat) (left : Int), k ≤ ls.length ∧ i = .int .i64 k ∧ l = .int .i64 left ∧ 0 ≤ left ∧ left ≤ 1048576 ∧ (∀ j, j < k → (cn ls j).length ≤ 1048576)) (fun _ i => ls.length - (intOf i).toNat)
  case atStart => exact ⟨0, left0 - ls.length, Nat.zero_le _, rfl, rfl, by omega, by omega, fun j hj => by omega⟩
  case round =>
    obtain ⟨k, left, hk, rfl, rfl, h0, h1, hall⟩ := hrel
    have HA := hidP hall
    clear hall
    by_cases hlt : k < ls.length
    · obtain ⟨ao, cap', hc1, hv⟩ := hs k hlt
      have hcut := cutV_le (cn ls k).length (by omega) h1
      have HS := hidP (fun h => cutV_small (n := (cn ls k).length) h1 h)
      clear hv
      go_wp2_with fail
      refine (szS ao (cn ls k).length cap' left _ (hat k) h0 h1).mono ?_
      rintro e w1 ⟨rfl, rfl⟩
      by_cases hneg : cutV left (cn ls k).length < 0
      · go_wp2_with fail
        go_ret
        exact ⟨_, rfl, Or.inl (by omega), rfl⟩
      · go_wp2_with fail
        go_round
        case rel => exact ⟨k + 1, cutV left (cn ls k).length, by omega, by go_num, rfl, by omega, by omega, fun j hj => by
          rcases Nat.lt_or_ge j k with h | h
          · exact HA.out j h
          · rw [show j = k by omega]; exact HS.out (by omega)⟩
        case measure => simp [intOf]; omega
    · go_wp2
      go_ret
      obtain rfl : k = ls.length := by omega
      refine ⟨_, rfl, Or.inr ⟨by omega, fun i => ?_⟩, rfl⟩
      rcases Nat.lt_or_ge i ls.length with h | h
      · exact HA.out i h
      · simp [cn, List.getD, h]

theorem szCS (ao : Option Addr) (cap : Nat) (ls : List (List Int)) (left0 : Int) (w : World) (hv : CView w ao ls) (h0 : 0 ≤ left0) (hl0 : left0 ≤ 1048576) (hn : ls.length ≤ maxLen) (hat : ∀ i, (cn ls i).length ≤ maxLen) :
    Calls Try.prog 26 #[.slice ao ls.length cap, .int .i64 left0] w fun e w' => ∃ r, e = .returned (.int .i64 r) ∧ (r < 0 ∨ CSmall ls) ∧ w' = w := by
  rcases Int.lt_or_le left0 ls.length with h | h
  · refine (szCS_long ao ls.length cap left0 w hn h0 h).mono ?_
    rintro e w' ⟨rfl, rfl⟩
    exact ⟨_, rfl, Or.inl (by omega), rfl⟩
  · rcases hv with rfl | ⟨b, off, rfl, hb, hs⟩
    · refine (szCS_nil ao cap left0 w h0 hl0).mono ?_
      rintro e w' ⟨rfl, rfl⟩
      exact ⟨_, rfl, Or.inr ⟨by simp, fun i => by simp [cn]⟩, rfl⟩
    · exact szCS_seg b off cap ls left0 w hs h hl0 hat

end Go.Proofs.Ythkaiienfkihmaa
