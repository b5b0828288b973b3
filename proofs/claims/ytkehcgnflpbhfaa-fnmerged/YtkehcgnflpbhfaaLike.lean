/-
  The named laws' helpers: likeInts, pick, point.
-/
import Derived.Test.YtkehcgnflpbhfaaDraw
namespace Go.Proofs.Ytkehcgnflpbhfaa
open Go Go.RowKit

set_option maxRecDepth 100000 in
set_option maxHeartbeats 400000 in
theorem pick_nil (ao : Option Addr) (cap : Nat) (s m : Int) (w : World) (hs0 : 0 ≤ s) (hs1 : s ≤ 100) (h0 : 1 ≤ m) (h1 : m ≤ 10000) :
    Calls Try.prog 25 #[.slice ao 0 cap, .int .i64 s, .int .i64 m] w fun e w' => (∃ x : Int, 0 ≤ x ∧ x < m ∧ e = .returned (.int .i64 x)) ∧ w' = w := by
  have h3 : (m == 0) = false := by simp; omega
  go_enter Try.func25, Try.ntmps25
  go_wp2
  refine wp_loop_rounds 1 ?_
  rw [rounds_succ]
  go_wp2
  go_ret
  exact ⟨⟨_, Int.emod_nonneg _ (by omega), Int.emod_lt_of_pos _ (by omega), rfl⟩, rfl⟩

set_option maxRecDepth 100000 in
set_option maxHeartbeats 400000 in
theorem pickC (ao : Option Addr) (n cap : Nat) (s m : Int) (w : World) (hv : CodeV w ao n) (hn : n ≤ 4096) (hs0 : 0 ≤ s) (hs1 : s ≤ 100) (h0 : 1 ≤ m) (h1 : m ≤ 10000) :
    Calls Try.prog 25 #[.slice ao n cap, .int .i64 s, .int .i64 m] w fun e w' => (∃ x : Int, 0 ≤ x ∧ x < m ∧ e = .returned (.int .i64 x)) ∧ w' = w := by
  rcases hv with rfl | ⟨b, off, rfl, hbl, hby⟩
  · exact pick_nil ao cap s m w hs0 hs1 h0 h1
  · have HY := hideP hby
    clear hby
    have h3 : (m == 0) = false := by simp; omega
    go_enter Try.func25, Try.ntmps25
    go_wp2
    go_loop [7, 8] (fun s i => ∃ k : Nat, k ≤ n ∧ i = .int .i64 k ∧ ∃ h : Int, 0 ≤ h ∧ h ≤ 2000000 ∧ s = .int .i64 h) (fun _ i => n - (intOf i).toNat)
    case atStart => exact ⟨0, Nat.zero_le _, rfl, _, by omega, by omega, rfl⟩
    case round =>
      obtain ⟨k, hk, rfl, h, hh0, hh1, rfl⟩ := hrel
      by_cases hlt : k < n
      · obtain ⟨x, hx0, hx1, hx⟩ := HY.out k hlt
        go_wp2
        go_round
        case rel => exact ⟨k + 1, by omega, by go_num, _, by omega, by omega, rfl⟩
        case measure => simp [intOf]; omega
      · go_wp2
        go_ret
        exact ⟨⟨_, Int.emod_nonneg _ (by omega), Int.emod_lt_of_pos _ (by omega), rfl⟩, rfl⟩

end Go.Proofs.Ytkehcgnflpbhfaa
