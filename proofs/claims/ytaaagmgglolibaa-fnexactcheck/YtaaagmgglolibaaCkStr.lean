/-
  The check of a text: plain; the given Check and the program's answer it alike.
-/
import Derived.Test.YtaaagmgglolibaaProg
import Derived.WalkKit
import Derived.WalkSpells
import Derived.WalkLawsBesides
import Derived.Laws.Strings
import Derived.Deep.OwnRows
import Derived.Deep.QuietTactic
import Derived.BigQuiet
namespace Go.Proofs.Ytaaagmgglolibaa
open Go Go.RowKit

/-- A text's i-th byte, 0 behind the end. -/
def bth (s : ByteArray) (i : Nat) : Int := if h : i < s.size then (s[i]'h).toNat else 0
def chkTo (s : ByteArray) : Nat → Int
  | 0 => 9
  | k + 1 => (41 * chkTo s k + bth s k) % 999983

theorem bth_bd (s : ByteArray) (i : Nat) : 0 ≤ bth s i ∧ bth s i ≤ 255 := by
  unfold bth; split
  · rename_i h
    have := (s[i]'h).toNat_lt
    omega
  · omega

theorem chk_bd (s : ByteArray) : ∀ k, 0 ≤ chkTo s k ∧ chkTo s k < 999983
  | 0 => by simp [chkTo]
  | k + 1 => by
    unfold chkTo
    exact ⟨Int.emod_nonneg _ (by omega), Int.emod_lt_of_pos _ (by omega)⟩

set_option maxHeartbeats 400000 in
theorem sCheck (s : ByteArray) (w : World) (hn : s.size ≤ 1048576) :
    Calls Try.prog 5 #[.string s] w fun e w' => e = .returned (.int .i64 (chkTo s s.size)) ∧ w' = w := by
  go_enter Try.func5, Try.ntmps5
  go_wp2
  go_loopw [3, 4] (fun h i wr => ∃ k : Nat, k ≤ s.size ∧ i = .int .i64 k ∧ h = .int .i64 (chkTo s k) ∧ wr = w) (fun _ i _ => s.size - (intOf i).toNat)
  case atStart => exact ⟨0, Nat.zero_le _, rfl, rfl, rfl⟩
  case round =>
    obtain ⟨k, hk, rfl, rfl, rfl⟩ := hrel
    by_cases hlt : k < s.size
    · have hb := bth_bd s k
      have hc := chk_bd s k
      have HN : Hid (chkTo s (k + 1) = (41 * chkTo s k + bth s k) % 999983) := rfl
      have hbe : ((s[k]'hlt).toNat : Int) = bth s k := by simp [bth, hlt]
      go_wp2
      go_roundw
      case rel => exact ⟨k + 1, by omega, by go_num, by rw [HN.out], trivial⟩
      case measure => simp [intOf]; omega
    · go_wp2
      go_ret
      obtain rfl : k = s.size := by omega
      exact ⟨rfl, rfl⟩
set_option maxHeartbeats 400000 in
theorem iCheck (s : ByteArray) (w : World) (hn : s.size ≤ 1048576) :
    Calls Try.prog 6 #[.string s] w fun e w' => e = .returned (.int .i64 (chkTo s s.size)) ∧ w' = w := by
  go_enter Try.func6, Try.ntmps6
  go_wp2
  go_loopw [3, 7] (fun h i wr => ∃ k : Nat, k ≤ s.size ∧ i = .int .i64 k ∧ h = .int .i64 (chkTo s k) ∧ wr = w) (fun _ i _ => s.size - (intOf i).toNat)
  case atStart => exact ⟨0, Nat.zero_le _, rfl, rfl, rfl⟩
  case round =>
    obtain ⟨k, hk, rfl, rfl, rfl⟩ := hrel
    by_cases hlt : k < s.size
    · have hb := bth_bd s k
      have hc := chk_bd s k
      have HN : Hid (chkTo s (k + 1) = (41 * chkTo s k + bth s k) % 999983) := rfl
      have hbe : ((s[k]'hlt).toNat : Int) = bth s k := by simp [bth, hlt]
      go_wp2
      go_roundw
      case rel => exact ⟨k + 1, by omega, by go_num, by rw [HN.out], trivial⟩
      case measure => simp [intOf]; omega
    · go_wp2
      go_ret
      obtain rfl : k = s.size := by omega
      exact ⟨rfl, rfl⟩
end Go.Proofs.Ytaaagmgglolibaa
