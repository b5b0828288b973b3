/-
  The given l1Same.
-/
import Derived.Test.YthcjkneifkmkdaaCopy
import Derived.Test.YthcjkneifkmkdaaSpec
namespace Go.Proofs.Ythcjkneifkmkdaa
open Go Go.RowKit

set_option maxHeartbeats 400000 in
theorem gsameS_ne (ao ao' : Option Addr) (n n' cap cap' : Nat) (w : World) (h : n ≠ n') :
    Calls Try.prog 46 #[.slice ao n cap, .slice ao' n' cap'] w fun e w' => e = .returned (.bool false) ∧ w' = w := by
  have hlb : ((n : Int) != (n' : Int)) = true := by simp; omega
  go_enter Try.func46, Try.ntmps46
  go_wp2
  go_ret
  exact ⟨rfl, rfl⟩

set_option maxHeartbeats 400000 in
theorem gsameS_nil (ao ao' : Option Addr) (cap cap' : Nat) (w : World) :
    Calls Try.prog 46 #[.slice ao 0 cap, .slice ao' 0 cap'] w fun e w' => e = .returned (.bool true) ∧ w' = w := by
  go_enter Try.func46, Try.ntmps46
  go_wp2
  refine wp_loop_rounds 1 ?_
  rw [rounds_succ]
  go_wp2
  go_ret
  exact ⟨rfl, rfl⟩

set_option maxHeartbeats 400000 in
theorem gsameS_seg (b off cap b' off' cap' : Nat) (xs ys : List Int) (w : World) (hs : Seg w b off xs) (hs' : Seg w b' off' ys) (hn : xs.length ≤ 1048576) (hl : xs.length = ys.length) :
    Calls Try.prog 46 #[.slice (some ⟨b, off, none⟩) xs.length cap, .slice (some ⟨b', off', none⟩) ys.length cap'] w fun e w' => e = .returned (.bool (decide (xs = ys))) ∧ ∃ n, w' = w.drewN n := by
  have hlb : ((xs.length : Int) != (ys.length : Int)) = false := by simp [hl]
  have HL : Hid (xs.length = ys.length) := hl
  have hn' : ys.length ≤ 1048576 := by omega
  clear hl
  go_enter Try.func46, Try.ntmps46
  go_wp2
  go_loopw [5] (fun i wr => ∃ k : Nat, k ≤ xs.length ∧ i = .int .i64 k ∧ (∀ j, j < k → nth xs j = nth ys j) ∧ ∃ n, wr = w.drewN n) (fun i _ => xs.length - (intOf i).toNat)
  case atStart => exact ⟨0, Nat.zero_le _, rfl, fun j hj => by omega, 0, rfl⟩
  case round =>
    obtain ⟨k, hk, rfl, hall, n, rfl⟩ := hrel
    have HA : Hid (∀ j, j < k → nth xs j = nth ys j) := hall
    clear hall
    by_cases hlt : k < xs.length
    · have hc := hs k hlt
      have hlt' : k < ys.length := by have := HL.out; omega
      have hc' := hs' k hlt'
      by_cases he : nth xs k = nth ys k
      · have heb : (nth xs k != nth ys k) = false := by simp [he]
        have HE : Hid (nth xs k = nth ys k) := he
        clear he
        go_wp2
        go_quiet (fail)
        go_wp2
        go_roundw
        case rel => exact ⟨k + 1, by omega, by go_num, fun j hj => by
          rcases Nat.lt_or_ge j k with h | h
          · exact HA.out j h
          · rw [show j = k by omega]; exact HE.out, _, rfl⟩
        case measure => simp [intOf]; omega
      · have heb : (nth xs k != nth ys k) = true := by simp [he]
        have HE : Hid (¬ nth xs k = nth ys k) := he
        clear he
        go_wp2
        go_quiet (fail)
        go_wp2
        go_ret
        exact ⟨ret_bool (Eq.symm (decide_eq_false (fun h => HE.out (by rw [h])))), n + nq, by simp⟩
    · go_wp2
      go_ret
      obtain rfl : k = xs.length := by omega
      exact ⟨ret_bool (Eq.symm (decide_eq_true (eq_of_nth HL.out HA.out))), _, rfl⟩

/-- eqInt64S: are two alike. -/
theorem gsameS (ao ao' : Option Addr) (cap cap' : Nat) (xs ys : List Int) (w : World) (hv : View w ao xs) (hv' : View w ao' ys) (hn : xs.length ≤ 1048576) :
    Calls Try.prog 46 #[.slice ao xs.length cap, .slice ao' ys.length cap'] w fun e w' => e = .returned (.bool (decide (xs = ys))) ∧ ∃ n, w' = w.drewN n := by
  by_cases hl : xs.length = ys.length
  · rcases hv with rfl | ⟨b, off, rfl, _, hs⟩
    · obtain rfl : ys = [] := List.eq_nil_of_length_eq_zero (by simpa using hl.symm)
      refine (gsameS_nil ao ao' cap cap' w).mono ?_
      rintro e w' ⟨rfl, rfl⟩
      exact ⟨rfl, 0, rfl⟩
    · rcases hv' with rfl | ⟨b', off', rfl, _, hs'⟩
      · obtain rfl : xs = [] := List.eq_nil_of_length_eq_zero (by simpa using hl)
        refine (gsameS_nil _ ao' cap cap' w).mono ?_
        rintro e w' ⟨rfl, rfl⟩
        exact ⟨rfl, 0, rfl⟩
      · exact gsameS_seg b off cap b' off' cap' xs ys w hs hs' hn hl
  · refine (gsameS_ne ao ao' xs.length ys.length cap cap' w hl).mono ?_
    rintro e w' ⟨rfl, rfl⟩
    exact ⟨ret_bool (Eq.symm (decide_eq_false (fun h => hl (by rw [h])))), 0, rfl⟩

end Go.Proofs.Ythcjkneifkmkdaa
