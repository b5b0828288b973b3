/-
  The named laws' helpers: likeLists (of two that are alike), rises.
-/
import Derived.Test.YtfbindjacmaeoaaMovedSZz
import Derived.Test.YtfbindjacmaeoaaGKeepZz
namespace Go.Proofs.Ytfbindjacmaeoaa
open Go Go.RowKit

set_option maxHeartbeats 1000000 in
theorem likeSS (ao ao' : Option Addr) (cap cap' : Nat) (ls : List (List Int)) (w : World) (hv : LView w ao ls) (hv' : LView w ao' ls) (hn : ls.length ≤ 1048576) (hat : ∀ l ∈ ls, l.length ≤ 1048576) :
    Calls Try.prog 26 #[.slice ao ls.length cap, .slice ao' ls.length cap'] w fun e w' => e = .returned (.bool true) ∧ ∃ n, w' = w.drewN n := by
  have hlb : ((ls.length : Int) != (ls.length : Int)) = false := by simp
  have HV := hidP hv
  have HV' := hidP hv'
  have HAT := hidP hat
  clear hv hv' hat
  go_enter Try.func26, Try.ntmps26
  go_wp2_with fail
  go_loopw [5] (fun i wr => ∃ k : Nat, k ≤ ls.length ∧ i = .int .i64 k ∧ ∃ n, wr = w.drewN n) (fun i _ => ls.length - (intOf i).toNat)
  case atStart => exact ⟨0, Nat.zero_le _, rfl, 0, rfl⟩
  case round =>
    obtain ⟨k, hk, rfl, hw⟩ := hrel
    have HW := hidP hw
    clear hw
    by_cases hlt : k < ls.length
    · have v1 : LView wr ao ls := by obtain ⟨n, rfl⟩ := HW.out; exact HV.out.drewN n
      have v2 : LView wr ao' ls := by obtain ⟨n, rfl⟩ := HW.out; exact HV'.out.drewN n
      obtain ⟨b, a, c, rfl, hb, c1, va⟩ := v1.at hlt
      obtain ⟨b', a', c', rfl, hb', c2, va'⟩ := v2.at hlt
      have hl := HAT.out _ (List.getElem_mem hlt)
      have HE := hidP (fun n => likeS a a' c c' ls[k] ls[k] (wr.drewN n) (va.drewN n) (va'.drewN n) hl)
      have hse : decide (ls[k] = ls[k]) = true := by simp
      rw [hse] at HE
      have hi0 : (0 : Int) ≤ (k : Int) := Int.natCast_nonneg _
      have hi1 : (k : Int) < (ls.length : Int) := by omega
      clear va va' v1 v2 hse
      generalize ls[k] = x at *
      go_wp2_with fail
      go_quiet (first | (go_at_call 73; exact Calls.quiet_of (HE.out _)))
      go_wp2_with fail
      go_roundw
      case rel => exact ⟨k + 1, by omega, by go_num, by obtain ⟨n, hn⟩ := HW.out; exact ⟨n + nq, by rw [hn]; simp⟩⟩
      case measure => simp [intOf]; omega
    · go_wp2_with fail
      go_ret
      exact ⟨rfl, HW.out⟩

/-- Do the numbers rise? -/
def riseB (xs : List Int) : Bool := decide (∀ j, j < xs.length - 1 → nth xs j < nth xs (j + 1))

set_option maxHeartbeats 1000000 in
theorem risesS (ao : Option Addr) (cap : Nat) (xs : List Int) (w : World) (hv : View w ao xs) (hn : xs.length ≤ 1048576) (hr : ∀ j, j + 1 < xs.length → nth xs j < nth xs (j + 1)) :
    Calls Try.prog 30 #[.slice ao xs.length cap] w fun e w' => e = .returned (.bool true) ∧ ∃ n, w' = w.drewN n := by
  have HV := hidP hv
  have HR := hidP hr
  clear hv hr
  go_enter Try.func30, Try.ntmps30
  go_wp2_with fail
  go_loopw [3] (fun i wr => ∃ k : Nat, k ≤ xs.length ∧ i = .int .i64 ((k + 1 : Nat) : Int) ∧ ∃ n, wr = w.drewN n) (fun i _ => xs.length + 1 - (intOf i).toNat)
  case atStart => exact ⟨0, Nat.zero_le _, rfl, 0, rfl⟩
  case round =>
    obtain ⟨k, hk, rfl, n, rfl⟩ := hrel
    by_cases hlt : k + 1 < xs.length
    · rcases HV.out with he | ⟨b, off, rfl, _, hs⟩
      · rw [he] at hlt; simp at hlt
      have hc := hs (k + 1) hlt
      have hc' := hs k (by omega)
      have hlt' : nth xs k < nth xs (k + 1) := HR.out k hlt
      have hx : IntKind.i64.wrap (((k + 1 : Nat) : Int) - 1) = k := by rw [show ((k + 1 : Nat) : Int) - 1 = k by omega]; exact IntWalk.i64_in _ ⟨by omega, by omega⟩
      have hi0 : (0 : Int) ≤ (k : Int) := Int.natCast_nonneg _
      have hi1 : (k : Int) < (xs.length : Int) := by omega
      have hi2 : ((k + 1 : Nat) : Int) < (xs.length : Int) := by omega
      go_wp2_with fail
      have hle : ¬ (nth xs (k + 1) ≤ nth xs k) := by omega
      go_quiet (fail)
      go_wp2_with fail
      go_roundw
      case rel => exact ⟨k + 1, by omega, by go_num, n + nq, by simp⟩
      case measure => simp [intOf]; omega
    · go_wp2_with fail
      go_ret
      exact ⟨rfl, _, rfl⟩

end Go.Proofs.Ytfbindjacmaeoaa
