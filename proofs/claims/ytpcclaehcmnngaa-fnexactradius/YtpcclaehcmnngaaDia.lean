/-
  How far the farthest is, and the diameter: the given ones and the program's own answer mostV and diaV.
-/
import Derived.Test.YtpcclaehcmnngaaBet
namespace Go.Proofs.Ytpcclaehcmnngaa
open Go Go.RowKit

theorem maxV_bet (ms : List Mk) (p : List Int) (kd : Int) (k : Nat) : maxTo (betF ms p kd) (k + 1) = maxV (maxTo (betF ms p kd) k) (betV p (mat ms k) kd) := rfl
theorem max_bet (ms : List Mk) (p : List Int) (kd : Int) (k : Nat) : maxTo (betF ms p kd) (k + 1) = max (maxTo (betF ms p kd) k) (betV p (mat ms k) kd) := rfl
theorem maxV_most (ms : List Mk) (kd : Int) (k : Nat) : maxTo (mostF ms kd) (k + 1) = maxV (maxTo (mostF ms kd) k) (mostV ms (mat ms k) kd) := rfl

set_option maxHeartbeats 1000000 in
theorem iMost (ao ao' : Option Addr) (cap cap' : Nat) (ms : List Mk) (m : Mk) (kd : Int) (w : World) (hv : MView w ao ms) (hv' : View w ao' m.2) (hsm : MSmall ms) (hp : m.2.length ≤ 1048576) :
    Calls Try.prog 55 #[.slice ao ms.length cap, .agg #[.int .i64 m.1, .slice ao' m.2.length cap'], .int .i64 kd] w fun e w' => e = .returned (.int .i64 (mostV ms m.2 kd)) ∧ Below w.heap.size w w' := by
  obtain ⟨hn, hat⟩ := hsm
  have HV : Hid (mostV ms m.2 kd = maxTo (betF ms m.2 kd) ms.length) := rfl
  have L0 : Below w.heap.size w (w.alloc (.cells #[.int .i64 m.1, .slice ao' m.2.length cap'] 55)) := (Below.refl _ _).alloc (Nat.le_refl _) _
  have c1 : (w.alloc (.cells #[.int .i64 m.1, .slice ao' m.2.length cap'] 55)).cell? ⟨w.heap.size, 1, none⟩ = some (.slice ao' m.2.length cap') := by go_simp
  have hsz : (w.alloc (.cells #[.int .i64 m.1, .slice ao' m.2.length cap'] 55)).heap.size = w.heap.size + 1 := by simp
  go_enter Try.func55, Try.ntmps55
  go_wp2_with fail
  generalize (w.alloc (.cells #[.int .i64 m.1, .slice ao' m.2.length cap'] 55)) = W0 at *
  have HM := hidP (hv.next L0)
  have HP := hidP (View.next hv' L0)
  have HL0 := hidP L0
  clear hv hv' L0
  go_loopw [7, 12] (fun s i wr => ∃ k : Nat, k ≤ ms.length ∧ i = .int .i64 k ∧ s = .int .i64 (maxTo (betF ms m.2 kd) k) ∧ Below W0.heap.size W0 wr) (fun _ i _ => ms.length - (intOf i).toNat)
  case atStart => exact ⟨0, Nat.zero_le _, rfl, rfl, Below.refl _ _⟩
  case round =>
    obtain ⟨k, hk, rfl, rfl, L⟩ := hrel
    by_cases hlt : k < ms.length
    · obtain ⟨b, off, rfl, hb, hs⟩ := MSeg.seg HM.out (by omega)
      obtain ⟨hc0, ae, ce, hc1, hve⟩ := (hs.below hb (Nat.le_refl _) L).at hlt
      have hz := L.size
      have hd := (L.cell (p := ⟨w.heap.size, 1, none⟩) (by simp; omega)).trans c1
      have hpw := View.next HP.out L
      have L1 : Below wr.heap.size wr (wr.alloc (.cells #[.int .i64 (mid ms k), .slice ae (mat ms k).length ce] 55)) := (Below.refl _ _).alloc (Nat.le_refl _) _
      have HC := hidP (iBet ao' ae cap' ce m.2 (mat ms k) kd _ (View.next hpw L1) (View.next hve L1) hp (hat k))
      have HL := hidP (below_two L L1)
      have hlt0 : w.heap.size < wr.heap.size := by omega
      clear L hpw hve L1
      have HN := hidP (max_bet ms m.2 kd k)
      go_wp2_with fail
      refine HC.out.mono ?_
      rintro e w1 ⟨rfl, L2⟩
      have LF := hidP (below_two HL.out L2)
      clear L2
      go_wp2_with fail
      all_goals
        go_roundw
        case rel => exact ⟨k + 1, by omega, by go_num, by rw [HN.out]; congr 1; omega, LF.out⟩
        case measure => simp [intOf]; omega
    · go_wp2_with fail
      go_ret
      obtain rfl : k = ms.length := by omega
      exact ⟨ret_int HV.out.symm, below_two HL0.out L⟩

end Go.Proofs.Ytpcclaehcmnngaa
