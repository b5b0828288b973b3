/-
  How far the farthest is, and the diameter: the given ones and the program's own answer mostV and diaV.
-/
import Derived.Test.YtjoffjmnflmnmaaBet
namespace Go.Proofs.Ytjoffjmnflmnmaa
open Go Go.RowKit

theorem maxV_bet (ms : List Mk) (p : List Int) (kd : Int) (k : Nat) : maxTo (betF ms p kd) (k + 1) = maxV (maxTo (betF ms p kd) k) (betV p (mat ms k) kd) := rfl
theorem max_bet (ms : List Mk) (p : List Int) (kd : Int) (k : Nat) : maxTo (betF ms p kd) (k + 1) = max (maxTo (betF ms p kd) k) (betV p (mat ms k) kd) := rfl
theorem maxV_most (ms : List Mk) (kd : Int) (k : Nat) : maxTo (mostF ms kd) (k + 1) = maxV (maxTo (mostF ms kd) k) (mostV ms (mat ms k) kd) := rfl

set_option maxHeartbeats 800000 in
theorem sMost (ao ao' : Option Addr) (cap cap' : Nat) (ms : List Mk) (p : List Int) (kd : Int) (w : World) (hv : MView w ao ms) (hv' : View w ao' p) (hsm : MSmall ms) (hp : p.length ≤ 1048576) :
    Calls Try.prog 38 #[.slice ao ms.length cap, .slice ao' p.length cap', .int .i64 kd] w fun e w' => e = .returned (.int .i64 (mostV ms p kd)) ∧ ∃ n, w' = w.drewN n := by
  obtain ⟨hn, hat⟩ := hsm
  have HV : Hid (mostV ms p kd = maxTo (betF ms p kd) ms.length) := rfl
  go_enter Try.func38, Try.ntmps38
  go_wp2_with fail
  go_loopw [7, 8] (fun s i wr => ∃ k : Nat, k ≤ ms.length ∧ i = .int .i64 k ∧ s = .int .i64 (maxTo (betF ms p kd) k) ∧ ∃ n, wr = w.drewN n) (fun _ i _ => ms.length - (intOf i).toNat)
  case atStart => exact ⟨0, Nat.zero_le _, rfl, rfl, 0, rfl⟩
  case round =>
    obtain ⟨k, hk, rfl, rfl, hw⟩ := hrel
    have HW : Hid (∃ n, wr = w.drewN n) := hw
    clear hw
    by_cases hlt : k < ms.length
    · obtain ⟨b, off, rfl, hb, hs⟩ := MSeg.seg hv (by omega)
      have hsw : MSeg wr b off ms := by obtain ⟨n, rfl⟩ := HW.out; exact hs
      have hpw : View wr ao' p := by obtain ⟨n, rfl⟩ := HW.out; exact hv'
      obtain ⟨-, ae, ce, hc1, hve⟩ := hsw.at hlt
      have HN := hidP (maxV_bet ms p kd k)
      have hbd := betV_le p (mat ms k) kd
      have hmx := most_le ms p kd k
      go_wp2_with fail
      refine (sBet ao' ae cap' ce p (mat ms k) kd _ hpw hve hp (hat k)).mono ?_
      rintro e w1 ⟨rfl, n1, rfl⟩
      go_wp2_with fail
      refine (sMax _ _ _).mono ?_
      rintro e w2 ⟨rfl, rfl⟩
      go_wp2_with fail
      go_roundw
      case rel => exact ⟨k + 1, by omega, by go_num, by rw [HN.out], by obtain ⟨n, hn⟩ := HW.out; exact ⟨n + n1, by rw [hn]; simp⟩⟩
      case measure => simp [intOf]; omega
    · go_wp2_with fail
      go_ret
      obtain rfl : k = ms.length := by omega
      exact ⟨ret_int HV.out.symm, HW.out⟩

set_option maxHeartbeats 1000000 in
theorem iMost (ao ao' : Option Addr) (cap cap' : Nat) (ms : List Mk) (m : Mk) (kd : Int) (w : World) (hv : MView w ao ms) (hv' : View w ao' m.2) (hsm : MSmall ms) (hp : m.2.length ≤ 1048576) :
    Calls Try.prog 40 #[.slice ao ms.length cap, .agg #[.int .i64 m.1, .slice ao' m.2.length cap'], .int .i64 kd] w fun e w' => e = .returned (.int .i64 (mostV ms m.2 kd)) ∧ Below w.heap.size w w' := by
  obtain ⟨hn, hat⟩ := hsm
  have HV : Hid (mostV ms m.2 kd = maxTo (betF ms m.2 kd) ms.length) := rfl
  have L0 : Below w.heap.size w (w.alloc (.cells #[.int .i64 m.1, .slice ao' m.2.length cap'] 43)) := (Below.refl _ _).alloc (Nat.le_refl _) _
  have c1 : (w.alloc (.cells #[.int .i64 m.1, .slice ao' m.2.length cap'] 43)).cell? ⟨w.heap.size, 1, none⟩ = some (.slice ao' m.2.length cap') := by go_simp
  have hsz : (w.alloc (.cells #[.int .i64 m.1, .slice ao' m.2.length cap'] 43)).heap.size = w.heap.size + 1 := by simp
  go_enter Try.func40, Try.ntmps40
  go_wp2_with fail
  generalize (w.alloc (.cells #[.int .i64 m.1, .slice ao' m.2.length cap'] 43)) = W0 at *
  have HM := hidP (hv.next L0)
  have HP := hidP (View.next hv' L0)
  have HL0 := hidP L0
  clear hv hv' L0
  go_loopw [7, 12] (fun s i wr => ∃ k : Nat, k ≤ ms.length ∧ i = .int .i64 k ∧ s = .int .i64 (maxTo (betF ms m.2 kd) k) ∧ Below W0.heap.size W0 wr) (fun _ i _ => ms.length - (intOf i).toNat)
  case atStart => exact ⟨0, Nat.zero_le _, rfl, rfl, Below.refl _ _⟩
  case round =>
    obtain ⟨k, hk, rfl, rfl, L⟩ := hrel
    by_cases hlt : k < ms.length
    · obtain ⟨b, off, rfl, hb, hs⟩ := MSeg.seg HM.out (by omega)
      obtain ⟨hc0, ae, ce, hc1, hve⟩ := (hs.below hb (Nat.le_refl _) L).at hlt
      have hz := L.size
      have hd := (L.cell (p := ⟨w.heap.size, 1, none⟩) (by simp; omega)).trans c1
      have hpw := View.next HP.out L
      have L1 : Below wr.heap.size wr (wr.alloc (.cells #[.int .i64 (mid ms k), .slice ae (mat ms k).length ce] 43)) := (Below.refl _ _).alloc (Nat.le_refl _) _
      have HC := hidP (iBet ao' ae cap' ce m.2 (mat ms k) kd _ (View.next hpw L1) (View.next hve L1) hp (hat k))
      have HL := hidP (below_two L L1)
      have hlt0 : w.heap.size < wr.heap.size := by omega
      clear L hpw hve L1
      have HN := hidP (max_bet ms m.2 kd k)
      go_wp2_with fail
      refine HC.out.mono ?_
      rintro e w1 ⟨rfl, L2⟩
      have LF := hidP (below_two HL.out L2)
      clear L2
      go_wp2_with fail
      all_goals
        go_roundw
        case rel => exact ⟨k + 1, by omega, by go_num, by rw [HN.out]; congr 1; omega, LF.out⟩
        case measure => simp [intOf]; omega
    · go_wp2_with fail
      go_ret
      obtain rfl : k = ms.length := by omega
      exact ⟨ret_int HV.out.symm, below_two HL0.out L⟩

set_option maxHeartbeats 1000000 in
theorem sDia (ao : Option Addr) (cap : Nat) (ms : List Mk) (kd : Int) (w : World) (hv : MView w ao ms) (hsm : MSmall ms) :
    Calls Try.prog 17 #[.slice ao ms.length cap, .int .i64 kd] w fun e w' => e = .returned (.int .i64 (diaV ms kd)) ∧ ∃ n, w' = w.drewN n := by
  by_cases h0 : ms.length = 0
  · have HV : Hid (diaV ms kd = -1) := by show diaV ms kd = _; simp [diaV, noneB_nil h0]
    have hb0 : ((ms.length : Int) == 0) = true := by simp; simpa using h0
    go_enter Try.func17, Try.ntmps17
    go_wp2_with fail
    go_ret
    exact ⟨ret_int HV.out.symm, 0, rfl⟩
  · have hb0 : ((ms.length : Int) == 0) = false := by simp; simpa using h0
    have HC := hidP (sMarks ao cap ms w hv hsm)
    rcases hm : marksB ms with _ | _
    · have HV : Hid (diaV ms kd = -1) := by show diaV ms kd = _; simp [diaV, noneB_bad hm]
      rw [hm] at HC
      go_enter Try.func17, Try.ntmps17
      go_wp2_with fail
      refine HC.out.mono ?_
      rintro e w1 ⟨rfl, n1, rfl⟩
      go_wp2_with fail
      go_ret
      exact ⟨ret_int HV.out.symm, n1, rfl⟩
    · rw [hm] at HC
      rcases hkd : kindB kd with _ | _
      · have HV : Hid (diaV ms kd = -1) := by show diaV ms kd = _; simp [diaV, noneB_kind hkd]
        have HK := fun w => hidP (sKind kd w)
        rw [hkd] at HK
        go_enter Try.func17, Try.ntmps17
        go_wp2_with fail
        refine HC.out.mono ?_
        rintro e w1 ⟨rfl, n1, rfl⟩
        go_wp2_with fail
        refine (HK _).out.mono ?_
        rintro e w2 ⟨rfl, rfl⟩
        go_wp2_with fail
        go_ret
        exact ⟨ret_int HV.out.symm, n1, rfl⟩
      · have HV : Hid (diaV ms kd = maxTo (mostF ms kd) ms.length) := by show diaV ms kd = _; simp [diaV, noneB_false h0 hm hkd]
        have HK := fun w => hidP (sKind kd w)
        rw [hkd] at HK
        have hn := hsm.1
        go_enter Try.func17, Try.ntmps17
        go_wp2_with fail
        refine HC.out.mono ?_
        rintro e w1 ⟨rfl, n1, rfl⟩
        go_wp2_with fail
        refine (HK _).out.mono ?_
        rintro e w2 ⟨rfl, rfl⟩
        go_wp2_with fail
        clear HK HC
        go_loopw [5, 6] (fun s i wr => ∃ k : Nat, k ≤ ms.length ∧ i = .int .i64 k ∧ s = .int .i64 (maxTo (mostF ms kd) k) ∧ ∃ n, wr = w.drewN n) (fun _ i _ => ms.length - (intOf i).toNat)
        case atStart => exact ⟨0, Nat.zero_le _, rfl, rfl, n1, rfl⟩
        case round =>
          obtain ⟨k, hk, rfl, rfl, hw⟩ := hrel
          have HW : Hid (∃ n, wr = w.drewN n) := hw
          clear hw
          by_cases hlt : k < ms.length
          · have hvw : MView wr ao ms := by obtain ⟨n, rfl⟩ := HW.out; exact hv
            obtain ⟨b, off, rfl, hb, hs⟩ := MSeg.seg hvw (by omega)
            obtain ⟨-, ae, ce, hc1, hve⟩ := hs.at hlt
            have HN := hidP (maxV_most ms kd k)
            have hbd := mostF_le ms kd k
            have hmx := dia_le ms kd k
            have HCM := hidP (sMost _ ae cap ce ms (mat ms k) kd wr hvw hve hsm (hsm.2 k))
            clear hvw hve hs hv
            go_wp2_with fail
            refine HCM.out.mono ?_
            rintro e w2 ⟨rfl, n2, rfl⟩
            go_wp2_with fail
            refine (sMax _ _ _).mono ?_
            rintro e w3 ⟨rfl, rfl⟩
            go_wp2_with fail
            go_roundw
            case rel => exact ⟨k + 1, by omega, by go_num, by rw [HN.out], by obtain ⟨n, hn⟩ := HW.out; exact ⟨n + n2, by rw [hn]; simp⟩⟩
            case measure => simp [intOf]; omega
          · go_wp2_with fail
            go_ret
            obtain rfl : k = ms.length := by omega
            exact ⟨ret_int HV.out.symm, HW.out⟩

end Go.Proofs.Ytjoffjmnflmnmaa
