/-
  The program's Diameter, and the middle: the given one and the program's own answer diaV and midV.
-/
import Derived.Test.YtpcclaehcmnngaaDia
namespace Go.Proofs.Ytpcclaehcmnngaa
open Go Go.RowKit

def diaI (ms : List Mk) (kd : Int) (k : Nat) : Int := if k = 0 then -1 else maxTo (mostF ms kd) k
theorem diaI_le (ms : List Mk) (kd : Int) (k : Nat) : -1 ≤ diaI ms kd k ∧ diaI ms kd k ≤ 16000000 := by
  have := dia_le ms kd k
  unfold diaI; split <;> omega
theorem diaI_next (ms : List Mk) (kd : Int) (k : Nat) : diaI ms kd (k + 1) = max (diaI ms kd k) (mostV ms (mat ms k) kd) := by
  have h := mostF_le ms kd k
  have h' : mostF ms kd k = mostV ms (mat ms k) kd := rfl
  unfold diaI
  rw [if_neg (by omega)]
  split
  · rename_i hk; subst hk; simp only [maxTo]; omega
  · simp only [maxTo]; omega
theorem diaI_all (ms : List Mk) (kd : Int) (hm : marksB ms = true) (hk : kindB kd = true) : diaV ms kd = diaI ms kd ms.length := by
  unfold diaI
  split
  · rename_i h; simp [diaV, noneB_nil h]
  · rename_i h; simp [diaV, noneB_false h hm hk]

set_option maxHeartbeats 1000000 in
theorem iDia (ao : Option Addr) (cap : Nat) (ms : List Mk) (kd : Int) (w : World) (hv : MView w ao ms) (hsm : MSmall ms) :
    Calls Try.prog 33 #[.slice ao ms.length cap, .int .i64 kd] w fun e w' => e = .returned (.int .i64 (diaV ms kd)) ∧ Below w.heap.size w w' := by
  have HC := hidP (iMarks ao cap ms w hv hsm)
  rcases hm : marksB ms with _ | _
  · have HV : Hid (diaV ms kd = -1) := by show diaV ms kd = _; simp [diaV, noneB_bad hm]
    rw [hm] at HC
    go_enter Try.func33, Try.ntmps33
    go_wp2_with fail
    refine HC.out.mono ?_
    rintro e w1 ⟨rfl, L1⟩
    go_wp2_with fail
    go_ret
    exact ⟨ret_int HV.out.symm, L1⟩
  · rw [hm] at HC
    have HK := fun w => hidP (iKind kd w)
    rcases hkd : kindB kd with _ | _
    · have HV : Hid (diaV ms kd = -1) := by show diaV ms kd = _; simp [diaV, noneB_kind hkd]
      rw [hkd] at HK
      go_enter Try.func33, Try.ntmps33
      go_wp2_with fail
      refine HC.out.mono ?_
      rintro e w1 ⟨rfl, L1⟩
      go_wp2_with fail
      refine (HK _).out.mono ?_
      rintro e w2 ⟨rfl, rfl⟩
      go_wp2_with fail
      go_ret
      exact ⟨ret_int HV.out.symm, L1⟩
    · have HV := hidP (diaI_all ms kd hm hkd)
      rw [hkd] at HK
      have hn := hsm.1
      have hat := hsm.2
      go_enter Try.func33, Try.ntmps33
      go_wp2_with fail
      refine HC.out.mono ?_
      rintro e w1 ⟨rfl, L1⟩
      go_wp2_with fail
      refine (HK _).out.mono ?_
      rintro e w2 ⟨rfl, rfl⟩
      have HVW := hidP hv
      have HSM := hidP hsm
      clear hv hsm
      go_wp2_with fail
      clear HK HC
      go_loopw [5, 18] (fun s i wr => ∃ k : Nat, k ≤ ms.length ∧ i = .int .i64 k ∧ s = .int .i64 (diaI ms kd k) ∧ Below w.heap.size w wr) (fun _ i _ => ms.length - (intOf i).toNat)
      case atStart => exact ⟨0, Nat.zero_le _, rfl, rfl, L1⟩
      case round =>
        obtain ⟨k, hk, rfl, rfl, L⟩ := hrel
        by_cases hlt : k < ms.length
        · have hvw := HVW.out.next L
          obtain ⟨b, off, rfl, hb, hs⟩ := MSeg.seg hvw (by omega)
          obtain ⟨hc0, ae, ce, hc1, hve⟩ := hs.at hlt
          have L2 : Below wr.heap.size wr (wr.alloc (.cells #[.int .i64 (mid ms k), .slice ae (mat ms k).length ce] 55)) := (Below.refl _ _).alloc (Nat.le_refl _) _
          have HCM := hidP (iMost _ ae cap ce ms (mnth ms k) kd _ (hvw.next L2) (View.next hve L2) HSM.out (hat k))
          have HN := hidP (diaI_next ms kd k)
          have HL := hidP (below_two L L2)
          have hbd := mostF_le ms kd k
          have hmx := diaI_le ms kd k
          clear L hvw hve L2 hs hb
          go_wp2_with fail
          refine HCM.out.mono ?_
          rintro e w2 ⟨rfl, L3⟩
          have LF := hidP (below_two HL.out L3)
          rw [mnth_2] at *
          clear L3
          go_wp2_with fail
          all_goals
            go_roundw
            case rel => exact ⟨k + 1, by omega, by go_num, by rw [HN.out]; congr 1; omega, LF.out⟩
            case measure => simp [intOf]; omega
        · go_wp2_with fail
          go_ret
          obtain rfl : k = ms.length := by omega
          exact ⟨ret_int HV.out.symm, L⟩

theorem bestI_yes (ms : List Mk) (kd : Int) (k : Nat) (h : mostF ms kd k < mostF ms kd (bestI ms kd k)) : bestI ms kd (k + 1) = k := by simp [bestI, h]
theorem bestI_no (ms : List Mk) (kd : Int) (k : Nat) (h : ¬ mostF ms kd k < mostF ms kd (bestI ms kd k)) : bestI ms kd (k + 1) = bestI ms kd k := by simp [bestI, h]
theorem mostF_V (ms : List Mk) (kd : Int) (k : Nat) : mostF ms kd k = mostV ms (mat ms k) kd := rfl

end Go.Proofs.Ytpcclaehcmnngaa
