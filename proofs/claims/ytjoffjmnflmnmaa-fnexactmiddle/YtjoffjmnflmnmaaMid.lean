/-
  The program's Diameter, and the middle: the given one and the program's own answer diaV and midV.
-/
import Derived.Test.YtjoffjmnflmnmaaDia
namespace Go.Proofs.Ytjoffjmnflmnmaa
open Go Go.RowKit

def diaI (ms : List Mk) (kd : Int) (k : Nat) : Int := if k = 0 then -1 else maxTo (mostF ms kd) k
theorem diaI_le (ms : List Mk) (kd : Int) (k : Nat) : -1 ≤ diaI ms kd k ∧ diaI ms kd k ≤ 16000000 := by
  have := dia_le ms kd k
  unfold diaI; split <;> omega
theorem diaI_next (ms : List Mk) (kd : Int) (k : Nat) : diaI ms kd (k + 1) = max (diaI ms kd k) (mostV ms (mat ms k) kd) := by
  have h := mostF_le ms kd k
  have h' : mostF ms kd k = mostV ms (mat ms k) kd := rfl
  unfold diaI
  rw [if_neg (by omega)]
  split
  · rename_i hk; subst hk; simp only [maxTo]; omega
  · simp only [maxTo]; omega
theorem diaI_all (ms : List Mk) (kd : Int) (hm : marksB ms = true) (hk : kindB kd = true) : diaV ms kd = diaI ms kd ms.length := by
  unfold diaI
  split
  · rename_i h; simp [diaV, noneB_nil h]
  · rename_i h; simp [diaV, noneB_false h hm hk]

set_option maxHeartbeats 1000000 in
theorem iDia (ao : Option Addr) (cap : Nat) (ms : List Mk) (kd : Int) (w : World) (hv : MView w ao ms) (hsm : MSmall ms) :
    Calls Try.prog 18 #[.slice ao ms.length cap, .int .i64 kd] w fun e w' => e = .returned (.int .i64 (diaV ms kd)) ∧ Below w.heap.size w w' := by
  have HC := hidP (iMarks ao cap ms w hv hsm)
  rcases hm : marksB ms with _ | _
  · have HV : Hid (diaV ms kd = -1) := by show diaV ms kd = _; simp [diaV, noneB_bad hm]
    rw [hm] at HC
    go_enter Try.func18, Try.ntmps18
    go_wp2_with fail
    refine HC.out.mono ?_
    rintro e w1 ⟨rfl, L1⟩
    go_wp2_with fail
    go_ret
    exact ⟨ret_int HV.out.symm, L1⟩
  · rw [hm] at HC
    have HK := fun w => hidP (iKind kd w)
    rcases hkd : kindB kd with _ | _
    · have HV : Hid (diaV ms kd = -1) := by show diaV ms kd = _; simp [diaV, noneB_kind hkd]
      rw [hkd] at HK
      go_enter Try.func18, Try.ntmps18
      go_wp2_with fail
      refine HC.out.mono ?_
      rintro e w1 ⟨rfl, L1⟩
      go_wp2_with fail
      refine (HK _).out.mono ?_
      rintro e w2 ⟨rfl, rfl⟩
      go_wp2_with fail
      go_ret
      exact ⟨ret_int HV.out.symm, L1⟩
    · have HV := hidP (diaI_all ms kd hm hkd)
      rw [hkd] at HK
      have hn := hsm.1
      have hat := hsm.2
      go_enter Try.func18, Try.ntmps18
      go_wp2_with fail
      refine HC.out.mono ?_
      rintro e w1 ⟨rfl, L1⟩
      go_wp2_with fail
      refine (HK _).out.mono ?_
      rintro e w2 ⟨rfl, rfl⟩
      have HVW := hidP hv
      have HSM := hidP hsm
      clear hv hsm
      go_wp2_with fail
      clear HK HC
      go_loopw [5, 18] (fun s i wr => ∃ k : Nat, k ≤ ms.length ∧ i = .int .i64 k ∧ s = .int .i64 (diaI ms kd k) ∧ Below w.heap.size w wr) (fun _ i _ => ms.length - (intOf i).toNat)
      case atStart => exact ⟨0, Nat.zero_le _, rfl, rfl, L1⟩
      case round =>
        obtain ⟨k, hk, rfl, rfl, L⟩ := hrel
        by_cases hlt : k < ms.length
        · have hvw := HVW.out.next L
          obtain ⟨b, off, rfl, hb, hs⟩ := MSeg.seg hvw (by omega)
          obtain ⟨hc0, ae, ce, hc1, hve⟩ := hs.at hlt
          have L2 : Below wr.heap.size wr (wr.alloc (.cells #[.int .i64 (mid ms k), .slice ae (mat ms k).length ce] 43)) := (Below.refl _ _).alloc (Nat.le_refl _) _
          have HCM := hidP (iMost _ ae cap ce ms (mnth ms k) kd _ (hvw.next L2) (View.next hve L2) HSM.out (hat k))
          have HN := hidP (diaI_next ms kd k)
          have HL := hidP (below_two L L2)
          have hbd := mostF_le ms kd k
          have hmx := diaI_le ms kd k
          clear L hvw hve L2 hs hb
          go_wp2_with fail
          refine HCM.out.mono ?_
          rintro e w2 ⟨rfl, L3⟩
          have LF := hidP (below_two HL.out L3)
          rw [mnth_2] at *
          clear L3
          go_wp2_with fail
          all_goals
            go_roundw
            case rel => exact ⟨k + 1, by omega, by go_num, by rw [HN.out]; congr 1; omega, LF.out⟩
            case measure => simp [intOf]; omega
        · go_wp2_with fail
          go_ret
          obtain rfl : k = ms.length := by omega
          exact ⟨ret_int HV.out.symm, L⟩

theorem bestI_yes (ms : List Mk) (kd : Int) (k : Nat) (h : mostF ms kd k < mostF ms kd (bestI ms kd k)) : bestI ms kd (k + 1) = k := by simp [bestI, h]
theorem bestI_no (ms : List Mk) (kd : Int) (k : Nat) (h : ¬ mostF ms kd k < mostF ms kd (bestI ms kd k)) : bestI ms kd (k + 1) = bestI ms kd k := by simp [bestI, h]
theorem mostF_V (ms : List Mk) (kd : Int) (k : Nat) : mostF ms kd k = mostV ms (mat ms k) kd := rfl

set_option maxHeartbeats 2000000 in
theorem sMid (ao : Option Addr) (cap : Nat) (ms : List Mk) (kd : Int) (w : World) (hv : MView w ao ms) (hsm : MSmall ms) :
    Calls Try.prog 19 #[.slice ao ms.length cap, .int .i64 kd] w fun e w' => e = .returned (.int .i64 (midV ms kd)) ∧ ∃ n, w' = w.drewN n := by
  by_cases h0 : ms.length = 0
  · have HV : Hid (midV ms kd = 0) := by show midV ms kd = _; simp [midV, noneB_nil h0]
    have hb0 : ((ms.length : Int) == 0) = true := by simp; simpa using h0
    go_enter Try.func19, Try.ntmps19
    go_wp2_with fail
    go_ret
    exact ⟨ret_int HV.out.symm, 0, rfl⟩
  · have hb0 : ((ms.length : Int) == 0) = false := by simp; simpa using h0
    have HC := hidP (sMarks ao cap ms w hv hsm)
    have HK := fun w => hidP (sKind kd w)
    rcases hm : marksB ms with _ | _
    · have HV : Hid (midV ms kd = 0) := by show midV ms kd = _; simp [midV, noneB_bad hm]
      rw [hm] at HC
      go_enter Try.func19, Try.ntmps19
      go_wp2_with fail
      refine HC.out.mono ?_
      rintro e w1 ⟨rfl, n1, rfl⟩
      go_wp2_with fail
      go_ret
      exact ⟨ret_int HV.out.symm, n1, rfl⟩
    · rw [hm] at HC
      rcases hkd : kindB kd with _ | _
      · have HV : Hid (midV ms kd = 0) := by show midV ms kd = _; simp [midV, noneB_kind hkd]
        rw [hkd] at HK
        go_enter Try.func19, Try.ntmps19
        go_wp2_with fail
        refine HC.out.mono ?_
        rintro e w1 ⟨rfl, n1, rfl⟩
        go_wp2_with fail
        refine (HK _).out.mono ?_
        rintro e w2 ⟨rfl, rfl⟩
        go_wp2_with fail
        go_ret
        exact ⟨ret_int HV.out.symm, n1, rfl⟩
      · have HV : Hid (midV ms kd = mid ms (bestI ms kd ms.length)) := by show midV ms kd = _; simp [midV, noneB_false h0 hm hkd]
        rw [hkd] at HK
        have hn := hsm.1
        have HSM := hidP hsm
        have HB := hidP (fun n => bestI_lt ms kd n)
        have HVW := hidP hv
        clear hsm
        go_enter Try.func19, Try.ntmps19
        go_wp2_with fail
        refine HC.out.mono ?_
        rintro e w1 ⟨rfl, n1, rfl⟩
        go_wp2_with fail
        refine (HK _).out.mono ?_
        rintro e w2 ⟨rfl, rfl⟩
        clear hv
        go_wp2_with fail
        clear HK HC
        go_loopw [5, 6] (fun s i wr => ∃ k : Nat, k ≤ ms.length ∧ i = .int .i64 k ∧ s = .int .i64 (bestI ms kd k : Nat) ∧ ∃ n, wr = w.drewN n) (fun _ i _ => ms.length - (intOf i).toNat)
        case atStart => exact ⟨0, Nat.zero_le _, rfl, rfl, n1, rfl⟩
        case round =>
          obtain ⟨k, hk, rfl, rfl, hw⟩ := hrel
          have HW : Hid (∃ n, wr = w.drewN n) := hw
          clear hw
          have hvw : MView wr ao ms := by obtain ⟨n, rfl⟩ := HW.out; exact HVW.out
          by_cases hlt : k < ms.length
          · obtain ⟨b, off, rfl, hb, hs⟩ := MSeg.seg hvw (by omega)
            have hbl : bestI ms kd k < ms.length := by
              rcases Nat.eq_zero_or_pos k with h | h
              · subst h; simp [bestI]; omega
              · have := HB.out k h; omega
            obtain ⟨-, ae, ce, hc1, hve⟩ := hs.at hlt
            obtain ⟨-, af, cf, hd1, hvf⟩ := hs.at hbl
            have HVW1 := hidP hvw
            have HE := hidP hve
            have HF := hidP hvf
            have HY := hidP (bestI_yes ms kd k)
            have HO := hidP (bestI_no ms kd k)
            rw [mostF_V, mostF_V] at HY HO
            generalize bestI ms kd k = bb at *
            have hi0 : (0 : Int) ≤ (k : Int) := Int.natCast_nonneg _
            have hi1 : (k : Int) < (ms.length : Int) := by omega
            have hj0 : (0 : Int) ≤ (bb : Int) := Int.natCast_nonneg _
            have hj1 : (bb : Int) < (ms.length : Int) := by omega
            clear hvw hve hvf hs
            by_cases htt : mostV ms (mat ms k) kd < mostV ms (mat ms bb) kd
            · go_wp2_with fail
              go_quiet (first | (go_at_call_of 38 (Value.slice ae (mat ms k).length ce); exact Calls.quiet_of (sMost _ ae cap ce ms (mat ms k) kd _ (HVW1.out.drewN _) (HE.out.drewN _) HSM.out (HSM.out.2 k))) | (go_at_call_of 38 (Value.slice af (mat ms bb).length cf); exact Calls.quiet_of (sMost _ af cap cf ms (mat ms bb) kd _ (HVW1.out.drewN _) (HF.out.drewN _) HSM.out (HSM.out.2 bb))))
              go_wp2_with fail
              go_roundw
              case rel => exact ⟨k + 1, by omega, by go_num, by rw [HY.out htt], by obtain ⟨n, hn⟩ := HW.out; exact ⟨n + nq, by rw [hn]; simp⟩⟩
              case measure => simp [intOf]; omega
            · go_wp2_with fail
              go_quiet (first | (go_at_call_of 38 (Value.slice ae (mat ms k).length ce); exact Calls.quiet_of (sMost _ ae cap ce ms (mat ms k) kd _ (HVW1.out.drewN _) (HE.out.drewN _) HSM.out (HSM.out.2 k))) | (go_at_call_of 38 (Value.slice af (mat ms bb).length cf); exact Calls.quiet_of (sMost _ af cap cf ms (mat ms bb) kd _ (HVW1.out.drewN _) (HF.out.drewN _) HSM.out (HSM.out.2 bb))))
              go_wp2_with fail
              go_roundw
              case rel => exact ⟨k + 1, by omega, by go_num, by rw [HO.out htt], by obtain ⟨n, hn⟩ := HW.out; exact ⟨n + nq, by rw [hn]; simp⟩⟩
              case measure => simp [intOf]; omega
          · obtain rfl : k = ms.length := by omega
            obtain ⟨b, off, rfl, hb, hs⟩ := MSeg.seg hvw (by omega)
            have hbl := HB.out ms.length (by omega)
            have hc0 := (hs.at hbl).1
            generalize bestI ms kd ms.length = bb at *
            clear hs hvw
            go_wp2_with fail
            go_ret
            exact ⟨ret_int HV.out.symm, HW.out⟩

set_option maxHeartbeats 2000000 in
theorem iMid (ao : Option Addr) (cap : Nat) (ms : List Mk) (kd : Int) (w : World) (hv : MView w ao ms) (hsm : MSmall ms) (hcap : ms.length ≤ cap) :
    Calls Try.prog 20 #[.slice ao ms.length cap, .int .i64 kd] w fun e w' => e = .returned (.int .i64 (midV ms kd)) ∧ Below w.heap.size w w' := by
  by_cases h0 : ms.length = 0
  · have HV : Hid (midV ms kd = 0) := by show midV ms kd = _; simp [midV, noneB_nil h0]
    have hb0 : ((ms.length : Int) == 0) = true := by simp; simpa using h0
    go_enter Try.func20, Try.ntmps20
    go_wp2_with fail
    go_ret
    exact ⟨ret_int HV.out.symm, Below.refl _ _⟩
  · have hb0 : ((ms.length : Int) == 0) = false := by simp; simpa using h0
    have HC := hidP (iMarks ao cap ms w hv hsm)
    have HK := fun w => hidP (iKind kd w)
    rcases hm : marksB ms with _ | _
    · have HV : Hid (midV ms kd = 0) := by show midV ms kd = _; simp [midV, noneB_bad hm]
      rw [hm] at HC
      go_enter Try.func20, Try.ntmps20
      go_wp2_with fail
      refine HC.out.mono ?_
      rintro e w1 ⟨rfl, L1⟩
      go_wp2_with fail
      go_ret
      exact ⟨ret_int HV.out.symm, L1⟩
    · rw [hm] at HC
      rcases hkd : kindB kd with _ | _
      · have HV : Hid (midV ms kd = 0) := by show midV ms kd = _; simp [midV, noneB_kind hkd]
        rw [hkd] at HK
        go_enter Try.func20, Try.ntmps20
        go_wp2_with fail
        refine HC.out.mono ?_
        rintro e w1 ⟨rfl, L1⟩
        go_wp2_with fail
        refine (HK _).out.mono ?_
        rintro e w2 ⟨rfl, rfl⟩
        go_wp2_with fail
        go_ret
        exact ⟨ret_int HV.out.symm, L1⟩
      · have HV : Hid (midV ms kd = mid ms (bestI ms kd ms.length)) := by show midV ms kd = _; simp [midV, noneB_false h0 hm hkd]
        rw [hkd] at HK
        obtain ⟨b, off, rfl, hb, hs⟩ := MSeg.seg hv (by omega)
        have HSM := hidP hsm
        have HVW := hidP hv
        have HS := hidP hs
        have hn := hsm.1
        have hat := hsm.2
        have H1 := hidP (bestI_one ms kd)
        clear hv hs hsm
        go_enter Try.func20, Try.ntmps20
        go_wp2_with fail
        refine HC.out.mono ?_
        rintro e w1 ⟨rfl, L1⟩
        go_wp2_with fail
        refine (HK _).out.mono ?_
        rintro e w2 ⟨rfl, rfl⟩
        clear HK HC
        obtain ⟨hc0, ae, ce, hc1, hve⟩ := (HS.out.below hb (Nat.le_refl _) L1).at (i := 0) (by omega)
        rw [Nat.zero_mul, Nat.add_zero] at hc0 hc1
        have hz := L1.size
        have hbw : b < w2.heap.size := by omega
        have hi1 : (0 : Int) < (ms.length : Int) := by omega
        have hi2 : 0 < ms.length := by omega
        have hi3 : ms ≠ [] := by intro h; rw [h] at h0; simp at h0
        have HCM := hidP (iMost _ ae cap ce ms (mnth ms 0) kd w2.drew (HVW.out.next L1).drew (hve.drew) HSM.out (hat 0))
        have HL1 := hidP L1
        clear L1 hve
        go_wp2_with fail
        go_region_held3 (fun w' => w'.cell? ⟨b, off, none⟩ = some (.int .i64 (mid ms 0)) ∧ w'.cell? ⟨b, off + 1, none⟩ = some (.slice ae (mat ms 0).length ce))
          (first
            | go_keep
            | (refine ⟨(L3.cell (p := ⟨b, off, none⟩) hbw).trans hc0, (L3.cell (p := ⟨b, off + 1, none⟩) hbw).trans hc1⟩))
          (first
            | (go_at_call 40; refine HCM.out.mono ?_; rintro e w3 ⟨rfl, L3⟩))
        have LF := hidP (HL1.out.drew.trans (L3.mono hz))
        clear L3 HCM HL1 hc0 hc1
        rw [mnth_2]
        go_wp2_with fail
        all_goals
          clear hi1 hi2
          go_loopw [5, 6, 36] (fun md le i wr => ∃ k : Nat, k ≤ ms.length - 1 ∧ i = .int .i64 k ∧ md = .int .i64 (mid ms (bestI ms kd (k + 1))) ∧ le = .int .i64 (mostF ms kd (bestI ms kd (k + 1))) ∧ Below w.heap.size w wr) (fun _ _ i _ => ms.length - (intOf i).toNat)
          case atStart => exact ⟨0, Nat.zero_le _, rfl, by rw [H1.out], by rw [H1.out]; rfl, LF.out⟩
          case round =>
            obtain ⟨k, hk, rfl, rfl, rfl, L⟩ := hrel
            by_cases hlt : k < ms.length - 1
            · first
              | (exfalso; omega)
              | (
                  have hvw := HVW.out.next L
                  obtain ⟨hc0, ae, ce, hc1, hve⟩ := (HS.out.below hb (Nat.le_refl _) L).at (i := k + 1) (by omega)
                  rw [show off + (k + 1) * 2 = off + 2 + k * 2 by omega] at hc0 hc1
                  have L2 : Below wr.heap.size wr (wr.alloc (.cells #[.int .i64 (mid ms (k + 1)), .slice ae (mat ms (k + 1)).length ce] 43)) := (Below.refl _ _).alloc (Nat.le_refl _) _
                  have HCM := hidP (iMost _ ae cap ce ms (mnth ms (k + 1)) kd _ (hvw.next L2) (View.next hve L2) HSM.out (hat (k + 1)))
                  have HL := hidP (below_two L L2)
                  have HY := hidP (bestI_yes ms kd (k + 1))
                  have HO := hidP (bestI_no ms kd (k + 1))
                  have c0 : (wr.alloc (.cells #[.int .i64 (mid ms (k + 1)), .slice ae (mat ms (k + 1)).length ce] 43)).cell? ⟨wr.heap.size, 0, none⟩ = some (.int .i64 (mid ms (k + 1))) := by go_simp
                  clear L hvw hve L2
                  generalize bestI ms kd (k + 1) = bb at *
                  go_wp2_with fail
                  refine HCM.out.mono ?_
                  rintro e w4 ⟨rfl, L3⟩
                  rw [mnth_2, ← mostF_V] at *
                  replace c0 := (L3.cell (p := ⟨wr.heap.size, 0, none⟩) (by simp)).trans c0
                  have LF2 := hidP (below_two HL.out L3)
                  clear L3
                  by_cases htt : mostF ms kd (k + 1) < mostF ms kd bb
                  · go_wp2_with fail
                    go_roundw
                    case rel => exact ⟨k + 1, by omega, by go_num, by rw [HY.out htt], by rw [HY.out htt], LF2.out⟩
                    case measure => simp [intOf]; omega
                  · go_wp2_with fail
                    go_roundw
                    case rel => exact ⟨k + 1, by omega, by go_num, by rw [HO.out htt], by rw [HO.out htt], LF2.out⟩
                    case measure => simp [intOf]; omega)
            · go_wp2_with fail
              go_ret
              have hk1 : k + 1 = ms.length := by omega
              exact ⟨ret_int (by rw [hk1]; exact HV.out.symm), L⟩

end Go.Proofs.Ytjoffjmnflmnmaa
