/-
  The given MarksOk answers marksB.
-/
import Derived.Test.YtbmljcpeonopmaaMOk
namespace Go.Proofs.Ytbmljcpeonopmaa
open Go Go.RowKit

set_option maxHeartbeats 400000 in
theorem sMarks_long (ao : Option Addr) (n cap : Nat) (w : World) (h : 60 < n) (hn : n ≤ 1048576) :
    Calls Try.prog 62 #[.slice ao n cap] w fun e w' => e = .returned (.bool false) ∧ w' = w := by
  go_enter Try.func62, Try.ntmps62
  go_wp2
  go_ret
  exact ⟨rfl, rfl⟩

set_option maxHeartbeats 400000 in
theorem sMarks_nil (ao : Option Addr) (cap : Nat) (w : World) :
    Calls Try.prog 62 #[.slice ao 0 cap] w fun e w' => e = .returned (.bool true) ∧ w' = w := by
  go_enter Try.func62, Try.ntmps62
  go_wp2
  refine wp_loop_rounds 1 ?_
  rw [rounds_succ]
  go_wp2
  go_ret
  exact ⟨rfl, rfl⟩

set_option maxHeartbeats 2000000 in
theorem sMarks_seg (b off cap : Nat) (ms : List Mk) (w : World) (hs : MSeg w b off ms) (_hb : b < w.heap.size) (hsm : MSmall ms) (h60 : ms.length ≤ 60) :
    Calls Try.prog 62 #[.slice (some ⟨b, off, none⟩) ms.length cap] w fun e w' => e = .returned (.bool (marksB ms)) ∧ ∃ n, w' = w.drewN n := by
  obtain ⟨hn, hat⟩ := hsm
  have H60 := hidP h60
  go_enter Try.func62, Try.ntmps62
  go_wp2
  go_loopw [3] (fun i wr => ∃ k : Nat, k ≤ ms.length ∧ i = .int .i64 k ∧ (∀ j, j < k → mOkAt ms j = true) ∧ ∃ n, wr = w.drewN n) (fun i _ => ms.length - (intOf i).toNat)
  case atStart => exact ⟨0, Nat.zero_le _, rfl, fun j hj => by omega, 0, rfl⟩
  case round =>
    obtain ⟨k, hk, rfl, hall, hw⟩ := hrel
    have HA := hidP hall
    have HW : Hid (∃ n, wr = w.drewN n) := hw
    clear hall hw
    by_cases hlt : k < ms.length
    · have hsw : MSeg wr b off ms := by obtain ⟨n, rfl⟩ := HW.out; exact hs
      obtain ⟨hc0, ao, ca, hc1, hv⟩ := hsw.at hlt
      obtain ⟨-, ao0, ca0, hd1, -⟩ := hsw.at (i := 0) (by omega)
      rw [Nat.zero_mul, Nat.add_zero] at hd1
      have hi0 : (0 : Int) ≤ (k : Int) := Int.natCast_nonneg _
      have hi1 : (k : Int) < (ms.length : Int) := by omega
      have hi2 : (0 : Int) < (ms.length : Int) := by omega
      have hnk := hat k
      have HV := hidP hv
      have HO := hidP (mOkAt_false ms k)
      have HO1 := hidP (mOkAt_iff ms k).2
      clear hv hsw
      rcases hin : inR (mid ms k) 1 1000000 with _ | _
      · have HIN := hidP (inR_not hin)
        go_wp2
        go_quiet (first | (go_at_call 46; exact Calls.quiet_of_same (sIn _ _ _ _)) | (go_at_call 47; exact Calls.quiet_of_same (sOk ao ca (mat ms k) _ (HV.out.drewN _) hnk)))
        go_wp2
        go_ret
        exact ⟨ret_bool (marksB_out hlt (HO.out (fun h => HIN.out ⟨h.1, h.2.1⟩))).symm, by obtain ⟨n, hn⟩ := HW.out; exact ⟨n + nq, by rw [hn]; simp⟩⟩
      · have HIN := hidP (inR_of hin)
        rcases hok : okB (mat ms k) with _ | _
        · go_wp2
          go_quiet (first | (go_at_call 46; exact Calls.quiet_of_same (sIn _ _ _ _)) | (go_at_call 47; exact Calls.quiet_of_same (sOk ao ca (mat ms k) _ (HV.out.drewN _) hnk)))
          go_wp2
          go_ret
          exact ⟨ret_bool (marksB_out hlt (HO.out (fun h => by rw [h.2.2.1] at hok; cases hok))).symm, by obtain ⟨n, hn⟩ := HW.out; exact ⟨n + nq, by rw [hn]; simp⟩⟩
        · by_cases hl : (mat ms k).length = (mat ms 0).length
          · have hlb : (((mat ms k).length : Int) != ((mat ms 0).length : Int)) = false := by simp [hl]
            have HLN := hidP hl
            clear hl
            rcases Nat.eq_zero_or_pos k with h0 | h0
            · subst h0
              have hg : decide ((0 : Int) < 0) = false := by decide
              simp only [Nat.zero_mul, Nat.add_zero] at hc0 hc1
              clear hd1
              go_wp2
              go_quiet (first | (go_at_call 46; exact Calls.quiet_of_same (sIn _ _ _ _)) | (go_at_call 47; exact Calls.quiet_of_same (sOk ao ca (mat ms 0) _ (HV.out.drewN _) hnk)))
              go_wp2
              go_roundw
              case rel => exact ⟨1, by omega, by go_num, fun j hj => by
                rw [show j = 0 by omega]; exact HO1.out ⟨HIN.out.1, HIN.out.2, hok, HLN.out, Or.inl (by trivial)⟩, by obtain ⟨n, hn⟩ := HW.out; exact ⟨n + nq, by rw [hn]; simp⟩⟩
              case measure => simp [intOf]; omega
            · obtain ⟨j, rfl⟩ : ∃ j, k = j + 1 := ⟨k - 1, by omega⟩
              have hsw : MSeg wr b off ms := by obtain ⟨n, rfl⟩ := HW.out; exact hs
              have he0 := (hsw.at (i := j) (by omega)).1
              clear hsw
              have hj1 : (j : Int) < (ms.length : Int) := by omega
              have hwr : IntKind.i64.wrap (((j + 1 : Nat) : Int) - 1) = j := by rw [IntWalk.i64_in _ ⟨by omega, by omega⟩]; omega
              have hwr2 : IntKind.i64.wrap ((j : Int) + 1 - 1) = j := by rw [IntWalk.i64_in _ ⟨by omega, by omega⟩]; omega
              have hg : (0 : Int) < ((j + 1 : Nat) : Int) := by omega
              by_cases hr : mid ms (j + 1) ≤ mid ms j
              · go_wp2
                go_quiet (first | (go_at_call 46; exact Calls.quiet_of_same (sIn _ _ _ _)) | (go_at_call 47; exact Calls.quiet_of_same (sOk ao ca (mat ms (j + 1)) _ (HV.out.drewN _) hnk)))
                go_wp2
                go_ret
                exact ⟨ret_bool (marksB_out hlt (HO.out (fun h => by have := h.2.2.2.2; simp at this; omega))).symm, by obtain ⟨n, hn⟩ := HW.out; exact ⟨n + nq, by rw [hn]; simp⟩⟩
              · go_wp2
                go_quiet (first | (go_at_call 46; exact Calls.quiet_of_same (sIn _ _ _ _)) | (go_at_call 47; exact Calls.quiet_of_same (sOk ao ca (mat ms (j + 1)) _ (HV.out.drewN _) hnk)))
                go_wp2
                go_roundw
                case rel => exact ⟨j + 1 + 1, by omega, by go_num, fun i hi => by
                  rcases Nat.lt_or_ge i (j + 1) with h | h
                  · exact HA.out i h
                  · rw [show i = j + 1 by omega]; exact HO1.out ⟨HIN.out.1, HIN.out.2, hok, HLN.out, Or.inr (by simp; omega)⟩, by obtain ⟨n, hn⟩ := HW.out; exact ⟨n + nq, by rw [hn]; simp⟩⟩
                case measure => simp [intOf]; omega
          · have hlb : (((mat ms k).length : Int) != ((mat ms 0).length : Int)) = true := by simp; omega
            have HLN := hidP hl
            clear hl
            go_wp2
            go_quiet (first | (go_at_call 46; exact Calls.quiet_of_same (sIn _ _ _ _)) | (go_at_call 47; exact Calls.quiet_of_same (sOk ao ca (mat ms k) _ (HV.out.drewN _) hnk)))
            go_wp2
            go_ret
            exact ⟨ret_bool (marksB_out hlt (HO.out (fun h => HLN.out h.2.2.2.1))).symm, by obtain ⟨n, hn⟩ := HW.out; exact ⟨n + nq, by rw [hn]; simp⟩⟩
    · go_wp2
      go_ret
      obtain rfl : k = ms.length := by omega
      exact ⟨ret_bool (Eq.symm (marksB_mk H60.out HA.out)), HW.out⟩

theorem sMarks (ao : Option Addr) (cap : Nat) (ms : List Mk) (w : World) (hv : MView w ao ms) (hsm : MSmall ms) :
    Calls Try.prog 62 #[.slice ao ms.length cap] w fun e w' => e = .returned (.bool (marksB ms)) ∧ ∃ n, w' = w.drewN n := by
  rcases Nat.lt_or_ge 60 ms.length with h | h
  · refine (sMarks_long ao ms.length cap w h hsm.1).mono ?_
    rintro e w' ⟨rfl, rfl⟩
    exact ⟨ret_bool (marksB_long h).symm, 0, rfl⟩
  · rcases hv with rfl | ⟨b, off, rfl, hb, hs⟩
    · refine (sMarks_nil ao cap w).mono ?_
      rintro e w' ⟨rfl, rfl⟩
      exact ⟨rfl, 0, rfl⟩
    · exact sMarks_seg b off cap ms w hs hb hsm h

end Go.Proofs.Ytbmljcpeonopmaa
