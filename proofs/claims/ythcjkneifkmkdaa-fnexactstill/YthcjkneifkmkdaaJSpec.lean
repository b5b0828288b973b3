/-
  The given l10Told, l10Given, l10Mean of chapter 10.
-/
import Derived.Test.YthcjkneifkmkdaaJRw
import Derived.Test.YthcjkneifkmkdaaMOk2
namespace Go.Proofs.Ythcjkneifkmkdaa
open Go Go.RowKit

set_option maxRecDepth 100000 in
set_option maxHeartbeats 2000000 in
theorem sCtr (ao ao' : Option Addr) (cap cap' : Nat) (ms : List Mk) (cs : List (List Int)) (w : World) (hv : MView w ao ms) (hv' : CView w ao' cs) (hsm : MSmall ms) (hcm : CSmall cs) :
    Calls Try.prog 41 #[.slice ao ms.length cap, .slice ao' cs.length cap'] w fun e w' => e = .returned (.bool (ctrsB ms cs)) ∧ ∃ n, w' = w.drewN n := by
  have HM := hidP (sMarks ao cap ms w hv hsm)
  have hn := hsm.1
  have hn' := hcm.1
  rcases hm : marksB ms with _ | _
  · have HV := hidP (ctrsB_told (cs := cs) (toldB_bad (q := cn cs 0) hm))
    rw [hm] at HM
    go_enter Try.func41, Try.ntmps41
    go_wp2_with fail
    refine HM.out.mono ?_
    rintro e w1 ⟨rfl, n1, rfl⟩
    go_wp2_with fail
    go_ret
    exact ⟨ret_bool HV.out.symm, n1, rfl⟩
  · rw [hm] at HM
    by_cases h1 : 1 ≤ cs.length
    · by_cases h8 : cs.length ≤ 8
      · have hq1 : ¬ ((cs.length : Int) < 1) := by omega
        have hq8 : ¬ ((cs.length : Int) > 8) := by omega
        obtain ⟨b', off', rfl, hb', hs'⟩ := hv'.seg (by omega)
        have HS := hidP hs'
        have HAT := hidP hcm.2
        have HV := hidP hv
        have hpos : (0 : Int) < (cs.length : Int) := by omega
        have hpos2 : 0 < cs.length := by omega
        have HP : Hid (1 ≤ cs.length ∧ cs.length ≤ 8 ∧ marksB ms = true) := ⟨h1, h8, hm⟩
        clear hs' hv hv' hcm h1 h8 hm
        go_enter Try.func41, Try.ntmps41
        go_wp2_with fail
        refine HM.out.mono ?_
        rintro e w1 ⟨rfl, hw1⟩
        have HW1 := hidP hw1
        clear hw1 HM
        go_wp2_with fail
        go_loopw [5] (fun i wr => ∃ k : Nat, k ≤ cs.length ∧ i = .int .i64 k ∧ (∀ j, j < k → twoB (cn cs j) (cn cs 0) = true) ∧ ∃ n, wr = w.drewN n) (fun i _ => cs.length - (intOf i).toNat)
        case atStart => exact ⟨0, Nat.zero_le _, rfl, fun j hj => by omega, HW1.out⟩
        case round =>
          obtain ⟨k, hk, rfl, hall, hw⟩ := hrel
          have HA := hidP hall
          have HW := hidP hw
          clear hall hw HW1
          have s1 : CSeg wr b' off' cs := by obtain ⟨n, rfl⟩ := HW.out; exact HS.out.drewN n
          obtain ⟨a0, c0, e0, va0⟩ := s1 0 (by omega)
          rw [Nat.add_zero] at e0
          by_cases hlt : k < cs.length
          · obtain ⟨a, c, e1, va⟩ := s1 k hlt
            have HE := hidP (fun n => sTwo a a0 c c0 (cn cs k) (cn cs 0) (wr.drewN n) (va.drewN n) (va0.drewN n) (HAT.out k) (HAT.out 0))
            have hi0 : (0 : Int) ≤ (k : Int) := Int.natCast_nonneg _
            have hi1 : (k : Int) < (cs.length : Int) := by omega
            clear va va0 s1
            rcases ht : twoB (cn cs k) (cn cs 0) with _ | _
            · rw [ht] at HE
              have HB := hidP (ctrsB_pair (ms := ms) (pairB_out hlt ht))
              clear ht
              go_wp2_with fail
              go_quiet (first | (go_at_call 47; exact Calls.quiet_of_same (HE.out _)))
              go_wp2_with fail
              go_ret
              exact ⟨ret_bool HB.out.symm, by obtain ⟨n, hn⟩ := HW.out; exact ⟨n + nq, by rw [hn]; simp⟩⟩
            · rw [ht] at HE
              have HT := hidP ht
              clear ht
              go_wp2_with fail
              go_quiet (first | (go_at_call 47; exact Calls.quiet_of_same (HE.out _)))
              go_wp2_with fail
              go_roundw
              case rel => exact ⟨k + 1, by omega, by go_num, fun j hj => by
                rcases Nat.lt_or_ge j k with h | h
                · exact HA.out j h
                · rw [show j = k by omega]; exact HT.out, by obtain ⟨n, hn⟩ := HW.out; exact ⟨n + nq, by rw [hn]; simp⟩⟩
              case measure => simp [intOf]; omega
          · obtain rfl : k = cs.length := by omega
            have HPB := hidP (pairB_mk HA.out)
            have hok : Hid (okB (cn cs 0) = true) := (twoB_of (HA.out 0 (by omega))).1
            clear va0 s1
            by_cases h0 : ms.length = 0
            · have hb0 : ((ms.length : Int) == 0) = true := by simp; simpa using h0
              have HB : Hid (ctrsB ms cs = true) := ctrsB_mk HP.out.1 HP.out.2.1 HPB.out (by simp [toldB, HP.out.2.2, hok.out, h0])
              clear h0
              go_wp2_with fail
              go_quiet (fail)
              go_wp2_with fail
              go_ret
              exact ⟨ret_bool HB.out.symm, by obtain ⟨n, hn⟩ := HW.out; exact ⟨n + nq, by rw [hn]; simp⟩⟩
            · have hb0 : ((ms.length : Int) == 0) = false := by simp; simpa using h0
              have v1 : MView wr ao ms := by obtain ⟨n, rfl⟩ := HW.out; exact HV.out.drewN n
              obtain ⟨b, off, rfl, hb, hs⟩ := MSeg.seg v1 (by omega)
              obtain ⟨-, ae, ce, hc1, -⟩ := hs.at (i := 0) (by omega)
              rw [Nat.zero_mul, Nat.add_zero] at hc1
              have hmpos : (0 : Int) < (ms.length : Int) := by omega
              have hmpos2 : 0 < ms.length := by omega
              clear hs v1
              by_cases hl : (mat ms 0).length = (cn cs 0).length
              · have hlb : (((mat ms 0).length : Int) == ((cn cs 0).length : Int)) = true := by simp [hl]
                have HB : Hid (ctrsB ms cs = true) := ctrsB_mk HP.out.1 HP.out.2.1 HPB.out (by simp [toldB, HP.out.2.2, hok.out, hl])
                clear hl h0
                go_wp2_with fail
                go_quiet (fail)
                go_wp2_with fail
                go_ret
                exact ⟨ret_bool HB.out.symm, by obtain ⟨n, hn⟩ := HW.out; exact ⟨n + nq, by rw [hn]; simp⟩⟩
              · have hlb : (((mat ms 0).length : Int) == ((cn cs 0).length : Int)) = false := by simp; omega
                have HB : Hid (ctrsB ms cs = false) := ctrsB_told (by simp only [toldB, h0, hl, decide_false, Bool.or_false, Bool.and_false])
                clear hl h0
                go_wp2_with fail
                go_quiet (fail)
                go_wp2_with fail
                go_ret
                exact ⟨ret_bool HB.out.symm, by obtain ⟨n, hn⟩ := HW.out; exact ⟨n + nq, by rw [hn]; simp⟩⟩
      · have HV := hidP (ctrsB_many (ms := ms) h8)
        have hq1 : ¬ ((cs.length : Int) < 1) := by omega
        have hq8 : ((cs.length : Int) > 8) := by omega
        clear h1 h8
        go_enter Try.func41, Try.ntmps41
        go_wp2_with fail
        refine HM.out.mono ?_
        rintro e w1 ⟨rfl, n1, rfl⟩
        go_wp2_with fail
        go_ret
        exact ⟨ret_bool HV.out.symm, n1, rfl⟩
    · have HV := hidP (ctrsB_few (ms := ms) h1)
      have hq1 : ((cs.length : Int) < 1) := by omega
      clear h1
      go_enter Try.func41, Try.ntmps41
      go_wp2_with fail
      refine HM.out.mono ?_
      rintro e w1 ⟨rfl, n1, rfl⟩
      go_wp2_with fail
      go_ret
      exact ⟨ret_bool HV.out.symm, n1, rfl⟩

set_option maxRecDepth 100000 in
set_option maxHeartbeats 2000000 in
theorem sGivI (ao ao' : Option Addr) (cap cap' : Nat) (p : List Int) (cs : List (List Int)) (w : World) (hv : View w ao p) (hv' : CView w ao' cs) (hp : p.length ≤ 1048576) (hcm : CSmall cs) :
    Calls Try.prog 43 #[.slice ao p.length cap, .slice ao' cs.length cap'] w fun e w' => e = .returned (.int .i64 (givI cs p cs.length : Nat)) ∧ ∃ n, w' = w.drewN n := by
  have hn' := hcm.1
  have HAT := hidP hcm.2
  have HV := hidP hv
  have HC := hidP hv'
  clear hcm hv hv'
  go_enter Try.func43, Try.ntmps43
  go_wp2_with fail
  go_loopw [5, 6] (fun bi i wr => ∃ k : Nat, k ≤ cs.length ∧ i = .int .i64 k ∧ bi = .int .i64 (givI cs p k : Nat) ∧ ∃ n, wr = w.drewN n) (fun _ i _ => cs.length - (intOf i).toNat)
  case atStart => exact ⟨0, Nat.zero_le _, rfl, rfl, 0, rfl⟩
  case round =>
    obtain ⟨k, hk, rfl, rfl, hw⟩ := hrel
    have HW := hidP hw
    clear hw
    by_cases hlt : k < cs.length
    · have v1 : CView wr ao' cs := by obtain ⟨n, rfl⟩ := HW.out; exact HC.out.drewN n
      have vp : View wr ao p := by obtain ⟨n, rfl⟩ := HW.out; exact HV.out.drewN n
      obtain ⟨b', off', rfl, hb', s1⟩ := v1.seg (by omega)
      have hle := givI_le cs p k
      have hgl : givI cs p k < cs.length := by omega
      have HY : Hid (farV p (cn cs k) < farV p (cn cs (givI cs p k)) → givI cs p (k + 1) = k) := fun h => by simp only [givI]; rw [if_pos h]
      have HO : Hid (¬ farV p (cn cs k) < farV p (cn cs (givI cs p k)) → givI cs p (k + 1) = givI cs p k) := fun h => by simp only [givI]; rw [if_neg h]
      obtain ⟨a1, c1, e1, va1⟩ := s1 k hlt
      obtain ⟨a2, c2, e2, va2⟩ := s1 (givI cs p k) hgl
      generalize givI cs p k = bb at *
      have H1 := hidP (fun n => sFar ao a1 cap c1 p (cn cs k) (wr.drewN n) (vp.drewN n) (va1.drewN n) hp (HAT.out k))
      have H2 := hidP (fun n => sFar ao a2 cap c2 p (cn cs bb) (wr.drewN n) (vp.drewN n) (va2.drewN n) hp (HAT.out bb))
      have hi0 : (0 : Int) ≤ (k : Int) := Int.natCast_nonneg _
      have hi1 : (k : Int) < (cs.length : Int) := by omega
      have hj0 : (0 : Int) ≤ (bb : Int) := Int.natCast_nonneg _
      have hj1 : (bb : Int) < (cs.length : Int) := by omega
      clear v1 vp va1 va2 s1
      by_cases htt : farV p (cn cs k) < farV p (cn cs bb)
      · go_wp2_with fail
        go_quiet (first | (go_at_call_of 21 (Value.slice a1 (cn cs k).length c1); exact Calls.quiet_of (H1.out _)) | (go_at_call_of 21 (Value.slice a2 (cn cs bb).length c2); exact Calls.quiet_of (H2.out _)))
        go_wp2_with fail
        go_roundw
        case rel => exact ⟨k + 1, by omega, by go_num, by rw [HY.out htt], by obtain ⟨n, hn⟩ := HW.out; exact ⟨n + nq, by rw [hn]; simp⟩⟩
        case measure => simp [intOf]; omega
      · go_wp2_with fail
        go_quiet (first | (go_at_call_of 21 (Value.slice a1 (cn cs k).length c1); exact Calls.quiet_of (H1.out _)) | (go_at_call_of 21 (Value.slice a2 (cn cs bb).length c2); exact Calls.quiet_of (H2.out _)))
        go_wp2_with fail
        go_roundw
        case rel => exact ⟨k + 1, by omega, by go_num, by rw [HO.out htt], by obtain ⟨n, hn⟩ := HW.out; exact ⟨n + nq, by rw [hn]; simp⟩⟩
        case measure => simp [intOf]; omega
    · obtain rfl : k = cs.length := by omega
      go_wp2_with fail
      go_ret
      exact ⟨rfl, HW.out⟩

end Go.Proofs.Ythcjkneifkmkdaa
