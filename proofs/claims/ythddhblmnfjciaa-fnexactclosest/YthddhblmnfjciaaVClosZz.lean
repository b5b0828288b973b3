/-
  The given Closest.
-/
import Derived.Test.YthddhblmnfjciaaVSparZz
import Derived.Test.YthddhblmnfjciaaMathZz
namespace Go.Proofs.Ythddhblmnfjciaa
open Go Go.RowKit

theorem bestS_yes (ms : List Mk) (q : List Int) (k : Nat) (h : stepsV (mat ms k) q < stepsV (mat ms (bestS ms q k)) q) : bestS ms q (k + 1) = k := by simp [bestS, h]
theorem bestS_no (ms : List Mk) (q : List Int) (k : Nat) (h : ¬ stepsV (mat ms k) q < stepsV (mat ms (bestS ms q k)) q) : bestS ms q (k + 1) = bestS ms q k := by simp [bestS, h]

theorem sMarksOfV (ao : Option Addr) (cap : Nat) (ks : List Kn) (w : World) (hv : KView w ao ks) (hsm : KSmall ks) :
    Calls Try.prog 88 #[.slice ao ks.length cap] w fun e w' => ∃ g c, e = .returned (.slice (some ⟨g, 0, none⟩) ks.length c) ∧ MView w' (some ⟨g, 0, none⟩) (knotMs ks) ∧ Below w.heap.size w w' := by
  obtain ⟨ds, hds, hs5, hsl⟩ := hv.sview
  have hdl : ds.length = ks.length := by rw [← smMarks_length, hds, List.length_map]
  have h := sMarks6 ao cap ds w hs5 (by have := hsm.1; omega)
  rw [hdl] at h
  refine h.mono fun e w' ⟨g, c, he, hr, L⟩ => ⟨g, c, he, ?_, L⟩
  have e1 : smMarks (sortBy smid ds) = knotMs ks := by rw [sortI_marks, hds]; rfl
  rw [← e1]
  exact hr.view (hsl.sub (fun d hd => (sortBy_perm _ _).mem_iff.1 hd)) L

set_option maxRecDepth 100000 in
set_option maxHeartbeats 2000000 in
theorem sClosest (ao qa : Option Addr) (cap qc : Nat) (ks : List Kn) (q : List Int) (w : World) (hv : KView w ao ks) (hsm : KSmall ks) (hq : View w qa q) (hqn : q.length ≤ 1048576) :
    Calls Try.prog 34 #[.slice ao ks.length cap, .slice qa q.length qc] w fun e w' => e = .returned (.tuple #[.int .i64 (closestV ks q).1, .int .i64 (closestV ks q).2]) ∧ Below w.heap.size w w' := by
  have HM := hidP (sMarksOfV ao cap ks w hv hsm)
  have HC := hidP (fun w1 (L1 : Below w.heap.size w w1) => sBallsOk ao cap ks w1 (hv.next L1) hsm)
  rcases hk : ballsB ks with _ | _
  · have HV : Hid (closestV ks q = (0, -1)) := by show closestV ks q = (0, -1); rw [closestV, if_neg (by intro h; rw [hk] at h; exact absurd h.1 (by simp))]
    rw [hk] at HC
    rw [HV.out]
    clear hv hq
    go_enter Try.func34, Try.ntmps34
    go_wp2_with fail
    refine HM.out.mono ?_
    rintro e w1 ⟨g, c, rfl, -, L1⟩
    have HC1 := hidP (HC.out w1 L1)
    have HL1 := hidP L1
    clear L1
    go_wp2_with fail
    refine HC1.out.mono ?_
    rintro e w2 ⟨rfl, L2⟩
    have HL2 := hidP (chain HL1.out L2)
    clear L2
    go_wp2_with fail
    exact bodyPost_ret (v := .tuple #[.int .i64 0, .int .i64 (-1)]) (by simp [results, Try.results34, go_sem]) rfl ⟨rfl, HL2.out⟩
  · rw [hk] at HC
    obtain ⟨hmk, hf, hz⟩ := balls_tree hk
    obtain ⟨hms, hml⟩ := knotMs_small hsm
    have HTO : Hid (∀ g c w2, MView w2 (some ⟨g, 0, none⟩) (knotMs ks) → Below w.heap.size w w2 → Calls Try.prog 93 #[.slice (some ⟨g, 0, none⟩) ks.length c, .slice qa q.length qc] w2 fun e w' => e = .returned (.bool (toldB (knotMs ks) q)) ∧ ∃ n, w' = w2.drewN n) := fun g c w2 h L => by
      have := sTold (some ⟨g, 0, none⟩) qa c qc (knotMs ks) q w2 h (hq.next L) hms hqn
      rwa [hml] at this
    rcases hto : toldB (knotMs ks) q with _ | _
    · have HV : Hid (closestV ks q = (0, -1)) := by show closestV ks q = (0, -1); rw [closestV, if_neg (by intro h; rw [hto] at h; exact absurd h.2.1 (by simp))]
      rw [hto] at HTO
      rw [HV.out]
      clear hv hq hmk hf hz hms hml
      go_enter Try.func34, Try.ntmps34
      go_wp2_with fail
      refine HM.out.mono ?_
      rintro e w1 ⟨g, c, rfl, hv1, L1⟩
      have HC1 := hidP (HC.out w1 L1)
      have HL1 := hidP L1
      have HV1 := hidP hv1
      clear L1 hv1
      go_wp2_with fail
      refine HC1.out.mono ?_
      rintro e w2 ⟨rfl, L2⟩
      have L12 := chain HL1.out L2
      have HT2 := hidP (HTO.out g c w2 (HV1.out.next L2) L12)
      have HL2 := hidP L12
      clear L2 L12
      go_wp2_with fail
      refine HT2.out.mono ?_
      rintro e w3 ⟨rfl, n3, rfl⟩
      go_wp2_with fail
      exact bodyPost_ret (v := .tuple #[.int .i64 0, .int .i64 (-1)]) (by simp [results, Try.results34, go_sem]) rfl ⟨rfl, below_drewN HL2.out n3⟩
    · rw [hto] at HTO
      by_cases h0 : ks.length = 0
      · have HV : Hid (closestV ks q = (0, -1)) := by show closestV ks q = (0, -1); rw [closestV, if_neg (by intro h; exact h.2.2 h0)]
        have hb0 : ((ks.length : Int) == 0) = true := by simp; simpa using h0
        rw [HV.out]
        clear hv hq hmk hf hz hms hml h0
        go_enter Try.func34, Try.ntmps34
        go_wp2_with fail
        refine HM.out.mono ?_
        rintro e w1 ⟨g, c, rfl, hv1, L1⟩
        have HC1 := hidP (HC.out w1 L1)
        have HL1 := hidP L1
        have HV1 := hidP hv1
        clear L1 hv1
        go_wp2_with fail
        refine HC1.out.mono ?_
        rintro e w2 ⟨rfl, L2⟩
        have L12 := chain HL1.out L2
        have HT2 := hidP (HTO.out g c w2 (HV1.out.next L2) L12)
        have HL2 := hidP L12
        clear L2 L12
        go_wp2_with fail
        refine HT2.out.mono ?_
        rintro e w3 ⟨rfl, n3, rfl⟩
        go_wp2_with fail
        exact bodyPost_ret (v := .tuple #[.int .i64 0, .int .i64 (-1)]) (by simp [results, Try.results34, go_sem]) rfl ⟨rfl, below_drewN HL2.out n3⟩
      · have hb0 : ((ks.length : Int) == 0) = false := by simp; simpa using h0
        have HV : Hid (closestV ks q = (mid (knotMs ks) (bestS (knotMs ks) q ks.length), stepsV (mat (knotMs ks) (bestS (knotMs ks) q ks.length)) q)) := by show closestV ks q = _; rw [closestV, if_pos ⟨hk, hto, h0⟩]
        rw [HV.out]
        have HB := hidP (fun n => bestS_lt (knotMs ks) q n)
        have HQ := hidP hq
        have HSM := hidP hms
        have hn := hsm.1
        have HY0 := hidP (bestS_yes (knotMs ks) q)
        have HO0 := hidP (bestS_no (knotMs ks) q)
        have HB0 : Hid (bestS (knotMs ks) q 0 = 0) := rfl
        clear hv hq hmk hf hz hms hk hto HV
        generalize knotMs ks = ms at *
        have HML := hidP hml
        clear hml
        go_enter Try.func34, Try.ntmps34
        go_wp2_with fail
        refine HM.out.mono ?_
        rintro e w1 ⟨g, c, rfl, hv1, L1⟩
        have HC1 := hidP (HC.out w1 L1)
        have HL1 := hidP L1
        have HV1 := hidP hv1
        clear L1 hv1
        go_wp2_with fail
        refine HC1.out.mono ?_
        rintro e w2 ⟨rfl, L2⟩
        have L12 := chain HL1.out L2
        have HV2 := hidP (HV1.out.next L2)
        have HT2 := hidP (HTO.out g c w2 HV2.out L12)
        have HL2 := hidP L12
        clear L2 L12
        go_wp2_with fail
        refine HT2.out.mono ?_
        rintro e w3 ⟨rfl, n3, rfl⟩
        clear HT2 HTO HC HC1 HV1 HM
        go_wp2_with fail
        go_loopw [7, 8] (fun s i wr => ∃ k : Nat, k ≤ ks.length ∧ i = .int .i64 k ∧ s = .int .i64 (bestS ms q k : Nat) ∧ ∃ n, wr = w2.drewN n) (fun _ i _ => ks.length - (intOf i).toNat)
        case atStart => exact ⟨0, Nat.zero_le _, rfl, by rw [HB0.out]; rfl, n3, rfl⟩
        case round =>
          obtain ⟨k, hk, rfl, rfl, hw⟩ := hrel
          have HW : Hid (∃ n, wr = w2.drewN n) := hw
          clear hw
          have hvw : MView wr (some ⟨g, 0, none⟩) ms := by obtain ⟨n, rfl⟩ := HW.out; exact HV2.out.drewN n
          have hqw : View wr qa q := by obtain ⟨n, rfl⟩ := HW.out; exact (HQ.out.next HL2.out).drewN n
          have HQW := hidP hqw
          clear hqw
          obtain ⟨b, off, e, hb, hs⟩ := MSeg.seg hvw (by rw [HML.out]; omega)
          injection e with e
          injection e with e1 e2
          subst e1 e2
          have hbl : bestS ms q k < ks.length := by
            rcases Nat.eq_zero_or_pos k with h | h
            · subst h; rw [HB0.out]; omega
            · have := HB.out k h; omega
          obtain ⟨hd0, af, cf, hd1, hvf⟩ := hs.at (show bestS ms q k < ms.length by rw [HML.out]; exact hbl)
          rw [Nat.zero_add] at hd0 hd1
          have HF := hidP hvf
          have hfn := HSM.out.2 (bestS ms q k)
          have HFN := hidP hfn
          clear hvf hfn
          by_cases hlt : k < ks.length
          · obtain ⟨-, ae, ce, hc1, hve⟩ := hs.at (show k < ms.length by rw [HML.out]; exact hlt)
            rw [Nat.zero_add] at hc1
            have HE := hidP hve
            have HEN := hidP (HSM.out.2 k)
            have HY := hidP (HY0.out k)
            have HO := hidP (HO0.out k)
            generalize bestS ms q k = bb at *
            have hi0 : (0 : Int) ≤ (k : Int) := Int.natCast_nonneg _
            have hi1 : (k : Int) < (ks.length : Int) := by omega
            have hj0 : (0 : Int) ≤ (bb : Int) := Int.natCast_nonneg _
            have hj1 : (bb : Int) < (ks.length : Int) := by omega
            clear hvw hve hs hd0
            by_cases htt : stepsV (mat ms k) q < stepsV (mat ms bb) q
            · go_wp2_with fail
              go_quiet (first | (go_at_call_of 94 (Value.slice ae (mat ms k).length ce); exact Calls.quiet_of (sSteps ae qa ce qc (mat ms k) q _ (HE.out.drewN _) (HQW.out.drewN _) HEN.out hqn)) | (go_at_call_of 94 (Value.slice af (mat ms bb).length cf); exact Calls.quiet_of (sSteps af qa cf qc (mat ms bb) q _ (HF.out.drewN _) (HQW.out.drewN _) HFN.out hqn)))
              go_wp2_with fail
              go_roundw
              case rel => exact ⟨k + 1, by omega, by go_num, by rw [HY.out htt], by obtain ⟨n, hn⟩ := HW.out; exact ⟨n + nq, by rw [hn]; simp⟩⟩
              case measure => simp [intOf]; omega
            · go_wp2_with fail
              go_quiet (first | (go_at_call_of 94 (Value.slice ae (mat ms k).length ce); exact Calls.quiet_of (sSteps ae qa ce qc (mat ms k) q _ (HE.out.drewN _) (HQW.out.drewN _) HEN.out hqn)) | (go_at_call_of 94 (Value.slice af (mat ms bb).length cf); exact Calls.quiet_of (sSteps af qa cf qc (mat ms bb) q _ (HF.out.drewN _) (HQW.out.drewN _) HFN.out hqn)))
              go_wp2_with fail
              go_roundw
              case rel => exact ⟨k + 1, by omega, by go_num, by rw [HO.out htt], by obtain ⟨n, hn⟩ := HW.out; exact ⟨n + nq, by rw [hn]; simp⟩⟩
              case measure => simp [intOf]; omega
          · obtain rfl : k = ks.length := by omega
            generalize hbb : bestS ms q ks.length = bb at *
            have HBB := hidP hbb
            clear hbb
            have hj0 : (0 : Int) ≤ (bb : Int) := Int.natCast_nonneg _
            have hj1 : (bb : Int) < (ks.length : Int) := by omega
            clear hs hvw
            go_wp2_with fail
            go_quiet (first | (go_at_call_of 94 (Value.slice af (mat ms bb).length cf); exact Calls.quiet_of (sSteps af qa cf qc (mat ms bb) q _ (HF.out.drewN _) (HQW.out.drewN _) HFN.out hqn)))
            go_wp2_with fail
            exact bodyPost_ret (v := .tuple #[.int .i64 (mid ms bb), .int .i64 (stepsV (mat ms bb) q)]) (by simp [results, Try.results34, go_sem]) rfl ⟨by rw [HBB.out], by obtain ⟨n, hn⟩ := HW.out; rw [hn]; exact below_drewN (below_drewN HL2.out n) nq⟩

end Go.Proofs.Ythddhblmnfjciaa
