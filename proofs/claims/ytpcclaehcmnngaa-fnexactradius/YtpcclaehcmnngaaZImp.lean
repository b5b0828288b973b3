/-
  The program's Radius and choiceOk.
-/
import Derived.Test.YtpcclaehcmnngaaZLnk
import Derived.Test.YtpcclaehcmnngaaZSpC
import Derived.Test.YtpcclaehcmnngaaGIds
namespace Go.Proofs.Ytpcclaehcmnngaa
open Go Go.RowKit

set_option maxRecDepth 100000 in
set_option maxHeartbeats 1000000 in
theorem iRadius (ao ai : Option Addr) (cap ci : Nat) (ms : List Mk) (ids : List Int) (kd : Int) (w : World) (hv : MView w ao ms) (hi : View w ai ids) (hsm : MSmall ms) (hil : ids.length ≤ 1048576) :
    Calls Try.prog 11 #[.slice ao ms.length cap, .slice ai ids.length ci, .int .i64 kd] w fun e w' => e = .returned (.int .i64 (radI ms ids kd)) ∧ Below w.heap.size w w' := by
  have HC := hidP (iMarks ao cap ms w hv hsm)
  have HK := fun w => hidP (iKind kd w)
  by_cases h0 : ids.length = 0
  · have HV := hidP (radI_bad (radB_false (ms := ms) (ids := ids) (kd := kd) (fun h => absurd h0 h.2.1)))
    have hb0 : ((ids.length : Int) == 0) = true := by simp; simpa using h0
    clear h0
    go_enter Try.func11, Try.ntmps11
    go_wp2_with fail
    go_ret
    exact ⟨ret_int HV.out.symm, Below.refl _ _⟩
  · have hb0 : ((ids.length : Int) == 0) = false := by simp; simpa using h0
    have H0 := hidP h0
    clear h0
    rcases hm : marksB ms with _ | _
    · have HV := hidP (radI_bad (radB_false (ms := ms) (ids := ids) (kd := kd) (fun h => by rw [hm] at h; exact absurd h.1 (by simp))))
      rw [hm] at HC
      go_enter Try.func11, Try.ntmps11
      go_wp2_with fail
      refine HC.out.mono ?_
      rintro e w1 ⟨rfl, L1⟩
      go_wp2_with fail
      go_ret
      exact ⟨ret_int HV.out.symm, L1⟩
    · rw [hm] at HC
      rcases hkd : kindB kd with _ | _
      · have HV := hidP (radI_bad (radB_false (ms := ms) (ids := ids) (kd := kd) (fun h => by rw [hkd] at h; exact absurd h.2.2.1 (by simp))))
        rw [hkd] at HK
        go_enter Try.func11, Try.ntmps11
        go_wp2_with fail
        refine HC.out.mono ?_
        rintro e w1 ⟨rfl, L1⟩
        go_wp2_with fail
        refine (HK _).out.mono ?_
        rintro e w2 ⟨rfl, hw2⟩
        subst w2
        go_wp2_with fail
        go_ret
        exact ⟨ret_int HV.out.symm, L1⟩
      · rw [hkd] at HK
        have hn60 := marksB_len hm
        obtain ⟨ds, hds, hsv, hsl⟩ := MView.sview hv
        have hlen : ds.length = ms.length := by rw [← hds, smMarks_length]
        have HG : Hid (∀ w1, Below w.heap.size w w1 → Calls Try.prog 37 #[.slice ao ms.length cap] w1 fun e w' => ∃ g, e = .returned (.slice (some ⟨g, 0, none⟩) ms.length ms.length) ∧ Own w' g (ds.map (·.1)) ∧ Below w1.heap.size w1 w') := fun w1 L1 => by
          have h := gIds ao cap ds w1 (by omega) (hsv.next L1)
          rw [hlen] at h
          refine h.mono ?_
          rintro e w' ⟨g, rfl, -, o, L⟩
          exact ⟨g, rfl, o, L⟩
        have HA : Hid (∀ w2 g, Below w.heap.size w w2 → Own w2 g (ds.map (·.1)) → Calls Try.prog 40 #[.slice ai ids.length ci, .slice (some ⟨g, 0, none⟩) ms.length ms.length] w2 fun e w' => e = .returned (.bool (allB ids (ds.map (·.1)))) ∧ Below w2.heap.size w2 w') := fun w2 g L2 o => by
          have h := iAllIn ai (some ⟨g, 0, none⟩) ci ms.length ids (ds.map (·.1)) w2 (View.next hi L2) o.view hil (by simp; omega)
          rw [List.length_map, hlen] at h
          exact h
        rcases hall : allB ids (ds.map (·.1)) with _ | _
        · have HV := hidP (radI_bad (radB_false (ms := ms) (ids := ids) (kd := kd) (fun h => by rw [(all_found hds ids).2 h.2.2.2] at hall; cases hall)))
          rw [hall] at HA
          clear hv hi hsm hsv hsl hds hall hm hkd
          go_enter Try.func11, Try.ntmps11
          go_wp2_with fail
          refine HC.out.mono ?_
          rintro e w1 ⟨rfl, L1⟩
          have HL1 := hidP L1
          clear L1
          go_wp2_with fail
          refine (HK _).out.mono ?_
          rintro e w2 ⟨rfl, hw2⟩
          subst w2
          go_wp2_with fail
          refine (HG.out _ HL1.out).mono ?_
          rintro e w2 ⟨g, rfl, o, L2⟩
          have HL2 := hidP (chain HL1.out L2)
          have HO := hidP o
          clear L2 o
          go_wp2_with fail
          refine (HA.out _ g HL2.out HO.out).mono ?_
          rintro e w3 ⟨rfl, L3⟩
          have HL3 := hidP (chain HL2.out L3)
          clear L3
          go_wp2_with fail
          go_ret
          exact ⟨ret_int HV.out.symm, HL3.out⟩
        · have hf := (all_found hds ids).1 hall
          rw [hall] at HA
          have HV := hidP (named_rad hm hkd hf H0.out)
          obtain ⟨b, off, rfl, hb, hs⟩ := hsv.seg (by
            rw [hlen]
            have := namedC_ne hm hf H0.out
            rcases Nat.eq_zero_or_pos ms.length with h | h
            · exfalso; apply this; unfold namedC; rw [h]; rfl
            · exact h)
          have hnm : smMarks (namedD ds ids ds.length) = (namedC ms ids).map (mnth ms) := by
            have := named_map hds ids ds.length (Nat.le_refl _)
            rw [this, hlen]; rfl
          have HN : Hid (∀ w1, Below w.heap.size w w1 → Calls Try.prog 41 #[.slice (some ⟨b, off, none⟩) ms.length cap, .slice ai ids.length ci] w1 fun e w' => ∃ g c, e = .returned (.slice (some ⟨g, 0, none⟩) (namedC ms ids).length c) ∧ MView w' (some ⟨g, 0, none⟩) ((namedC ms ids).map (mnth ms)) ∧ (namedC ms ids).length ≤ c ∧ Below w1.heap.size w1 w') := fun w1 L1 => by
            have h := iNamed b off ai cap ci ds ids w1 (Nat.lt_of_lt_of_le hb L1.size) (hs.below hb L1) (View.next hi L1) (by omega) hil
            have hnl : (namedD ds ids ds.length).length = (namedC ms ids).length := by
              have := congrArg List.length hnm
              rwa [smMarks_length, List.length_map] at this
            rw [hlen] at h
            refine h.mono ?_
            rintro e w' ⟨g, c, rfl, hr, L⟩
            rw [← hlen] at hr ⊢
            rw [← hnm, ← hnl]
            refine ⟨g, c, rfl, hr.view (W := w1) (fun d hd => View.next (hsl d (List.mem_of_mem_take (List.mem_filter.1 hd).1)) L1) L, hr.cap, L⟩
          have HR : Hid (∀ w1 g c, Below w.heap.size w w1 → MView w1 (some ⟨g, 0, none⟩) ((namedC ms ids).map (mnth ms)) → (namedC ms ids).length ≤ c → Calls Try.prog 35 #[.slice (some ⟨g, 0, none⟩) (namedC ms ids).length c, .slice (some ⟨b, off, none⟩) ms.length cap, .int .i64 kd] w1 fun e w' => e = .returned (.int .i64 (radI ms ids kd)) ∧ Below w1.heap.size w1 w') := fun w1 g c L1 hvc hc => by
            have hcm : MSmall ((namedC ms ids).map (mnth ms)) := by
              have hlf : (namedC ms ids).length ≤ ms.length := by have := List.length_filter_le (fun i => hasB ids (mid ms i)) (List.range ms.length); rw [List.length_range] at this; exact this
              refine ⟨by rw [List.length_map]; omega, fun i => ?_⟩
              rcases Nat.lt_or_ge i (namedC ms ids).length with h | h
              · rw [mat_map h]; exact hsm.2 _
              · simp [mat, List.getD, h]
            have h := iAbout (some ⟨g, 0, none⟩) (some ⟨b, off, none⟩) c cap ((namedC ms ids).map (mnth ms)) ms kd w1 hvc (hv.next L1) (by rw [List.length_map]; exact List.length_pos_iff.2 (namedC_ne hm hf H0.out)) (by rw [List.length_map]; exact hc) hcm hsm
            rw [HV.out, List.length_map] at h
            exact h
          clear hv hi hsm hsl hds hall hm hkd hs hnm hf HV
          go_enter Try.func11, Try.ntmps11
          go_wp2_with fail
          refine HC.out.mono ?_
          rintro e w1 ⟨rfl, L1⟩
          have HL1 := hidP L1
          clear L1
          go_wp2_with fail
          refine (HK _).out.mono ?_
          rintro e w2 ⟨rfl, hw2⟩
          subst w2
          go_wp2_with fail
          refine (HG.out _ HL1.out).mono ?_
          rintro e w2 ⟨g, rfl, o, L2⟩
          have HL2 := hidP (chain HL1.out L2)
          have HO := hidP o
          clear L2 o
          go_wp2_with fail
          refine (HA.out _ g HL2.out HO.out).mono ?_
          rintro e w3 ⟨rfl, L3⟩
          have HL3 := hidP (chain HL2.out L3)
          clear L3 HL2 HO HA HG
          go_wp2_with fail
          refine (HN.out _ HL3.out).mono ?_
          rintro e w4 ⟨g4, c4, rfl, v4, hc4, L4⟩
          have HL4 := hidP (chain HL3.out L4)
          have HV4 := hidP v4
          clear L4 v4
          go_wp2_with fail
          refine (HR.out _ g4 c4 HL4.out HV4.out hc4).mono ?_
          rintro e w5 ⟨rfl, L5⟩
          have HL5 := hidP (chain HL4.out L5)
          clear L5
          go_wp2_with fail
          go_ret
          exact ⟨rfl, HL5.out⟩

set_option maxRecDepth 100000 in
set_option maxHeartbeats 1000000 in
theorem iChoice (ao : Option Addr) (cap : Nat) (ms : List Mk) (k kd : Int) (w : World) (hv : MView w ao ms) (hsm : MSmall ms) :
    Calls Try.prog 32 #[.slice ao ms.length cap, .int .i64 k, .int .i64 kd] w fun e w' => e = .returned (.bool (chosB ms k kd)) ∧ Below w.heap.size w w' := by
  have HC := hidP (iMarks ao cap ms w hv hsm)
  have HK := fun w => hidP (iKind kd w)
  have hn := hsm.1
  clear hv hsm
  by_cases h1 : k ≥ 1
  · by_cases h2 : k ≤ ms.length
    · rcases hm : marksB ms with _ | _
      · have HV := hidP (chosB_marks (k := k) (kd := kd) hm)
        rw [hm] at HC
        clear hm
        go_enter Try.func32, Try.ntmps32
        go_wp2_with fail
        refine HC.out.mono ?_
        rintro e w1 ⟨rfl, L1⟩
        go_wp2_with fail
        go_ret
        exact ⟨ret_bool HV.out.symm, L1⟩
      · rw [hm] at HC
        have HV : Hid (chosB ms k kd = kindB kd) := by show _ = _; rw [chosB, hm]; simp [h1, h2]
        clear hm
        go_enter Try.func32, Try.ntmps32
        go_wp2_with fail
        refine HC.out.mono ?_
        rintro e w1 ⟨rfl, L1⟩
        go_wp2_with fail
        refine (HK _).out.mono ?_
        rintro e w2 ⟨rfl, hw2⟩
        subst w2
        go_wp2_with fail
        go_ret
        exact ⟨ret_bool HV.out.symm, L1⟩
    · have HV := hidP (chosB_false (ms := ms) (k := k) (kd := kd) (fun h => by omega))
      go_enter Try.func32, Try.ntmps32
      go_wp2_with fail
      go_ret
      exact ⟨ret_bool HV.out.symm, Below.refl _ _⟩
  · have HV := hidP (chosB_false (ms := ms) (k := k) (kd := kd) (fun h => by omega))
    go_enter Try.func32, Try.ntmps32
    go_wp2_with fail
    go_ret
    exact ⟨ret_bool HV.out.symm, Below.refl _ _⟩

end Go.Proofs.Ytpcclaehcmnngaa
