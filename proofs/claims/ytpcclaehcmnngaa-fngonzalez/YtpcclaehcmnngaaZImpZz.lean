/-
  The program's Radius and choiceOk.
  The program's outermost: of those not chosen the one that is farthest from all that are.
-/
import Derived.Test.YtpcclaehcmnngaaZLnkZz
import Derived.Test.YtpcclaehcmnngaaZSpBZz
import Derived.Test.YtpcclaehcmnngaaGIdsZz
import Derived.Deep.LoopGhost
import Derived.WalkMore
namespace Go.Proofs.Ytpcclaehcmnngaa
open Go Go.RowKit

set_option maxRecDepth 100000 in
set_option maxHeartbeats 1000000 in
theorem iRadius (ao ai : Option Addr) (cap ci : Nat) (ms : List Mk) (ids : List Int) (kd : Int) (w : World) (hv : MView w ao ms) (hi : View w ai ids) (hsm : MSmall ms) (hil : ids.length ≤ 1048576) :
    Calls Try.prog 11 #[.slice ao ms.length cap, .slice ai ids.length ci, .int .i64 kd] w fun e w' => e = .returned (.int .i64 (radI ms ids kd)) ∧ Below w.heap.size w w' := by
  have HC := hidP (iMarks ao cap ms w hv hsm)
  have HK := fun w => hidP (iKind kd w)
  by_cases h0 : ids.length = 0
  · have HV := hidP (radI_bad (radB_false (ms := ms) (ids := ids) (kd := kd) (fun h => absurd h0 h.2.1)))
    have hb0 : ((ids.length : Int) == 0) = true := by simp; simpa using h0
    clear h0
    go_enter Try.func11, Try.ntmps11
    go_wp2_with fail
    go_ret
    exact ⟨ret_int HV.out.symm, Below.refl _ _⟩
  · have hb0 : ((ids.length : Int) == 0) = false := by simp; simpa using h0
    have H0 := hidP h0
    clear h0
    rcases hm : marksB ms with _ | _
    · have HV := hidP (radI_bad (radB_false (ms := ms) (ids := ids) (kd := kd) (fun h => by rw [hm] at h; exact absurd h.1 (by simp))))
      rw [hm] at HC
      go_enter Try.func11, Try.ntmps11
      go_wp2_with fail
      refine HC.out.mono ?_
      rintro e w1 ⟨rfl, L1⟩
      go_wp2_with fail
      go_ret
      exact ⟨ret_int HV.out.symm, L1⟩
    · rw [hm] at HC
      rcases hkd : kindB kd with _ | _
      · have HV := hidP (radI_bad (radB_false (ms := ms) (ids := ids) (kd := kd) (fun h => by rw [hkd] at h; exact absurd h.2.2.1 (by simp))))
        rw [hkd] at HK
        go_enter Try.func11, Try.ntmps11
        go_wp2_with fail
        refine HC.out.mono ?_
        rintro e w1 ⟨rfl, L1⟩
        go_wp2_with fail
        refine (HK _).out.mono ?_
        rintro e w2 ⟨rfl, hw2⟩
        subst w2
        go_wp2_with fail
        go_ret
        exact ⟨ret_int HV.out.symm, L1⟩
      · rw [hkd] at HK
        have hn60 := marksB_len hm
        obtain ⟨ds, hds, hsv, hsl⟩ := MView.sview hv
        have hlen : ds.length = ms.length := by rw [← hds, smMarks_length]
        have HG : Hid (∀ w1, Below w.heap.size w w1 → Calls Try.prog 37 #[.slice ao ms.length cap] w1 fun e w' => ∃ g, e = .returned (.slice (some ⟨g, 0, none⟩) ms.length ms.length) ∧ Own w' g (ds.map (·.1)) ∧ Below w1.heap.size w1 w') := fun w1 L1 => by
          have h := gIds ao cap ds w1 (by omega) (hsv.next L1)
          rw [hlen] at h
          refine h.mono ?_
          rintro e w' ⟨g, rfl, -, o, L⟩
          exact ⟨g, rfl, o, L⟩
        have HA : Hid (∀ w2 g, Below w.heap.size w w2 → Own w2 g (ds.map (·.1)) → Calls Try.prog 40 #[.slice ai ids.length ci, .slice (some ⟨g, 0, none⟩) ms.length ms.length] w2 fun e w' => e = .returned (.bool (allB ids (ds.map (·.1)))) ∧ Below w2.heap.size w2 w') := fun w2 g L2 o => by
          have h := iAllIn ai (some ⟨g, 0, none⟩) ci ms.length ids (ds.map (·.1)) w2 (View.next hi L2) o.view hil (by simp; omega)
          rw [List.length_map, hlen] at h
          exact h
        rcases hall : allB ids (ds.map (·.1)) with _ | _
        · have HV := hidP (radI_bad (radB_false (ms := ms) (ids := ids) (kd := kd) (fun h => by rw [(all_found hds ids).2 h.2.2.2] at hall; cases hall)))
          rw [hall] at HA
          clear hv hi hsm hsv hsl hds hall hm hkd
          go_enter Try.func11, Try.ntmps11
          go_wp2_with fail
          refine HC.out.mono ?_
          rintro e w1 ⟨rfl, L1⟩
          have HL1 := hidP L1
          clear L1
          go_wp2_with fail
          refine (HK _).out.mono ?_
          rintro e w2 ⟨rfl, hw2⟩
          subst w2
          go_wp2_with fail
          refine (HG.out _ HL1.out).mono ?_
          rintro e w2 ⟨g, rfl, o, L2⟩
          have HL2 := hidP (chain HL1.out L2)
          have HO := hidP o
          clear L2 o
          go_wp2_with fail
          refine (HA.out _ g HL2.out HO.out).mono ?_
          rintro e w3 ⟨rfl, L3⟩
          have HL3 := hidP (chain HL2.out L3)
          clear L3
          go_wp2_with fail
          go_ret
          exact ⟨ret_int HV.out.symm, HL3.out⟩
        · have hf := (all_found hds ids).1 hall
          rw [hall] at HA
          have HV := hidP (named_rad hm hkd hf H0.out)
          obtain ⟨b, off, rfl, hb, hs⟩ := hsv.seg (by
            rw [hlen]
            have := namedC_ne hm hf H0.out
            rcases Nat.eq_zero_or_pos ms.length with h | h
            · exfalso; apply this; unfold namedC; rw [h]; rfl
            · exact h)
          have hnm : smMarks (namedD ds ids ds.length) = (namedC ms ids).map (mnth ms) := by
            have := named_map hds ids ds.length (Nat.le_refl _)
            rw [this, hlen]; rfl
          have HN : Hid (∀ w1, Below w.heap.size w w1 → Calls Try.prog 41 #[.slice (some ⟨b, off, none⟩) ms.length cap, .slice ai ids.length ci] w1 fun e w' => ∃ g c, e = .returned (.slice (some ⟨g, 0, none⟩) (namedC ms ids).length c) ∧ MView w' (some ⟨g, 0, none⟩) ((namedC ms ids).map (mnth ms)) ∧ (namedC ms ids).length ≤ c ∧ Below w1.heap.size w1 w') := fun w1 L1 => by
            have h := iNamed b off ai cap ci ds ids w1 (Nat.lt_of_lt_of_le hb L1.size) (hs.below hb L1) (View.next hi L1) (by omega) hil
            have hnl : (namedD ds ids ds.length).length = (namedC ms ids).length := by
              have := congrArg List.length hnm
              rwa [smMarks_length, List.length_map] at this
            rw [hlen] at h
            refine h.mono ?_
            rintro e w' ⟨g, c, rfl, hr, L⟩
            rw [← hlen] at hr ⊢
            rw [← hnm, ← hnl]
            refine ⟨g, c, rfl, hr.view (W := w1) (fun d hd => View.next (hsl d (List.mem_of_mem_take (List.mem_filter.1 hd).1)) L1) L, hr.cap, L⟩
          have HR : Hid (∀ w1 g c, Below w.heap.size w w1 → MView w1 (some ⟨g, 0, none⟩) ((namedC ms ids).map (mnth ms)) → (namedC ms ids).length ≤ c → Calls Try.prog 35 #[.slice (some ⟨g, 0, none⟩) (namedC ms ids).length c, .slice (some ⟨b, off, none⟩) ms.length cap, .int .i64 kd] w1 fun e w' => e = .returned (.int .i64 (radI ms ids kd)) ∧ Below w1.heap.size w1 w') := fun w1 g c L1 hvc hc => by
            have hcm : MSmall ((namedC ms ids).map (mnth ms)) := by
              have hlf : (namedC ms ids).length ≤ ms.length := by have := List.length_filter_le (fun i => hasB ids (mid ms i)) (List.range ms.length); rw [List.length_range] at this; exact this
              refine ⟨by rw [List.length_map]; omega, fun i => ?_⟩
              rcases Nat.lt_or_ge i (namedC ms ids).length with h | h
              · rw [mat_map h]; exact hsm.2 _
              · simp [mat, List.getD, h]
            have h := iAbout (some ⟨g, 0, none⟩) (some ⟨b, off, none⟩) c cap ((namedC ms ids).map (mnth ms)) ms kd w1 hvc (hv.next L1) (by rw [List.length_map]; exact List.length_pos_iff.2 (namedC_ne hm hf H0.out)) (by rw [List.length_map]; exact hc) hcm hsm
            rw [HV.out, List.length_map] at h
            exact h
          clear hv hi hsm hsl hds hall hm hkd hs hnm hf HV
          go_enter Try.func11, Try.ntmps11
          go_wp2_with fail
          refine HC.out.mono ?_
          rintro e w1 ⟨rfl, L1⟩
          have HL1 := hidP L1
          clear L1
          go_wp2_with fail
          refine (HK _).out.mono ?_
          rintro e w2 ⟨rfl, hw2⟩
          subst w2
          go_wp2_with fail
          refine (HG.out _ HL1.out).mono ?_
          rintro e w2 ⟨g, rfl, o, L2⟩
          have HL2 := hidP (chain HL1.out L2)
          have HO := hidP o
          clear L2 o
          go_wp2_with fail
          refine (HA.out _ g HL2.out HO.out).mono ?_
          rintro e w3 ⟨rfl, L3⟩
          have HL3 := hidP (chain HL2.out L3)
          clear L3 HL2 HO HA HG
          go_wp2_with fail
          refine (HN.out _ HL3.out).mono ?_
          rintro e w4 ⟨g4, c4, rfl, v4, hc4, L4⟩
          have HL4 := hidP (chain HL3.out L4)
          have HV4 := hidP v4
          clear L4 v4
          go_wp2_with fail
          refine (HR.out _ g4 c4 HL4.out HV4.out hc4).mono ?_
          rintro e w5 ⟨rfl, L5⟩
          have HL5 := hidP (chain HL4.out L5)
          clear L5
          go_wp2_with fail
          go_ret
          exact ⟨rfl, HL5.out⟩

set_option maxRecDepth 100000 in
set_option maxHeartbeats 1000000 in
theorem iChoice (ao : Option Addr) (cap : Nat) (ms : List Mk) (k kd : Int) (w : World) (hv : MView w ao ms) (hsm : MSmall ms) :
    Calls Try.prog 32 #[.slice ao ms.length cap, .int .i64 k, .int .i64 kd] w fun e w' => e = .returned (.bool (chosB ms k kd)) ∧ Below w.heap.size w w' := by
  have HC := hidP (iMarks ao cap ms w hv hsm)
  have HK := fun w => hidP (iKind kd w)
  have hn := hsm.1
  clear hv hsm
  by_cases h1 : k ≥ 1
  · by_cases h2 : k ≤ ms.length
    · rcases hm : marksB ms with _ | _
      · have HV := hidP (chosB_marks (k := k) (kd := kd) hm)
        rw [hm] at HC
        clear hm
        go_enter Try.func32, Try.ntmps32
        go_wp2_with fail
        refine HC.out.mono ?_
        rintro e w1 ⟨rfl, L1⟩
        go_wp2_with fail
        go_ret
        exact ⟨ret_bool HV.out.symm, L1⟩
      · rw [hm] at HC
        have HV : Hid (chosB ms k kd = kindB kd) := by show _ = _; rw [chosB, hm]; simp [h1, h2]
        clear hm
        go_enter Try.func32, Try.ntmps32
        go_wp2_with fail
        refine HC.out.mono ?_
        rintro e w1 ⟨rfl, L1⟩
        go_wp2_with fail
        refine (HK _).out.mono ?_
        rintro e w2 ⟨rfl, hw2⟩
        subst w2
        go_wp2_with fail
        go_ret
        exact ⟨ret_bool HV.out.symm, L1⟩
    · have HV := hidP (chosB_false (ms := ms) (k := k) (kd := kd) (fun h => by omega))
      go_enter Try.func32, Try.ntmps32
      go_wp2_with fail
      go_ret
      exact ⟨ret_bool HV.out.symm, Below.refl _ _⟩
  · have HV := hidP (chosB_false (ms := ms) (k := k) (kd := kd) (fun h => by omega))
    go_enter Try.func32, Try.ntmps32
    go_wp2_with fail
    go_ret
    exact ⟨ret_bool HV.out.symm, Below.refl _ _⟩

end Go.Proofs.Ytpcclaehcmnngaa
namespace Go.Proofs.Ytpcclaehcmnngaa
open Go Go.RowKit

def mostI (D : Nat → Nat → Int) (C : List Nat) (j : Nat) : Int := match zArg D C j with
  | none => -1
  | some b => zNear D b C
def fndV (ds : List Sm) (D : Nat → Nat → Int) (C : List Nat) (j : Nat) : Sm := match zArg D C j with
  | none => (0, none, 0, [])
  | some b => snth ds b
theorem outer_stay {D : Nat → Nat → Int} {C : List Nat} {j : Nat} (hnn : ∀ i c, 0 ≤ D i c) (h : j ∈ C ∨ ∃ c, c ∈ C ∧ D j c ≤ mostI D C j) : zArg D C (j + 1) = zArg D C j := by
  by_cases hj : j ∈ C
  · simp only [zArg, if_pos hj]
  · rcases h with h | ⟨c, hc, hle⟩
    · exact absurd h hj
    · simp only [zArg, if_neg hj]
      have h1 := zNear_le (hnn j) hc
      have h2 := zNear_pos (hnn j) (C := C) (fun e => by rw [e] at hc; simp at hc)
      rcases hz : zArg D C j with _ | b
      · simp only [mostI, hz] at hle; omega
      · simp only [mostI, hz] at hle
        simp only
        rw [if_neg (by omega)]
theorem outer_step {D : Nat → Nat → Int} {C : List Nat} {j : Nat} (hnn : ∀ i c, 0 ≤ D i c) (h0 : C ≠ []) (hj : ¬ j ∈ C) (h : ∀ c, c ∈ C → mostI D C j < D j c) : zArg D C (j + 1) = some j := by
  simp only [zArg, if_neg hj]
  rcases hz : zArg D C j with _ | b
  · rfl
  · obtain ⟨c, hc, e⟩ := zNear_at (hnn j) h0
    have := h c hc
    simp only [mostI, hz] at this
    simp only
    rw [if_pos (by omega)]
theorem outer_same {ds : List Sm} {D : Nat → Nat → Int} {C : List Nat} {j : Nat} (h : zArg D C (j + 1) = zArg D C j) : mostI D C (j + 1) = mostI D C j ∧ fndV ds D C (j + 1) = fndV ds D C j := by
  unfold mostI fndV
  rw [h]
  exact ⟨rfl, rfl⟩
theorem outer_new {ds : List Sm} {D : Nat → Nat → Int} {C : List Nat} {j : Nat} (h : zArg D C (j + 1) = some j) : mostI D C (j + 1) = zNear D j C ∧ fndV ds D C (j + 1) = snth ds j := by
  unfold mostI fndV
  rw [h]
  exact ⟨rfl, rfl⟩
theorem cell_far (w : World) (q b i : Nat) (v u : Value) (h : q ≠ b) : ((w.setCell ⟨q, 0, none⟩ v).setCell ⟨q, 1, none⟩ u).cell? ⟨b, i, none⟩ = w.cell? ⟨b, i, none⟩ := by
  rw [World.cell?_setCell_other _ _ _ _ (by intro e; exact h (by injection e)), World.cell?_setCell_other _ _ _ _ (by intro e; exact h (by injection e))]
theorem mostI_bd (ms : List Mk) (kd : Int) (C : List Nat) (h0 : C ≠ []) (j : Nat) : -1 ≤ mostI (zD ms kd) C j ∧ mostI (zD ms kd) C j ≤ 16000000 := by
  unfold mostI
  split
  · omega
  · rename_i b _
    obtain ⟨c, hc, e⟩ := zNear_at (D := zD ms kd) (i := b) (fun c => zD_nn ms kd b c) h0
    have h1 := zD_nn ms kd b c
    have h2 := zD_le ms kd b c
    omega

set_option maxRecDepth 100000 in
set_option maxHeartbeats 4000000 in
theorem iOuter (b off cap gc cc : Nat) (ds : List Sm) (C : List Nat) (kd : Int) (w : World) (hb : b < w.heap.size) (hs : SSeg w b off ds) (hl : SLies w ds) (hm : marksB (smMarks ds) = true) (hkd : kindB kd = true)
    (hgc : gc < w.heap.size) (hc : SSeg w gc 0 (C.map (snth ds))) (hC : ∀ c ∈ C, c < ds.length) (h0 : C ≠ []) (hcap : C.length ≤ cc) (hcl : C.length ≤ 60) (hsm : MSmall (smMarks ds)) (bb : Nat) (hbb : zArg (zD (smMarks ds) kd) C ds.length = some bb) :
    Calls Try.prog 36 #[.slice (some ⟨b, off, none⟩) ds.length cap, .slice (some ⟨gc, 0, none⟩) C.length cc, .int .i64 kd] w fun e w' =>
      e = .returned (.agg #[.int .i64 (snth ds bb).1, .slice (snth ds bb).2.1 (snth ds bb).2.2.2.length (snth ds bb).2.2.1]) ∧ Below w.heap.size w w' := by
  obtain ⟨ms, hms⟩ : ∃ ms, ms = smMarks ds := ⟨_, rfl⟩
  rw [← hms] at hm hbb hsm
  have hlen : ds.length = ms.length := by rw [hms, smMarks_length]
  have hn60 : ds.length ≤ 60 := by rw [hlen]; exact marksB_len hm
  obtain ⟨D, hD⟩ : ∃ D, D = zD ms kd := ⟨_, rfl⟩
  rw [← hD] at hbb
  have HNN : Hid (∀ i c, 0 ≤ D i c) := by show ∀ i c, 0 ≤ D i c; rw [hD]; exact zD_nn ms kd
  have HMB : Hid (∀ j, -1 ≤ mostI D C j ∧ mostI D C j ≤ 16000000) := by show ∀ j, _; rw [hD]; exact mostI_bd ms kd C h0
  have HDB : Hid (∀ i c, i < ds.length → c < ds.length → betV (snth ds c).2.2.2 (snth ds i).2.2.2 kd = D i c ∧ ((snth ds c).1 = (snth ds i).1 ↔ c = i)) := fun i c hi hc' => by
    have e1 := (sm_at hms.symm hi)
    have e2 := (sm_at hms.symm hc')
    refine ⟨?_, ?_⟩
    · rw [hD, zD_comm, zD_in hm kd hkd (by omega) (by omega)]
      have a1 : (snth ds i).2.2.2 = mat ms i := by rw [← mnth_2, ← e1.1]; rfl
      have a2 : (snth ds c).2.2.2 = mat ms c := by rw [← mnth_2, ← e2.1]; rfl
      rw [a1, a2]
    · rw [e1.2, e2.2]
      exact ⟨fun e => zmid_inj hm (by omega) (by omega) e, fun e => by rw [e]⟩
  have HSH : Hid (∀ i, i < ds.length → (snth ds i).2.2.2.length ≤ 1048576) := fun i hi => by
    have e1 := (sm_at hms.symm hi)
    have a1 : (snth ds i).2.2.2 = mat ms i := by rw [← mnth_2, ← e1.1]; rfl
    rw [a1]; exact hsm.2 i
  have HGAP : Hid (∀ W i ap cp, Below w.heap.size w W → i < ds.length → ap = (snth ds i).2.1 → cp = (snth ds i).2.2.1 → Calls Try.prog 57 #[.slice (some ⟨gc, 0, none⟩) C.length cc, .agg #[.int .i64 (snth ds i).1, .slice ap (snth ds i).2.2.2.length cp], .int .i64 kd] W fun e w' => e = .returned (.int .i64 (zNear D i C)) ∧ Below W.heap.size W w') := fun W i ap cp LW hi e1 e2 => by
    have hmm : smMarks (C.map (snth ds)) = C.map (mnth ms) := by
      unfold smMarks
      rw [List.map_map]
      refine List.map_congr_left (fun c hc' => ?_)
      exact (sm_at hms.symm (hC c hc')).1
    have hvc : MView W (some ⟨gc, 0, none⟩) (C.map (mnth ms)) := by
      rw [← hmm]
      refine SView.mview (Or.inr ⟨gc, 0, rfl, Nat.lt_of_lt_of_le hgc LW.size, hc.below hgc LW⟩) (fun d hd => ?_)
      obtain ⟨c, hc', rfl⟩ := List.mem_map.1 hd
      exact View.next (hl _ (snth_mem (hC c hc'))) LW
    have e3 := sm_at hms.symm hi
    have a1 : (snth ds i).2.2.2 = mat ms i := by rw [← mnth_2, ← e3.1]; rfl
    have hcm : MSmall (C.map (mnth ms)) := by
      refine ⟨by rw [List.length_map]; omega, fun i => ?_⟩
      rcases Nat.lt_or_ge i C.length with h | h
      · rw [mat_map h]; exact hsm.2 _
      · simp [mat, List.getD, h]
    have h := iGap (some ⟨gc, 0, none⟩) ap cc cp (C.map (mnth ms)) (smMark (snth ds i)) kd W hvc (by subst e1; exact View.next (hl _ (snth_mem hi)) LW) (by rw [List.length_map]; exact List.length_pos_iff.2 h0) (by rw [List.length_map]; exact hcap) hcm (HSH.out i hi)
    rw [List.length_map] at h
    rw [show gapV kd (C.map (mnth ms)) (smMark (snth ds i)).2 = zNear D i C by rw [show (smMark (snth ds i)).2 = mat ms i from a1, hD]; exact gapV_near hm hkd (fun c hc' => by rw [← hlen]; exact hC c hc') h0 (by omega)] at h
    exact h
  have HS := hidP hs
  have HC := hidP hc
  have HLS := hidP hl
  have HCC := hidP hC
  have H0 := hidP h0
  have HBB := hidP hbb
  clear hs hc hl hm hsm hbb hD hms hlen hkd
  obtain ⟨W0, hW0⟩ : ∃ W0, W0 = (w.alloc (.cells #[.int .i64 0, .slice none 0 0] 55)).alloc (.cells #[.int .i64 0, .slice none 0 0] 55) := ⟨_, rfl⟩
  have L0 : Below w.heap.size w W0 := by rw [hW0]; exact ((Below.refl _ _).alloc (Nat.le_refl _) _).alloc (by simp) _
  have f0 : W0.heap[w.heap.size + 1]? = some (.cells #[.int .i64 0, .slice none 0 0] 55) := by
    rw [hW0]; have := heap_alloc_new (w.alloc (.cells #[.int .i64 0, .slice none 0 0] 55)) (.cells #[.int .i64 0, .slice none 0 0] 55); simpa using this
  have f1 : W0.heap[w.heap.size]? = some (.cells #[.int .i64 0, .slice none 0 0] 55) := by rw [hW0, Below.heap_alloc _ _ _ (by simp)]; exact heap_alloc_new w _
  have HL0 := hidP L0
  have HF0 := hidP (And.intro f0 f1)
  clear L0 f0 f1
  go_enter Try.func36, Try.ntmps36
  go_wp2_with fail
  go_step3
  go_wp2_with fail
  go_step3
  go_wp2_with fail
  rw [← hW0]
  clear hW0
  go_loopg [8, 16] ds.length (fun g v i wx => ∃ j : Nat, j + g = ds.length ∧ i = .int .i64 j ∧ v = .int .i64 (mostI D C j) ∧ wx.heap[w.heap.size + 1]? = some (.cells #[.int .i64 (fndV ds D C j).1, .slice (fndV ds D C j).2.1 (fndV ds D C j).2.2.2.length (fndV ds D C j).2.2.1] 55) ∧ wx.heap[w.heap.size]? = some (.cells #[.int .i64 0, .slice none 0 0] 55) ∧ Below w.heap.size w wx)
  case atStart => exact ⟨0, by omega, rfl, rfl, HF0.out.1, HF0.out.2, HL0.out⟩
  case round =>
    obtain ⟨j, hjg, rfl, rfl, hf, hz, L⟩ := hrel
    cases gk with
    | zero =>
      obtain rfl : j = ds.length := by omega
      have e1 : fndV ds D C ds.length = snth ds bb := by simp only [fndV, HBB.out]
      rw [e1] at hf
      obtain ⟨d, hd⟩ : ∃ d, d = snth ds bb := ⟨_, rfl⟩
      have HDD := hidP hd
      rw [← hd] at hf
      clear hd
      have x0 : wr.cell? ⟨w.heap.size + 1, 0, none⟩ = some (.int .i64 d.1) := by simp [World.cell?, hf]
      have x1 : wr.cell? ⟨w.heap.size + 1, 1, none⟩ = some (.slice d.2.1 d.2.2.2.length d.2.2.1) := by simp [World.cell?, hf]
      have y0 : wr.cell? ⟨w.heap.size, 0, none⟩ = some (.int .i64 0) := by simp [World.cell?, hz]
      have y1 : wr.cell? ⟨w.heap.size, 1, none⟩ = some (.slice none 0 0) := by simp [World.cell?, hz]
      have g0 : wr.frozen? ⟨w.heap.size, 0, none⟩ = false := by simp [World.frozen?, hz]
      have g1 : wr.frozen? ⟨w.heap.size, 1, none⟩ = false := by simp [World.frozen?, hz]
      have HL := hidP L
      clear hf hz L e1
      go_wp2_with fail
      try rw [Exit.noGoto_ret]
      refine bodyPost_ret (v := .agg #[.int .i64 d.1, .slice d.2.1 d.2.2.2.length d.2.2.1]) (by simp [results, Try.results36, go_sem, y0, y1]) rfl ?_
      exact ⟨by rw [HDD.out], (HL.out.setCell (p := ⟨w.heap.size, 0, none⟩) (Nat.le_refl _) _).setCell (p := ⟨w.heap.size, 1, none⟩) (Nat.le_refl _) _⟩
    | succ g =>
      have hjl : j < ds.length := by omega
      obtain ⟨d0, d1⟩ := HS.out j hjl
      have z0 := (L.cell (p := ⟨b, off + j * 2, none⟩) hb).trans d0
      have z1 := (L.cell (p := ⟨b, off + j * 2 + 1, none⟩) hb).trans d1
      have hj0 : (0 : Int) ≤ (j : Int) := Int.natCast_nonneg _
      have hj1 : (j : Int) < (ds.length : Int) := by omega
      have hmb := HMB.out j
      have hzz := L.size
      have hfl : w.heap.size + 1 < wr.heap.size := (Array.getElem?_eq_some_iff.1 hf).1
      have hvj := View.next (HLS.out _ (snth_mem hjl)) L
      have hsj := HSH.out j hjl
      have HGJ := hidP (fun W LW => HGAP.out W j _ _ LW hjl rfl rfl)
      have HDJ := hidP (fun c hc' => HDB.out j c hjl hc')
      obtain ⟨m, hm⟩ : ∃ m, m = mostI D C j := ⟨_, rfl⟩
      have HMJ := hidP hm
      rw [← hm] at hmb ⊢
      clear hm
      obtain ⟨dj, hdj⟩ : ∃ dj, dj = snth ds j := ⟨_, rfl⟩
      have HDE := hidP hdj
      rw [← hdj] at z0 z1 hvj hsj HGJ HDJ
      clear hdj
      obtain ⟨W, hW⟩ : ∃ W, W = wr.alloc (.cells #[.int .i64 dj.1, .slice dj.2.1 dj.2.2.2.length dj.2.2.1] 55) := ⟨_, rfl⟩
      have LW : Below wr.heap.size wr W := by rw [hW]; exact (Below.refl _ _).alloc (Nat.le_refl _) _
      have q0 : W.cell? ⟨wr.heap.size, 0, none⟩ = some (.int .i64 dj.1) := by rw [hW]; go_simp
      have q1 : W.cell? ⟨wr.heap.size, 1, none⟩ = some (.slice dj.2.1 dj.2.2.2.length dj.2.2.1) := by rw [hW]; go_simp
      have hzW : wr.heap.size < W.heap.size := by rw [hW]; simp
      have HFW := hidP ((LW.block (w.heap.size + 1) hfl).trans hf)
      have HZW := hidP ((LW.block w.heap.size (by omega)).trans hz)
      have HLW := hidP (chain L LW)
      have HVW := hidP (View.next hvj LW)
      have hcp : (0 : Nat) ≤ C.length := Nat.zero_le _
      clear hf hz L d0 d1 hvj LW
      go_upto_region 5 with fail
      rw [← hW]
      clear hW z0 z1
      obtain ⟨qm, hqm⟩ : ∃ qm, qm = wr.heap.size := ⟨_, rfl⟩
      rw [← hqm] at q0 q1 hzW hfl ⊢
      clear hqm
      go_wp2_with fail
      go_loopg [22] C.length (fun g2 i wx => ∃ k : Nat, k + g2 = C.length ∧ i = .int .i64 k ∧ Hid (∀ c, c < k → (snth ds (C.getD c 0)).1 ≠ dj.1 ∧ ¬ betV (snth ds (C.getD c 0)).2.2.2 dj.2.2.2 kd ≤ m) ∧ Below W.heap.size W wx)
      case atStart => exact ⟨0, by omega, rfl, fun c hc' => by omega, Below.refl _ _⟩
      case round =>
        obtain ⟨k, hkg, rfl, HA, L⟩ := hrel
        have p0 := (L.cell (p := ⟨qm, 0, none⟩) hzW).trans q0
        have p1 := (L.cell (p := ⟨qm, 1, none⟩) hzW).trans q1
        have HL := hidP L
        have hzL := L.size
        cases gk with
        | zero =>
          obtain rfl : k = C.length := by omega
          have hjn : ¬ j ∈ C := fun hin => by
            obtain ⟨c, hc', e⟩ := List.getElem_of_mem hin
            have h1 := (HA.out c hc').1
            have e2 : C.getD c 0 = j := by simp [List.getD, hc', e]
            rw [e2, ← HDE.out] at h1
            exact h1 rfl
          have HST : Hid (mostI D C (j + 1) = zNear D j C ∧ fndV ds D C (j + 1) = dj) := by
            have h := outer_new (ds := ds) (outer_step (D := D) (C := C) (j := j) HNN.out H0.out hjn (fun c hc' => by
              obtain ⟨i, hi, e⟩ := List.getElem_of_mem hc'
              have e2 : C.getD i 0 = c := by simp [List.getD, hi, e]
              have h1 := (HA.out i hi).2
              rw [e2, (HDJ.out c (HCC.out c hc')).1] at h1
              rw [← HMJ.out]
              omega))
            rw [← HDE.out] at h
            exact h
          have hLL := chain HLW.out L
          have hfw := (L.block (w.heap.size + 1) (by omega)).trans HFW.out
          have hzw := (L.block w.heap.size (by omega)).trans HZW.out
          have HGC := hidP (HGJ.out wr.drew hLL.drew)
          generalize fndV ds D C j = fd at *
          have CC : Hid (∀ w2, Below wr.heap.size wr w2 → (w2.cell? ⟨w.heap.size + 1, 0, none⟩ = some (.int .i64 fd.1) ∧ w2.cell? ⟨w.heap.size + 1, 1, none⟩ = some (.slice fd.2.1 fd.2.2.2.length fd.2.2.1)) ∧ (w2.frozen? ⟨w.heap.size + 1, 0, none⟩ = false ∧ w2.frozen? ⟨w.heap.size + 1, 1, none⟩ = false)) := fun w2 L2 => by
            have h := (L2.block (w.heap.size + 1) (by omega)).trans hfw
            exact ⟨⟨by simp [World.cell?, h], by simp [World.cell?, h]⟩, by simp [World.frozen?, h], by simp [World.frozen?, h]⟩
          have HND : Hid (∀ w2, Below wr.heap.size wr w2 → (∃ j' : Nat, j' + g = ds.length ∧ (.int .i64 ((j + 1 : Nat) : Int) : Value) = .int .i64 (j' : Int) ∧ (.int .i64 (zNear D j C) : Value) = .int .i64 (mostI D C j') ∧
              ((w2.setCell ⟨w.heap.size + 1, 0, none⟩ (.int .i64 dj.1)).setCell ⟨w.heap.size + 1, 1, none⟩ (.slice dj.2.1 dj.2.2.2.length dj.2.2.1)).heap[w.heap.size + 1]? = some (.cells #[.int .i64 (fndV ds D C j').1, .slice (fndV ds D C j').2.1 (fndV ds D C j').2.2.2.length (fndV ds D C j').2.2.1] 55) ∧
              ((w2.setCell ⟨w.heap.size + 1, 0, none⟩ (.int .i64 dj.1)).setCell ⟨w.heap.size + 1, 1, none⟩ (.slice dj.2.1 dj.2.2.2.length dj.2.2.1)).heap[w.heap.size]? = some (.cells #[.int .i64 0, .slice none 0 0] 55) ∧
              Below w.heap.size w ((w2.setCell ⟨w.heap.size + 1, 0, none⟩ (.int .i64 dj.1)).setCell ⟨w.heap.size + 1, 1, none⟩ (.slice dj.2.1 dj.2.2.2.length dj.2.2.1)))) := fun w2 L2 => by
            have h := (L2.block (w.heap.size + 1) (by omega)).trans hfw
            have h' := (L2.block w.heap.size (by omega)).trans hzw
            refine ⟨j + 1, by omega, rfl, by rw [HST.out.1], ?_, ?_, ?_⟩
            · rw [HST.out.2]
              rw [heap_setCell_same _ _ _ _ _ _ (heap_setCell_same w2 _ _ _ _ _ h)]
              simp
            · rw [Below.heap_setCell _ _ _ _ (by simp), Below.heap_setCell _ _ _ _ (by simp)]
              exact h'
            · exact ((chain hLL L2).setCell (p := ⟨w.heap.size + 1, 0, none⟩) (by simp) _).setCell (p := ⟨w.heap.size + 1, 1, none⟩) (by simp) _
          have hbdn : -1 ≤ zNear D j C ∧ zNear D j C ≤ 16000000 := by rw [← HST.out.1]; exact HMB.out (j + 1)
          generalize zNear D j C = y at *
          have hqw : qm < wr.heap.size := by omega
          have hqf : w.heap.size + 1 ≠ qm := by omega
          clear hjn hLL hfw hzw L
          go_wp2_with fail
          go_region_held3 (fun w' => w'.cell? ⟨qm, 0, none⟩ = some (.int .i64 dj.1) ∧ w'.cell? ⟨qm, 1, none⟩ = some (.slice dj.2.1 dj.2.2.2.length dj.2.2.1))
            (first
              | go_keep
              | (refine ⟨(cell_far w2 _ qm 0 _ _ hqf).trans ((L3.cell (p := ⟨qm, 0, none⟩) hqw).trans p0), (cell_far w2 _ qm 1 _ _ hqf).trans ((L3.cell (p := ⟨qm, 1, none⟩) hqw).trans p1)⟩)
              | (refine ⟨(L3.cell (p := ⟨qm, 0, none⟩) hqw).trans p0, (L3.cell (p := ⟨qm, 1, none⟩) hqw).trans p1⟩))
            (first
              | (go_at_call 57; refine HGC.out.mono ?_; rintro e w2 ⟨rfl, L3⟩; obtain ⟨⟨k0, k1⟩, k2, k3⟩ := CC.out w2 ((Below.refl _ _).drew.trans L3)))
          all_goals
            have HN := hidP (HND.out w2 ((Below.refl _ _).drew.trans L3))
            clear L3 k0 k1 k2 k3
            go_wp2_with fail
            go_roundg g
            case measure => omega
            case rel =>
              obtain ⟨j', h1, h2, h3, h4, h5, h6⟩ := HN.out
              exact ⟨j', h1, by rw [← h2]; go_num, h3, h4, h5, h6⟩
        | succ g2 =>
          have hkl : k < C.length := by omega
          have hmem : C.getD k 0 ∈ C := by
            have e : C.getD k 0 = C[k] := by simp [List.getD, hkl]
            rw [e]; exact List.getElem_mem hkl
          have hcl2 := HCC.out _ hmem
          have esn : snth (C.map (snth ds)) k = snth ds (C.getD k 0) := by simp [snth, List.getD, hkl]
          obtain ⟨c0, c1⟩ := HC.out k (by rw [List.length_map]; exact hkl)
          rw [esn] at c0 c1
          have hLL := chain HLW.out L
          have y0 := (hLL.cell (p := ⟨gc, 0 + k * 2, none⟩) hgc).trans c0
          have y1 := (hLL.cell (p := ⟨gc, 0 + k * 2 + 1, none⟩) hgc).trans c1
          rw [Nat.zero_add] at y0 y1
          obtain ⟨eD, eI⟩ := HDJ.out _ hcl2
          have hvc := View.next (HLS.out _ (snth_mem hcl2)) hLL
          have hvm := View.next HVW.out L
          have hsc := HSH.out _ hcl2
          obtain ⟨dc, hdc⟩ : ∃ dc, dc = snth ds (C.getD k 0) := ⟨_, rfl⟩
          have HDC := hidP hdc
          rw [← hdc] at y0 y1 eD eI hvc hsc
          obtain ⟨V, hV⟩ : ∃ V, V = wr.alloc (.cells #[.int .i64 dc.1, .slice dc.2.1 dc.2.2.2.length dc.2.2.1] 55) := ⟨_, rfl⟩
          have LV : Below wr.heap.size wr V := by rw [hV]; exact (Below.refl _ _).alloc (Nat.le_refl _) _
          have HCB := hidP (iBet dc.2.1 dj.2.1 dc.2.2.1 dj.2.2.1 dc.2.2.2 dj.2.2.2 kd V (View.next hvc LV) (View.next hvm LV) hsc hsj)
          have v0 : V.cell? ⟨wr.heap.size, 0, none⟩ = some (.int .i64 dc.1) := by rw [hV]; go_simp
          have v1 : V.cell? ⟨wr.heap.size, 1, none⟩ = some (.slice dc.2.1 dc.2.2.2.length dc.2.2.1) := by rw [hV]; go_simp
          have u0 := (LV.cell (p := ⟨qm, 0, none⟩) (by simp; omega)).trans p0
          have u1 := (LV.cell (p := ⟨qm, 1, none⟩) (by simp; omega)).trans p1
          have HLV := hidP (chain L LV)
          have HED := hidP eD
          have HEI := hidP eI
          have HMEM := hidP hmem
          have hk0 : (0 : Int) ≤ (k : Int) := Int.natCast_nonneg _
          have hk1 : (k : Int) < (C.length : Int) := by omega
          clear hdc esn c0 c1 hLL hvc hvm LV L p0 p1 eD eI hmem HL
          go_upto_region 8 with fail
          rw [← hV]
          clear hV y0 y1
          have HOS : Hid (∀ w4, Below W.heap.size W w4 → (mostI D C (j + 1) = m ∧ fndV ds D C (j + 1) = fndV ds D C j) → (∃ j' : Nat, j' + g = ds.length ∧ (.int .i64 ((j + 1 : Nat) : Int) : Value) = .int .i64 (j' : Int) ∧ (.int .i64 m : Value) = .int .i64 (mostI D C j') ∧ w4.heap[w.heap.size + 1]? = some (.cells #[.int .i64 (fndV ds D C j').1, .slice (fndV ds D C j').2.1 (fndV ds D C j').2.2.2.length (fndV ds D C j').2.2.1] 55) ∧ w4.heap[w.heap.size]? = some (.cells #[.int .i64 0, .slice none 0 0] 55) ∧ Below w.heap.size w w4)) := fun w4 L4 e => by
            refine ⟨j + 1, by omega, rfl, by rw [e.1], ?_, ?_, chain HLW.out L4⟩
            · rw [e.2]; exact (L4.block (w.heap.size + 1) (by omega)).trans HFW.out
            · exact (L4.block w.heap.size (by omega)).trans HZW.out
          by_cases hid : dc.1 = dj.1
          · have hidb : (dc.1 == dj.1) = true := by simp [hid]
            have HST : Hid (mostI D C (j + 1) = m ∧ fndV ds D C (j + 1) = fndV ds D C j) := by
              have hjC : j ∈ C := by
                have e := (HEI.out).1 hid
                have h := HMEM.out
                rwa [e] at h
              have h := outer_same (ds := ds) (outer_stay (D := D) HNN.out (Or.inl hjC))
              rw [← HMJ.out] at h
              exact h
            clear hid
            go_wp2_with fail
            go_roundg g
            case measure => omega
            case rel =>
              obtain ⟨j', h1, h2, h3, h4, h5, h6⟩ := HOS.out V HLV.out HST.out
              exact ⟨j', h1, by rw [← h2]; go_num, h3, h4, h5, h6⟩
          · have hidb : (dc.1 == dj.1) = false := by simp [hid]
            have HID := hidP hid
            clear hid
            have hbd := betV_le dc.2.2.2 dj.2.2.2 kd
            obtain ⟨y, hy⟩ : ∃ y, y = betV dc.2.2.2 dj.2.2.2 kd := ⟨_, rfl⟩
            have HY := hidP hy
            rw [← hy] at hbd HCB
            clear hy
            by_cases hle : y ≤ m
            · have HST : Hid (mostI D C (j + 1) = m ∧ fndV ds D C (j + 1) = fndV ds D C j) := by
                have h := outer_same (ds := ds) (outer_stay (D := D) (C := C) (j := j) HNN.out (Or.inr ⟨_, HMEM.out, by rw [← HED.out, ← HMJ.out, ← HY.out]; exact hle⟩))
                rw [← HMJ.out] at h
                exact h
              go_wp2_with fail
              refine HCB.out.mono ?_
              rintro e w4 ⟨rfl, L4⟩
              have HL4 := hidP (chain HLV.out L4)
              clear L4
              go_wp2_with fail
              go_roundg g
              case measure => omega
              case rel =>
                obtain ⟨j', h1, h2, h3, h4, h5, h6⟩ := HOS.out w4 HL4.out HST.out
                exact ⟨j', h1, by rw [← h2]; go_num, h3, h4, h5, h6⟩
            · have HLE := hidP hle
              go_wp2_with fail
              refine HCB.out.mono ?_
              rintro e w4 ⟨rfl, L4⟩
              have HL4 := hidP (chain HLV.out L4)
              clear L4
              go_wp2_with fail
              go_roundg g2
              case measure => omega
              case rel =>
                refine ⟨k + 1, by omega, by go_num, fun c hc' => ?_, HL4.out⟩
                rcases Nat.lt_or_ge c k with h | h
                · exact HA.out c h
                · rw [show c = k by omega, ← HDC.out, ← HY.out]
                  exact ⟨HID.out, HLE.out⟩

end Go.Proofs.Ytpcclaehcmnngaa
