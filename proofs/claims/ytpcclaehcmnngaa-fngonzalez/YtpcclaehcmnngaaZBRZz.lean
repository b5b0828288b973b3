/-
  The program's BestRadius.
-/
import Derived.Test.YtpcclaehcmnngaaZBstZz
import Derived.Test.YtpcclaehcmnngaaZChoZz
namespace Go.Proofs.Ytpcclaehcmnngaa
open Go Go.RowKit

set_option maxRecDepth 100000 in
set_option maxHeartbeats 1000000 in
theorem iBestR_no (ao : Option Addr) (cap : Nat) (ms : List Mk) (k kd : Int) (w : World) (hv : MView w ao ms) (hsm : MSmall ms) (hno : bradB ms k kd = false) :
    Calls Try.prog 9 #[.slice ao ms.length cap, .int .i64 k, .int .i64 kd] w fun e w' => e = .returned (.int .i64 (-1)) ∧ Below w.heap.size w w' := by
  have hn := hsm.1
  by_cases h8 : ms.length ≤ 8
  · have hq8 : ¬ ((ms.length : Int) > 8) := by omega
    have hc : chosB ms k kd = false := by simpa [bradB, h8] using hno
    have HC := hidP (iChoice ao cap ms k kd w hv hsm)
    rw [hc] at HC
    clear hv hsm hno hc h8
    go_enter Try.func9, Try.ntmps9
    go_wp2_with fail
    refine HC.out.mono ?_
    rintro e w1 ⟨rfl, L1⟩
    go_wp2_with fail
    go_ret
    exact ⟨rfl, L1⟩
  · have hq8 : ((ms.length : Int) > 8) := by omega
    clear hv hsm hno h8
    go_enter Try.func9, Try.ntmps9
    go_wp2_with fail
    go_ret
    exact ⟨rfl, Below.refl _ _⟩

theorem bstTo_yes {D : Nat → Nat → Int} {n k : Nat} {a : Int} {c : Nat} (h : (setC n c).length = k) : bstTo D n k a (c + 1) = min (bstTo D n k a c) (zRad D n (setC n c)) := by simp only [bstTo]; rw [if_pos h]
theorem bstTo_no {D : Nat → Nat → Int} {n k : Nat} {a : Int} {c : Nat} (h : ¬ (setC n c).length = k) : bstTo D n k a (c + 1) = bstTo D n k a c := by simp only [bstTo]; rw [if_neg h]
theorem shl_fits {n : Nat} (h : n ≤ 8) : IntKind.i64.wrap ((2 : Int) ^ n) = ((2 ^ n : Nat) : Int) := by
  have e : ((2 : Int) ^ n) = ((2 ^ n : Nat) : Int) := by simp
  have h1 : 2 ^ n ≤ 256 := Nat.pow_le_pow_right (by decide) h
  rw [e]
  generalize 2 ^ n = t at *
  exact IntWalk.i64_in _ ⟨by omega, by omega⟩
theorem two_pow_le {n : Nat} (h : n ≤ 8) : 2 ^ n ≤ 256 := Nat.pow_le_pow_right (by decide) h

set_option maxRecDepth 100000 in
set_option maxHeartbeats 2000000 in
theorem iBestR_in (b off cap : Nat) (ds : List Sm) (k : Nat) (kd : Int) (w : World) (hb : b < w.heap.size) (hs : SSeg w b off ds) (hl : SLies w ds) (hsm : MSmall (smMarks ds)) (hm : marksB (smMarks ds) = true) (h1 : 1 ≤ k) (hkn : k ≤ ds.length) (h8 : ds.length ≤ 8) (hkd : kindB kd = true) :
    Calls Try.prog 9 #[.slice (some ⟨b, off, none⟩) ds.length cap, .int .i64 k, .int .i64 kd] w fun e w' => e = .returned (.int .i64 (zBest (zD (smMarks ds) kd) ds.length k [] 0)) ∧ Below w.heap.size w w' := by
  obtain ⟨ms, hms⟩ : ∃ ms, smMarks ds = ms := ⟨_, rfl⟩
  have hlen : ds.length = ms.length := by rw [← hms, smMarks_length]
  have HV0 : Hid (MView w (some ⟨b, off, none⟩) ms) := by
    have h : MView w (some ⟨b, off, none⟩) (smMarks ds) := SView.mview (Or.inr ⟨b, off, rfl, hb, hs⟩) hl
    rw [hms] at h
    exact h
  rw [hms] at hm hsm ⊢
  have HC := hidP (iChoice (some ⟨b, off, none⟩) cap ms k kd w HV0.out hsm)
  rw [(chosB_iff ms k kd).2 ⟨hm, ⟨by omega, by omega⟩, hkd⟩, ← hlen] at HC
  have HD : Hid (∀ w1, Below w.heap.size w w1 → Calls Try.prog 33 #[.slice (some ⟨b, off, none⟩) ds.length cap, .int .i64 kd] w1 fun e w' => e = .returned (.int .i64 (diaV ms kd)) ∧ Below w1.heap.size w1 w') := fun w1 L1 => by
    have h := iDia (some ⟨b, off, none⟩) cap ms kd w1 (HV0.out.next L1) hsm
    rw [← hlen] at h
    exact h
  have HB := hidP (bstTo_best (D := zD ms kd) (zD_nn ms kd) (n := ds.length) (k := k) h1 hkn (a := diaV ms kd) (fun i c hi hc => dia_far hm hkd (by omega) (by omega)))
  have HBB : Hid (∀ c, -1 ≤ bstTo (zD ms kd) ds.length k (diaV ms kd) c ∧ bstTo (zD ms kd) ds.length k (diaV ms kd) c ≤ 16000000) := fun c => by
    rw [hlen]
    refine bstTo_bd ms kd k _ ?_ ?_ c
    · unfold diaV; split
      · omega
      · have := dia_le ms kd ms.length; omega
    · unfold diaV; split
      · omega
      · have := dia_le ms kd ms.length; omega
  have HAT : Hid (∀ (w1 : World) (x : Nat), Below w.heap.size w w1 → x < 256 → Calls Try.prog 34 #[.slice (some ⟨b, off, none⟩) ds.length cap, .int .i64 (x : Int)] w1 fun e w' => ∃ g c, e = .returned (.slice (some ⟨g, 0, none⟩) (setC ds.length x).length c) ∧ SRow w1.heap.size w' g c ((setC ds.length x).map (snth ds)) ∧ Below w1.heap.size w1 w') := fun w1 x L1 hx =>
    iAt b off cap ds x w1 (Nat.lt_of_lt_of_le hb L1.size) (hs.below hb L1) h8 hx
  have HRD : Hid (∀ (w1 w2 : World) (x g c : Nat), Below w.heap.size w w1 → Below w1.heap.size w1 w2 → (setC ds.length x).length = k → SRow w1.heap.size w2 g c ((setC ds.length x).map (snth ds)) → Calls Try.prog 35 #[.slice (some ⟨g, 0, none⟩) (setC ds.length x).length c, .slice (some ⟨b, off, none⟩) ds.length cap, .int .i64 kd] w2 fun e w' => e = .returned (.int .i64 (zRad (zD ms kd) ds.length (setC ds.length x))) ∧ Below w2.heap.size w2 w') := fun w1 w2 x g c L1 L2 hk hr => by
    have hmm : smMarks ((setC ds.length x).map (snth ds)) = (setC ds.length x).map (mnth ms) := by
      unfold smMarks
      rw [List.map_map]
      refine List.map_congr_left (fun c hc' => ?_)
      exact (sm_at hms (setC_lt c hc')).1
    have hvc := hr.view (W := w1) (fun d hd => by
      obtain ⟨c, hc', rfl⟩ := List.mem_map.1 hd
      exact View.next (hl _ (snth_mem (setC_lt c hc'))) L1) L2
    rw [hmm] at hvc
    have hcap := hr.cap
    rw [List.length_map] at hcap
    have hcm : MSmall ((setC ds.length x).map (mnth ms)) := by
      have := setC_len ds.length x
      refine ⟨by rw [List.length_map]; omega, fun i => ?_⟩
      rcases Nat.lt_or_ge i (setC ds.length x).length with h | h
      · rw [mat_map h]; exact hsm.2 _
      · simp [mat, List.getD, h]
    have hC0 : setC ds.length x ≠ [] := fun e => by rw [e] at hk; simp at hk; omega
    have h := iAbout (some ⟨g, 0, none⟩) (some ⟨b, off, none⟩) c cap ((setC ds.length x).map (mnth ms)) ms kd w2 hvc (HV0.out.next (chain L1 L2)) (by rw [List.length_map]; omega) (by rw [List.length_map]; exact hcap) hcm hsm
    rw [about_rad hm hkd (fun c hc' => by rw [← hlen]; exact setC_lt c hc') hC0, List.length_map, ← hlen] at h
    exact h
  have hrb : ∀ C, 0 ≤ zRad (zD ms kd) ds.length C := fun C => zRad_nn _ _ C
  have HRB := hidP hrb
  have hp8 := two_pow_le h8
  have hq8 : ¬ ((ds.length : Int) > 8) := by omega
  obtain ⟨T, hT⟩ : ∃ T, 2 ^ ds.length = T := ⟨_, rfl⟩
  rw [hT] at HB hp8
  have hsh2 : IntKind.i64.wrap (2 ^ ds.length) = (T : Int) := by rw [← hT]; exact shl_fits h8
  have hsh1 : IntKind.i64.wrap (1 * 2 ^ ds.length) = (T : Int) := by rw [Int.one_mul]; exact hsh2
  have hmin : min ds.length 64 = ds.length := by omega
  clear hs hl hsm hm hkd hT hrb hms hlen HV0
  rw [← HB.out]
  go_enter Try.func9, Try.ntmps9
  go_wp2_with fail
  refine HC.out.mono ?_
  rintro e w1 ⟨rfl, L1⟩
  have HL1 := hidP L1
  clear L1
  go_wp2_with fail
  refine (HD.out _ HL1.out).mono ?_
  rintro e w2 ⟨rfl, L2⟩
  have HL2 := hidP (chain HL1.out L2)
  clear L2 HL1 HD HC
  have H0 : Hid (bstTo (zD ms kd) ds.length k (diaV ms kd) 0 = diaV ms kd) := rfl
  go_wp2_with fail
  clear hsh1 hsh2 hmin
  go_loopw [7, 26] (fun v i wr => ∃ c : Nat, c ≤ T ∧ i = .int .i64 c ∧ v = .int .i64 (bstTo (zD ms kd) ds.length k (diaV ms kd) c) ∧ Below w.heap.size w wr) (fun _ i _ => T - (intOf i).toNat)
  case atStart => exact ⟨0, Nat.zero_le _, rfl, by rw [H0.out], HL2.out⟩
  case round =>
    obtain ⟨c, hc, rfl, rfl, L⟩ := hrel
    have HL := hidP L
    by_cases hlt : c < T
    · have HCA := hidP (HAT.out wr c L (by omega))
      have hbb := HBB.out c
      have HRR := hidP (fun w2 g cc L2 hk hr => HRD.out wr w2 c g cc HL.out L2 hk hr)
      have HYS := hidP (bstTo_yes (D := zD ms kd) (n := ds.length) (k := k) (a := diaV ms kd) (c := c))
      have HNO := hidP (bstTo_no (D := zD ms kd) (n := ds.length) (k := k) (a := diaV ms kd) (c := c))
      have hr0 := HRB.out (setC ds.length c)
      have hsl := setC_len ds.length c
      generalize bstTo (zD ms kd) ds.length k (diaV ms kd) c = v0 at *
      generalize zRad (zD ms kd) ds.length (setC ds.length c) = r at *
      clear L HAT HRD
      by_cases hk : (setC ds.length c).length = k
      · have hkb : (((setC ds.length c).length : Int) == (k : Int)) = true := by rw [hk]; simp
        have HE := hidP (HYS.out hk)
        have HK := hidP hk
        clear hk HNO HYS
        go_wp2_with fail
        refine HCA.out.mono ?_
        rintro e w3 ⟨g, cc, rfl, hrow, L3⟩
        have HCR := hidP (HRR.out w3 g cc L3 HK.out hrow)
        have HL3 := hidP (chain HL.out L3)
        clear L3 hrow HRR HCA
        go_wp2_with fail
        refine HCR.out.mono ?_
        rintro e w4 ⟨rfl, L4⟩
        have HL4 := hidP (chain HL3.out L4)
        clear L4 HCR
        go_wp2_with fail
        all_goals
          go_roundw
          case rel => exact ⟨c + 1, by omega, by go_num, by rw [HE.out]; congr 1; omega, HL4.out⟩
          case measure => simp [intOf]; omega
      · have hkb : (((setC ds.length c).length : Int) == (k : Int)) = false := by simp; omega
        have HE := hidP (HNO.out hk)
        clear hk HNO HYS HRR
        go_wp2_with fail
        refine HCA.out.mono ?_
        rintro e w3 ⟨g, cc, rfl, hrow, L3⟩
        have HL3 := hidP (chain HL.out L3)
        clear L3 hrow HCA
        go_wp2_with fail
        go_roundw
        case rel => exact ⟨c + 1, by omega, by go_num, by rw [HE.out], HL3.out⟩
        case measure => simp [intOf]; omega
    · obtain rfl : c = T := by omega
      clear L
      go_wp2_with fail
      go_ret
      exact ⟨rfl, HL.out⟩

/-- BestRadius. -/
theorem iBestR (ao : Option Addr) (cap : Nat) (ms : List Mk) (k kd : Int) (w : World) (hv : MView w ao ms) (hsm : MSmall ms) :
    Calls Try.prog 9 #[.slice ao ms.length cap, .int .i64 k, .int .i64 kd] w fun e w' => e = .returned (.int .i64 (bradI ms k kd)) ∧ Below w.heap.size w w' := by
  rcases h : bradB ms k kd with _ | _
  · rw [bradI_no h]
    exact iBestR_no ao cap ms k kd w hv hsm h
  · have hcb : chosB ms k kd = true ∧ ms.length ≤ 8 := by simpa [bradB] using h
    obtain ⟨hm, ⟨h1, h2⟩, hkd⟩ := (chosB_iff ms k kd).1 hcb.1
    obtain ⟨n, rfl⟩ : ∃ n : Nat, k = n := ⟨k.toNat, by omega⟩
    rw [bradI, if_pos h, Int.toNat_natCast]
    obtain ⟨ds, rfl, hsv, hsl⟩ := MView.sview hv
    have h8 := hcb.2
    rw [smMarks_length] at h2 h8 ⊢
    obtain ⟨b, off, rfl, hb, hs⟩ := hsv.seg (by omega)
    exact iBestR_in b off cap ds n kd w hb hs hsl hsm hm (by omega) (by omega) h8 hkd

end Go.Proofs.Ytpcclaehcmnngaa
