/-
  The program's ballsLead, Spared and Closest.
-/
import Derived.Test.YthddhblmnfjciaaVSparZz
import Derived.Test.YthddhblmnfjciaaVHalvIZz
import Derived.Test.YthddhblmnfjciaaMathZz
namespace Go.Proofs.Ythddhblmnfjciaa
open Go Go.RowKit

theorem knotMs_sole {ks : List Kn} (h : marksB (knotMs ks) = true) : Sole (ks.map (·.1)) := (marks_sole h).sub fun _ ha => (sortBy_perm idlt _).mem_iff.2 ha

theorem iMarksOf (ao : Option Addr) (cap : Nat) (ks : List Kn) (w : World) (hv : KView w ao ks) (hsm : KSmall ks) (hm : marksB (knotMs ks) = true) :
    Calls Try.prog 91 #[.slice ao ks.length cap] w fun e w' => ∃ g c, e = .returned (.slice (some ⟨g, 0, none⟩) ks.length c) ∧ MView w' (some ⟨g, 0, none⟩) (knotMs ks) ∧ Below w.heap.size w w' := by
  rcases Nat.eq_zero_or_pos ks.length with h0 | h0
  · have e : ks = [] := List.length_eq_zero_iff.1 h0
    subst e
    exact (iMarksInV0 ao cap w).mono fun e w' ⟨g, he, L⟩ => ⟨g, 0, he, Or.inl rfl, L⟩
  · obtain ⟨ds, hds, hs5, hsl⟩ := hv.sview
    have hdl : ds.length = ks.length := by rw [← smMarks_length, hds, List.length_map]
    obtain ⟨b, off, e, hb, hseg⟩ : ∃ b off, ao = some ⟨b, off, none⟩ ∧ b < w.heap.size ∧ KSeg w b off ks := by
      rcases hv with h | h
      · rw [h] at h0; simp at h0
      · exact h
    subst e
    have hs5' : SSeg5 w b off ds := by
      obtain ⟨b', off', e, _, h⟩ := hs5.seg (by omega)
      injection e with e
      injection e with e1 e2
      subst e1 e2
      exact h
    refine (iMarksInV b off cap ks ds w h0 hsm.1 hb hseg hs5' hdl).mono ?_
    rintro e w1 ⟨g, ds', rfl, hp, hso, hsg, hg, L1⟩
    have hpm : (smMarks ds').Perm (ks.map (·.1)) := by rw [← hds]; exact hp.map smMark
    have hmv : MView w1 (some ⟨g, 0, none⟩) (smMarks ds') := SView.mview (Or.inr ⟨g, 0, rfl, hg, hsg⟩) ((hsl.sub (fun d hd => hp.mem_iff.1 hd)).below L1)
    have e1 : smMarks ds' = knotMs ks := sortBy_one (parts_idlt (knotMs_sole hm)) _ _ (fun y hy => hy) hpm (sortedI_marks hso)
    rw [e1] at hmv
    exact ⟨g, ks.length, rfl, hmv, L1⟩

set_option maxRecDepth 100000 in
set_option maxHeartbeats 1000000 in
theorem iLead (ao qa : Option Addr) (cap qc : Nat) (ks : List Kn) (q : List Int) (w : World) (hv : KView w ao ks) (hsm : KSmall ks) (hq : View w qa q) (hqn : q.length ≤ 1048576) :
    Calls Try.prog 95 #[.slice ao ks.length cap, .slice qa q.length qc] w fun e w' => e = .returned (.bool (ballsB ks && toldB (knotMs ks) q)) ∧ Below w.heap.size w w' := by
  have HC := hidP (iBallsOk ao cap ks w hv hsm)
  rcases hk : ballsB ks with _ | _
  · rw [hk] at HC
    clear hv hq
    go_enter Try.func95, Try.ntmps95
    go_wp2_with fail
    refine HC.out.mono ?_
    rintro e w1 ⟨rfl, L1⟩
    go_wp2_with fail
    go_ret
    exact ⟨rfl, L1⟩
  · rw [hk] at HC
    obtain ⟨hmk, hf, hz⟩ := balls_tree hk
    obtain ⟨hms, hml⟩ := knotMs_small hsm
    have HM := hidP (fun w1 (L1 : Below w.heap.size w w1) => iMarksOf ao cap ks w1 (hv.next L1) hsm hmk)
    have HS : Hid (∀ g c w2, MView w2 (some ⟨g, 0, none⟩) (knotMs ks) → Below w.heap.size w w2 → Calls Try.prog 138 #[.slice qa q.length qc, .slice (some ⟨g, 0, none⟩) ks.length c] w2 fun e w' => e = .returned (.bool (toldB (knotMs ks) q)) ∧ Below w2.heap.size w2 w') := fun g c w2 h L => by
      have := iSuits (some ⟨g, 0, none⟩) qa c qc (knotMs ks) q w2 h (hq.next L) hms hqn
      rwa [hml] at this
    clear hv hq hmk hf hz hms hml hk
    generalize toldB (knotMs ks) q = v at *
    go_enter Try.func95, Try.ntmps95
    go_wp2_with fail
    refine HC.out.mono ?_
    rintro e w1 ⟨rfl, L1⟩
    have HM1 := hidP (HM.out w1 L1)
    have HL1 := hidP L1
    clear L1
    go_wp2_with fail
    refine HM1.out.mono ?_
    rintro e w2 ⟨g, c, rfl, hv2, L2⟩
    have L12 := chain HL1.out L2
    have HS2 := hidP (HS.out g c w2 hv2 L12)
    have HL2 := hidP L12
    clear hv2 L2 L12
    go_wp2_with fail
    refine HS2.out.mono ?_
    rintro e w3 ⟨rfl, L3⟩
    have HL3 := hidP (chain HL2.out L3)
    clear L3
    go_wp2_with fail
    go_ret
    exact ⟨by simp, HL3.out⟩

/-- What the look through right balls tells. -/
theorem iThru' (ao qa : Option Addr) (cap qc : Nat) (ks : List Kn) (q : List Int) (w w1 : World) (L : Below w.heap.size w w1) (hv : KView w ao ks) (hsm : KSmall ks) (hq : View w qa q) (hk : ballsB ks = true) (hto : toldB (knotMs ks) q = true) :
    Calls Try.prog 96 #[.slice ao ks.length cap, .slice qa q.length qc] w1 fun e w' => e = .returned (.tuple #[.agg #[.int .i64 (seekB q (ballF 60 (knotMs ks)) (0, -1)).1.1, .int .i64 (seekB q (ballF 60 (knotMs ks)) (0, -1)).1.2], .int .i64 (seekB q (ballF 60 (knotMs ks)) (0, -1)).2]) ∧ Below w.heap.size w w' := by
  obtain ⟨hmk, hf, hz⟩ := balls_tree hk
  have ht : TAt ks (ballF 60 (knotMs ks)) 0 := by have := tat_flat (ballF 60 (knotMs ks)); rwa [← hf] at this
  have hall := told_all hto
  have htw : ∀ i, i < ks.length → twoB q (knth ks i).1.2 = true := fun i hi => by
    rw [twoB_comm]
    exact hall _ ((sortBy_perm idlt _).mem_iff.2 (List.mem_map_of_mem (knth_mem hi)))
  exact (iThru ao qa cap qc ks q w1 (hv.next L) hsm.1 (hq.next L) (ballF 60 (knotMs ks)) ht (ballF_rad 60 (knotMs ks)) hz htw).mono fun e w' ⟨he, L2⟩ => ⟨he, chain L L2⟩

set_option maxRecDepth 100000 in
set_option maxHeartbeats 1000000 in
theorem iSpared (ao qa : Option Addr) (cap qc : Nat) (ks : List Kn) (q : List Int) (w : World) (hv : KView w ao ks) (hsm : KSmall ks) (hq : View w qa q) (hqn : q.length ≤ 1048576) :
    Calls Try.prog 39 #[.slice ao ks.length cap, .slice qa q.length qc] w fun e w' => e = .returned (.int .i64 (sparedV ks q)) ∧ Below w.heap.size w w' := by
  have HC := hidP (iLead ao qa cap qc ks q w hv hsm hq hqn)
  rcases hb : (ballsB ks && toldB (knotMs ks) q) with _ | _
  · have HV : Hid (sparedV ks q = -1) := by
      show sparedV ks q = -1
      rw [sparedV, if_neg]
      intro h
      simp [h.1, h.2] at hb
    rw [hb] at HC
    rw [HV.out]
    clear hv hq
    go_enter Try.func39, Try.ntmps39
    go_wp2_with fail
    refine HC.out.mono ?_
    rintro e w1 ⟨rfl, L1⟩
    go_wp2_with fail
    go_ret
    exact ⟨rfl, L1⟩
  · rw [hb] at HC
    simp only [Bool.and_eq_true] at hb
    obtain ⟨hk, hto⟩ := hb
    have HT := hidP (fun w1 (L1 : Below w.heap.size w w1) => iThru' ao qa cap qc ks q w w1 L1 hv hsm hq hk hto)
    have hls := look_seek q (ballF 60 (knotMs ks)) (0, -1) 0
    simp only at hls
    have HV : Hid (sparedV ks q = (ks.length : Int) - (seekB q (ballF 60 (knotMs ks)) (0, -1)).2) := by
      show sparedV ks q = _
      rw [sparedV, if_pos ⟨hk, hto⟩, hls]
      simp
    rw [HV.out]
    obtain ⟨-, -, hz⟩ := balls_tree hk
    have hcnt := seek_count q (ballF 60 (knotMs ks)) (0, -1)
    rw [hz] at hcnt
    have hn := hsm.1
    clear hv hq hls HV hk hto hz
    generalize seekB q (ballF 60 (knotMs ks)) (0, -1) = s at *
    obtain ⟨hc0, hc1, -⟩ := hcnt
    go_enter Try.func39, Try.ntmps39
    go_wp2_with fail
    refine HC.out.mono ?_
    rintro e w1 ⟨rfl, L1⟩
    have HT1 := hidP (HT.out w1 L1)
    clear L1
    go_wp2_with fail
    refine HT1.out.mono ?_
    rintro e w2 ⟨rfl, L2⟩
    have HL2 := hidP L2
    clear L2
    go_wp2_with fail
    go_ret
    first | exact ⟨rfl, HL2.out⟩ | exact ⟨rfl, HL2.out.alloc HL2.out.size _⟩

set_option maxRecDepth 100000 in
set_option maxHeartbeats 1000000 in
theorem iClosest (ao qa : Option Addr) (cap qc : Nat) (ks : List Kn) (q : List Int) (w : World) (hv : KView w ao ks) (hsm : KSmall ks) (hq : View w qa q) (hqn : q.length ≤ 1048576) :
    Calls Try.prog 36 #[.slice ao ks.length cap, .slice qa q.length qc] w fun e w' => e = .returned (.tuple #[.int .i64 (closestV ks q).1, .int .i64 (closestV ks q).2]) ∧ Below w.heap.size w w' := by
  have HC := hidP (iLead ao qa cap qc ks q w hv hsm hq hqn)
  rcases hb : (ballsB ks && toldB (knotMs ks) q) with _ | _
  · have HV : Hid (closestV ks q = (0, -1)) := by
      show closestV ks q = (0, -1)
      rw [closestV, if_neg]
      intro h
      simp [h.1, h.2.1] at hb
    rw [hb] at HC
    rw [HV.out]
    clear hv hq
    go_enter Try.func36, Try.ntmps36
    go_wp2_with fail
    refine HC.out.mono ?_
    rintro e w1 ⟨rfl, L1⟩
    go_wp2_with fail
    exact bodyPost_ret (v := .tuple #[.int .i64 0, .int .i64 (-1)]) (by simp [results, Try.results36, go_sem]) rfl ⟨rfl, L1⟩
  · rw [hb] at HC
    simp only [Bool.and_eq_true] at hb
    obtain ⟨hk, hto⟩ := hb
    have HT := hidP (fun w1 (L1 : Below w.heap.size w w1) => iThru' ao qa cap qc ks q w w1 L1 hv hsm hq hk hto)
    have hse := seek_closest hk hto
    rw [hse] at HT
    clear hv hq hse hk hto
    generalize (seekB q (ballF 60 (knotMs ks)) (0, -1)).2 = s at *
    generalize closestV ks q = v at *
    obtain ⟨v1, v2⟩ := v
    simp only at HT ⊢
    go_enter Try.func36, Try.ntmps36
    go_wp2_with fail
    refine HC.out.mono ?_
    rintro e w1 ⟨rfl, L1⟩
    have HT1 := hidP (HT.out w1 L1)
    clear L1
    go_wp2_with fail
    refine HT1.out.mono ?_
    rintro e w2 ⟨rfl, L2⟩
    have HL2 := hidP L2
    clear L2
    go_wp2_with fail
    go_quiet (fail)
    go_wp2_with fail
    exact bodyPost_ret (v := .tuple #[.int .i64 v1, .int .i64 v2]) (by simp [results, Try.results36, go_sem]) rfl ⟨rfl, below_drewN (HL2.out.alloc HL2.out.size _) nq⟩

end Go.Proofs.Ythddhblmnfjciaa
