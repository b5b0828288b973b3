/-
  The program's leads: whether one may go down these knots to this place.
-/
import Derived.Test.YtodielfilhodeaaKOkZz
import Derived.Test.YtodielfilhodeaaNearZz
import Derived.Test.YtodielfilhodeaaMathZz
import Derived.Test.YtodielfilhodeaaKArgZz
namespace Go.Proofs.Ytodielfilhodeaa
open Go Go.RowKit

theorem knotMs_soleK {ks : List Kn} (h : marksB (knotMs ks) = true) : Sole (ks.map (·.1)) := (marks_sole h).sub fun _ ha => (sortBy_perm idlt _).mem_iff.2 ha

theorem iMarksOfK (ao : Option Addr) (cap : Nat) (ks : List Kn) (w : World) (hv : KView w ao ks) (hsm : KSmall ks) (hm : marksB (knotMs ks) = true) :
    Calls Try.prog 134 #[.slice ao ks.length cap] w fun e w' => ∃ g c, e = .returned (.slice (some ⟨g, 0, none⟩) ks.length c) ∧ MView w' (some ⟨g, 0, none⟩) (knotMs ks) ∧ Below w.heap.size w w' := by
  rcases Nat.eq_zero_or_pos ks.length with h0 | h0
  · have e : ks = [] := List.length_eq_zero_iff.1 h0
    subst e
    exact (iMarksIn0 ao cap w).mono fun e w' ⟨g, he, L⟩ => ⟨g, 0, he, Or.inl rfl, L⟩
  · obtain ⟨ds, hds, hs5, hsl⟩ := hv.sview
    have hdl : ds.length = ks.length := by rw [← smMarks_length, hds, List.length_map]
    obtain ⟨b, off, e, hb, hseg⟩ : ∃ b off, ao = some ⟨b, off, none⟩ ∧ b < w.heap.size ∧ KSeg w b off ks := by
      rcases hv with h | h
      · rw [h] at h0; simp at h0
      · exact h
    subst e
    have hs5' : SSeg5 w b off ds := by
      obtain ⟨b', off', e, _, h⟩ := hs5.seg (by omega)
      injection e with e
      injection e with e1 e2
      subst e1 e2
      exact h
    refine (iMarksIn b off cap ks ds w h0 hsm.1 hb hseg hs5' hdl).mono ?_
    rintro e w1 ⟨g, ds', rfl, hp, hso, hsg, hg, L1⟩
    have hpm : (smMarks ds').Perm (ks.map (·.1)) := by rw [← hds]; exact hp.map smMark
    have hmv : MView w1 (some ⟨g, 0, none⟩) (smMarks ds') := SView.mview (Or.inr ⟨g, 0, rfl, hg, hsg⟩) ((hsl.sub (fun d hd => hp.mem_iff.1 hd)).below L1)
    have e1 : smMarks ds' = knotMs ks := sortBy_one (parts_idlt (knotMs_soleK hm)) _ _ (fun y hy => hy) hpm (sortedI_marks hso)
    rw [e1] at hmv
    exact ⟨g, ks.length, rfl, hmv, L1⟩

theorem knotMs_smallK {ks : List Kn} (hsm : KSmall ks) : MSmall (knotMs ks) ∧ (knotMs ks).length = ks.length := by
  have hpm : (knotMs ks).Perm (ks.map (·.1)) := sortBy_perm idlt _
  have hml : (knotMs ks).length = ks.length := by rw [hpm.length_eq, List.length_map]
  refine ⟨⟨by rw [hml]; exact hsm.1, fun i => ?_⟩, hml⟩
  rcases Nat.lt_or_ge i (knotMs ks).length with h | h
  · have h1 : (knotMs ks)[i] ∈ ks.map (·.1) := hpm.mem_iff.1 (List.getElem_mem h)
    obtain ⟨k, hk, e⟩ := List.mem_map.1 h1
    obtain ⟨j, hj, e2⟩ := List.getElem_of_mem hk
    have h2 := hsm.2 j
    have e3 : knth ks j = k := by rw [← e2]; simp [knth, List.getD, hj]
    rw [e3] at h2
    have e4 : mat (knotMs ks) i = k.1.2 := by simp only [mat, List.getD, List.getElem?_eq_getElem h, Option.getD_some]; rw [← e]
    rw [e4]; exact h2
  · simp [mat, List.getD, h]

set_option maxRecDepth 100000 in
set_option maxHeartbeats 1000000 in
theorem iLeadK (ao qa : Option Addr) (cap qc : Nat) (ks : List Kn) (q : List Int) (w : World) (hv : KView w ao ks) (hsm : KSmall ks) (hq : View w qa q) (hqn : q.length ≤ 1048576) :
    Calls Try.prog 77 #[.slice ao ks.length cap, .slice qa q.length qc] w fun e w' => e = .returned (.bool (knotsB ks && toldB (knotMs ks) q)) ∧ Below w.heap.size w w' := by
  have HC := hidP (iKnotsOk ao cap ks w hv hsm)
  rcases hk : knotsB ks with _ | _
  · rw [hk] at HC
    clear hv hq
    go_enter Try.func77, Try.ntmps77
    go_wp2_with fail
    refine HC.out.mono ?_
    rintro e w1 ⟨rfl, L1⟩
    go_wp2_with fail
    go_ret
    exact ⟨rfl, L1⟩
  · rw [hk] at HC
    obtain ⟨hmk, hf, hz⟩ := knots_tree hk
    obtain ⟨hms, hml⟩ := knotMs_smallK hsm
    have HM := hidP (fun w1 (L1 : Below w.heap.size w w1) => iMarksOfK ao cap ks w1 (hv.next L1) hsm hmk)
    have HS : Hid (∀ g c w2, MView w2 (some ⟨g, 0, none⟩) (knotMs ks) → Below w.heap.size w w2 → Calls Try.prog 107 #[.slice qa q.length qc, .slice (some ⟨g, 0, none⟩) ks.length c] w2 fun e w' => e = .returned (.bool (toldB (knotMs ks) q)) ∧ Below w2.heap.size w2 w') := fun g c w2 h L => by
      have := iSuits (some ⟨g, 0, none⟩) qa c qc (knotMs ks) q w2 h (hq.next L) hms hqn
      rwa [hml] at this
    clear hv hq hmk hf hz hms hml hk
    generalize toldB (knotMs ks) q = v at *
    go_enter Try.func77, Try.ntmps77
    go_wp2_with fail
    refine HC.out.mono ?_
    rintro e w1 ⟨rfl, L1⟩
    have HM1 := hidP (HM.out w1 L1)
    have HL1 := hidP L1
    clear L1
    go_wp2_with fail
    refine HM1.out.mono ?_
    rintro e w2 ⟨g, c, rfl, hv2, L2⟩
    have L12 := chain HL1.out L2
    have HS2 := hidP (HS.out g c w2 hv2 L12)
    have HL2 := hidP L12
    clear hv2 L2 L12
    go_wp2_with fail
    refine HS2.out.mono ?_
    rintro e w3 ⟨rfl, L3⟩
    have HL3 := hidP (chain HL2.out L3)
    clear L3
    go_wp2_with fail
    go_ret
    exact ⟨by simp, HL3.out⟩

end Go.Proofs.Ytodielfilhodeaa
