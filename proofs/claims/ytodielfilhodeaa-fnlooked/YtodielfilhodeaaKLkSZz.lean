/-
  The given Looked.
  The law of Looked, plain part.
-/
import Derived.Test.YtodielfilhodeaaKLookZz
import Derived.Test.YtodielfilhodeaaKLeadZz
import Derived.Test.YtodielfilhodeaaKTopZz
namespace Go.Proofs.Ytodielfilhodeaa
open Go Go.RowKit

set_option maxRecDepth 100000 in
set_option maxHeartbeats 1000000 in
theorem sLookedS (ao qa : Option Addr) (cap qc : Nat) (ks : List Kn) (q : List Int) (w : World) (hv : KView w ao ks) (hsm : KSmall ks) (hq : View w qa q) (hqn : q.length ≤ 1048576) :
    Calls Try.prog 26 #[.slice ao ks.length cap, .slice qa q.length qc] w fun e w' => e = .returned (.int .i64 (lookedV ks q)) ∧ Below w.heap.size w w' := by
  have HC := hidP (sKnotsOk ao cap ks w hv hsm)
  rcases hk : knotsB ks with _ | _
  · have HV : Hid (lookedV ks q = -1) := by show lookedV ks q = -1; simp [lookedV, hk]
    rw [hk] at HC
    rw [HV.out]
    go_enter Try.func26, Try.ntmps26
    go_wp2_with fail
    refine HC.out.mono ?_
    rintro e w1 ⟨rfl, L1⟩
    have HL1 := hidP L1
    clear L1
    go_wp2_with fail
    go_ret
    exact ⟨rfl, HL1.out⟩
  · rw [hk] at HC
    obtain ⟨hmk, hf, hz⟩ := knots_tree hk
    obtain ⟨hms, hml⟩ := knotMs_smallK hsm
    have HM : Hid (∀ w1, Below w.heap.size w w1 → Calls Try.prog 81 #[.slice ao ks.length cap] w1 fun e w' => ∃ g c, e = .returned (.slice (some ⟨g, 0, none⟩) ks.length c) ∧ MView w' (some ⟨g, 0, none⟩) (knotMs ks) ∧ Below w.heap.size w w') := fun w1 L1 => by
      obtain ⟨ds, hds, hs5, hsl⟩ := (hv.next L1).sview
      have hdl : ds.length = ks.length := by rw [← smMarks_length, hds, List.length_map]
      have h := sMarksOf ao cap ds w1 hs5 (by have := hsm.1; omega)
      rw [hdl] at h
      refine h.mono fun e w' ⟨g, c, he, hr, L⟩ => ⟨g, c, he, ?_, chain L1 L⟩
      have e1 : smMarks (sortBy smid ds) = knotMs ks := by rw [sortI_marks, hds]; rfl
      rw [← e1]
      exact hr.view (hsl.sub (fun d hd => (sortBy_perm _ _).mem_iff.1 hd)) L
    have HTO : Hid (∀ g c w2, MView w2 (some ⟨g, 0, none⟩) (knotMs ks) → Below w.heap.size w w2 → Calls Try.prog 80 #[.slice (some ⟨g, 0, none⟩) ks.length c, .slice qa q.length qc] w2 fun e w' => e = .returned (.bool (toldB (knotMs ks) q)) ∧ ∃ n, w' = w2.drewN n) := fun g c w2 h L => by
      have := sTold (some ⟨g, 0, none⟩) qa c qc (knotMs ks) q w2 h (hq.next L) hms hqn
      rwa [hml] at this
    have ht : TAt ks (treeF 60 (knotMs ks) 0) 0 := by have := tat_flat (treeF 60 (knotMs ks) 0); rwa [← hf] at this
    have hks := hsm.1
    have h60 : ks.length ≤ 60 := by rw [← hml]; exact marksB_len hmk
    rcases hto : toldB (knotMs ks) q with _ | _
    · have HV : Hid (lookedV ks q = -1) := by show lookedV ks q = -1; simp [lookedV, hto]
      rw [hto] at HTO
      rw [HV.out]
      clear ht hf hz hms hml hmk
      go_enter Try.func26, Try.ntmps26
      go_wp2_with fail
      refine HC.out.mono ?_
      rintro e w1 ⟨rfl, L1⟩
      have HM1 := hidP (HM.out w1 L1)
      clear L1
      go_wp2_with fail
      refine HM1.out.mono ?_
      rintro e w2 ⟨g, c, rfl, hv2, L2⟩
      have HT2 := hidP (HTO.out g c w2 hv2 L2)
      have HL2 := hidP L2
      clear hv2 L2
      go_wp2_with fail
      refine HT2.out.mono ?_
      rintro e w3 ⟨rfl, n3, rfl⟩
      go_wp2_with fail
      go_ret
      exact ⟨rfl, below_drewN HL2.out n3⟩
    · have HV : Hid (lookedV ks q = (lookT q (treeF 60 (knotMs ks) 0) (-1, 0)).2) := by show lookedV ks q = _; simp [lookedV, hk, hto]
      rw [hto] at HTO
      rw [HV.out]
      have hcnt := look_count q (treeF 60 (knotMs ks) 0) (-1, 0)
      simp only at hcnt
      have hlk : 0 ≤ (lookT q (treeF 60 (knotMs ks) 0) (-1, 0)).2 ∧ (lookT q (treeF 60 (knotMs ks) 0) (-1, 0)).2 ≤ ks.length := by omega
      have hrad : 0 < ks.length → 0 < q.length ∧ (treeF 60 (knotMs ks) 0).all (fun m x _ _ => x < q.length ∧ twoB m.2 q = true) := fun h0 => by
        have hall := told_all hto
        have h1 : 0 < q.length := by
          have hmem : (knotMs ks)[0]'(by omega) ∈ knotMs ks := List.getElem_mem _
          have := okB_len (twoB_of (hall _ hmem)).2.1
          omega
        exact ⟨h1, Tr.all_imp (fun m x l r h => ⟨h.1, hall m h.2⟩) _ (treeF_axis 60 (knotMs ks) 0 q.length (marksB_len hmk) (fun a ha => (twoB_of (hall a ha)).2.2) h1 h1)⟩
      have HLOOK : Hid (∀ w3, Below w.heap.size w w3 → 0 < ks.length → Calls Try.prog 82 #[.slice ao ks.length cap, .int .i64 0, .slice qa q.length qc, .pointer (some ⟨w3.heap.size, 0, none⟩)] (w3.alloc (.cells #[.int .i64 (-1), .int .i64 0] 106)) fun e w' => e = .returned (.tuple #[]) ∧ w'.cell? ⟨w3.heap.size, 1, none⟩ = some (.int .i64 (lookT q (treeF 60 (knotMs ks) 0) (-1, 0)).2) ∧ Below w.heap.size w w') := fun w3 L3 h0 => by
        obtain ⟨b, off, e, hb, hs⟩ : ∃ b off, ao = some ⟨b, off, none⟩ ∧ b < w3.heap.size ∧ KSeg w3 b off ks := by
          rcases hv.next L3 with h | h
          · rw [h] at h0; simp at h0
          · exact h
        subst e
        have hpl : (treeF 60 (knotMs ks) 0).place 0 = 0 := by rw [place_zero, if_neg (by omega)]
        obtain ⟨hq0, hr0⟩ := hrad h0
        obtain ⟨qb, qo, e, hqb, hqs⟩ := (hq.next L3).seg hq0
        subst e
        have h := sLooked5 b off cap ks qb qo qc q w3.heap.size w3 hb hs hqb hqs hqn (Nat.le_refl _) (treeF 60 (knotMs ks) 0) 0 (w3.alloc (.cells #[.int .i64 (-1), .int .i64 0] 106)) (-1) 0 ht hr0 (alloc_below w3 _) (Two.new w3 _ _ _) (by omega) (by omega) (by omega) (by omega)
        rw [hpl] at h
        refine h.mono fun e w' ⟨he, h1, h2, _⟩ => ⟨he, h1.c1, ?_⟩
        exact below_grown (L3.alloc L3.size _) h2 (by have := L3.size; simp; omega) L3.size
      have hz0 : ks.length = 0 → (lookT q (treeF 60 (knotMs ks) 0) (-1, 0)).2 = 0 := fun h => by omega
      generalize (lookT q (treeF 60 (knotMs ks) 0) (-1, 0)).2 = v at *
      clear ht hf hz hms hml hmk hcnt hrad
      rcases Nat.eq_zero_or_pos ks.length with h0 | h0
      · have hv0 := hz0 h0
        subst hv0
        rw [h0]
        rw [h0] at HC HM HTO
        have hlb : ¬ ((0 : Int) > 0) := by omega
        go_enter Try.func26, Try.ntmps26
        go_wp2_with fail
        refine HC.out.mono ?_
        rintro e w1 ⟨rfl, L1⟩
        have HM1 := hidP (HM.out w1 L1)
        clear L1
        go_wp2_with fail
        refine HM1.out.mono ?_
        rintro e w2 ⟨g, c, rfl, hv2, L2⟩
        have HT2 := hidP (HTO.out g c w2 hv2 L2)
        have HL2 := hidP L2
        clear hv2 L2
        go_wp2_with fail
        refine HT2.out.mono ?_
        rintro e w3 ⟨rfl, n3, hw3⟩
        have HL3 : Hid (Below w.heap.size w w3) := by rw [hw3]; exact below_drewN HL2.out n3
        clear hw3
        go_wp2_with fail
        go_ret
        exact ⟨rfl, HL3.out.alloc HL3.out.size _⟩
      · have hlb : (ks.length : Int) > 0 := by omega
        go_enter Try.func26, Try.ntmps26
        go_wp2_with fail
        refine HC.out.mono ?_
        rintro e w1 ⟨rfl, L1⟩
        have HM1 := hidP (HM.out w1 L1)
        clear L1
        go_wp2_with fail
        refine HM1.out.mono ?_
        rintro e w2 ⟨g, c, rfl, hv2, L2⟩
        have HT2 := hidP (HTO.out g c w2 hv2 L2)
        have HL2 := hidP L2
        clear hv2 L2
        go_wp2_with fail
        refine HT2.out.mono ?_
        rintro e w3 ⟨rfl, n3, hw3⟩
        have HL3 : Hid (Below w.heap.size w w3) := by rw [hw3]; exact below_drewN HL2.out n3
        have HK3 := hidP (HLOOK.out w3 HL3.out h0)
        clear hw3
        go_wp2_with fail
        refine HK3.out.mono ?_
        rintro e w4 ⟨rfl, hc4, L4⟩
        have HL4 := hidP L4
        clear L4
        go_wp2_with fail
        go_ret
        exact ⟨rfl, HL4.out⟩

end Go.Proofs.Ytodielfilhodeaa
namespace Go.Proofs.Ytodielfilhodeaa
open Go Go.RowKit

theorem ks_small {ks : List Kn} (h : ks.length ≤ 60) (hat : ∀ k ∈ ks, k.1.2.length ≤ 4) : KSmall ks := by
  refine ⟨by omega, fun i => ?_⟩
  rcases Nat.lt_or_ge i ks.length with h1 | h1
  · have : knth ks i ∈ ks := by simp [knth, List.getD, h1]
    have := hat _ this
    omega
  · simp [knth, List.getD, h1]
theorem look_val {ks : List Kn} {q : List Int} (h1 : knotsB ks = true) (h2 : toldB (knotMs ks) q = true) : lookedV ks q ≤ ks.length ∧ (ks.length ≠ 0 → 1 ≤ lookedV ks q) ∧ (ks.length = 0 → lookedV ks q = 0) := by
  have e : lookedV ks q = (lookT q (treeF 60 (knotMs ks) 0) (-1, 0)).2 := by unfold lookedV; rw [if_pos ⟨h1, h2⟩]
  have hz := (knots_tree h1).2.2
  have hc := look_count q (treeF 60 (knotMs ks) 0) (-1, 0)
  simp only at hc
  rw [e]
  exact ⟨by omega, fun h => by have := hc.2.2 (by omega); omega, fun h => by omega⟩
theorem look_facts {ks : List Kn} {q : List Int} (h : 0 ≤ lookedV ks q) : knotsB ks = true ∧ lookedV ks q ≤ ks.length ∧ (ks.length ≠ 0 → 1 ≤ lookedV ks q) ∧ (ks.length = 0 → lookedV ks q = 0) := by
  by_cases hk : knotsB ks = true ∧ toldB (knotMs ks) q = true
  · exact ⟨hk.1, look_val hk.1 hk.2⟩
  · unfold lookedV at h
    rw [if_neg hk] at h
    omega
theorem look_root {ks : List Kn} (hk : knotsB ks = true) (h0 : 0 < ks.length) : 1 ≤ lookedV ks (knth ks 0).1.2 ∧ lookedV ks (knth ks 0).1.2 ≤ ks.length := by
  obtain ⟨hm, _, hz⟩ := knots_tree hk
  have hpm : (knotMs ks).Perm (ks.map (·.1)) := sortBy_perm idlt _
  have hml : (knotMs ks).length = ks.length := by rw [hpm.length_eq, List.length_map]
  have hmem : (knth ks 0).1 ∈ knotMs ks := hpm.mem_iff.2 (List.mem_map_of_mem (by simp [knth, List.getD, h0]))
  obtain ⟨j, hj, ej⟩ := List.getElem_of_mem hmem
  have e2 : mat (knotMs ks) j = (knth ks 0).1.2 := by rw [← ej]; simp [mat, List.getD, hj]
  have h2 := marks_two hm (i := 0) (j := j) (by omega) hj
  rw [e2] at h2
  obtain ⟨_, ho, hl⟩ := twoB_of h2
  have ht : toldB (knotMs ks) (knth ks 0).1.2 = true := by simp [toldB, hm, ho, hl]
  have := look_val hk ht
  exact ⟨this.2.1 (by omega), this.1⟩

end Go.Proofs.Ytodielfilhodeaa
