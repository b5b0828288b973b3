/-
  The program's KnotsOk.
-/
import Derived.Test.YthddhblmnfjciaaKMInZz
import Derived.Test.YthddhblmnfjciaaKTopZz
import Derived.Test.YthddhblmnfjciaaKKeepZz
namespace Go.Proofs.Ythddhblmnfjciaa
open Go Go.RowKit

theorem Sole.perm {ms ns : List Mk} (h : Sole ms) (hp : ns.Perm ms) : Sole ns := h.sub fun _ ha => hp.mem_iff.1 ha
theorem knot_ms {ks : List Kn} {ms : List Mk} (hp : ms.Perm (ks.map (·.1))) (hs : SortedBy idlt ms) (h : Sole ms) : ms = knotMs ks :=
  sortBy_one (parts_idlt (h.perm hp.symm)) (ks.map fun k : Kn => k.1) ms (fun _ hy => hy) hp hs
theorem knotsB_out {ks : List Kn} {ms : List Mk} (hp : ms.Perm (ks.map (·.1))) (hs : SortedBy idlt ms) (h : marksB ms = false) : knotsB ks = false := by
  rcases hm : marksB (knotMs ks) with _ | _
  · simp [knotsB, hm]
  · have h1 : Sole ms := (marks_sole hm).perm (hp.trans (sortBy_perm idlt _).symm)
    rw [← knot_ms hp hs h1] at hm
    rw [hm] at h; cases h
theorem halved_mem {ms : List Mk} (hm : marksB ms = true) {k : Kn} (hk : k ∈ halvedV ms) : k.1 ∈ ms := by
  unfold halvedV at hk
  rw [if_pos hm] at hk
  have h1 : k.1 ∈ (treeF 60 ms 0).marks := by rw [← Tr.flat_marks _ 0]; exact List.mem_map_of_mem hk
  exact (treeF_marks 60 ms 0 (marksB_len hm)).mem_iff.1 h1
theorem sameB_iff (k q : Kn) : sameB k q = true ↔ k.1.1 = q.1.1 ∧ k.2 = q.2 := by
  obtain ⟨⟨a, x⟩, b, c, d⟩ := k
  obtain ⟨⟨a', x'⟩, b', c', d'⟩ := q
  simp [sameB, and_assoc]
theorem kn_eq {ks xs : List Kn} (hl : ks.length = xs.length) (h : ∀ i, i < ks.length → knth ks i = knth xs i) : ks = xs := by
  apply List.ext_getElem hl
  intro i h1 h2
  have := h i h1
  simpa [knth, List.getD, h1, h2] using this
theorem knotsB_some {ks : List Kn} {ms : List Mk} (hp : ms.Perm (ks.map (·.1))) (hs : SortedBy idlt ms) (h : marksB ms = true) : knotsB ks = eqB ks (halvedV ms) := by
  have hS := marks_sole h
  have e := knot_ms hp hs hS
  have hk : knotsB ks = decide (halvedV ms = ks) := by unfold knotsB; rw [← e, h, Bool.true_and]
  rw [hk]
  have hlen : (halvedV ms).length = ks.length := by rw [halvedV_length ms h, hp.length_eq, List.length_map]
  rcases hb : eqB ks (halvedV ms) with _ | _
  · refine decide_eq_false (fun hq => ?_)
    rw [hq] at hb
    rw [eqB_all rfl (fun i _ => (sameB_iff _ _).2 ⟨rfl, rfl⟩)] at hb
    cases hb
  · refine decide_eq_true (kn_eq hlen fun i hi => ?_)
    simp only [eqB, Bool.and_eq_true, List.all_eq_true] at hb
    have h1 := (sameB_iff _ _).1 (hb.2 i (List.mem_range.2 (by omega)))
    have m1 : (knth (halvedV ms) i).1 ∈ ms := halved_mem h (knth_mem hi)
    have m2 : (knth ks i).1 ∈ ms := hp.mem_iff.2 (List.mem_map_of_mem (knth_mem (by omega)))
    exact Prod.ext (hS _ m1 _ m2 h1.1.symm) h1.2.symm
theorem sortedI_marks {ds : List Sm} (h : SortedBy smid ds) : SortedBy idlt (smMarks ds) := by
  unfold SortedBy smMarks at *
  rw [List.pairwise_map]
  exact h

theorem run_copy_zero {P : Program} (w : World) (dT sT ty elem : TypeId) (d a : Option Addr) (size dCap sCap : Nat) (hu : P.underlying dT = some (.slice elem)) (hs : (P.info? elem).map (·.size) = some size) :
    (Builtin.copy_ #[dT, sT] ty #[.slice d 0 dCap, .slice a 0 sCap]).run P w = .ok (goInt 0) w := by
  cases hq : P.info? elem with
  | none => simp [hq] at hs
  | some i =>
    have hz : ∀ n : Nat, Nat.min 0 n = 0 := fun n => Nat.zero_min n
    cases a <;> cases d <;> simp [Builtin.copy_, run_underlying hu, Builtin.lenOf, Builtin.firstCells, sizeOf, typeInfo, hq, storeCells, loadCells, loadCellsFrom]

set_option maxRecDepth 100000 in
set_option maxHeartbeats 1000000 in
theorem iInOrder0 (ao : Option Addr) (cap : Nat) (fv : Value) (w : World) :
    Calls Try.prog 126 #[.slice ao 0 cap, fv] w fun e w' => e = .returned (.slice (some ⟨w.heap.size, 0, none⟩) 0 0) ∧ w' = w.alloc (.cells #[] 93) := by
  have hmk : ∀ w, (Instr.makeSlice 34 (.int .i64 0) (.int .i64 0)).run Try.prog w = .ok (.slice (some ⟨w.heap.size, 0, none⟩) 0 0) (w.alloc (.cells #[] 93)) := fun _ => by kernel_rfl
  have hcp := fun ty W d => run_copy_zero (P := Try.prog) W 34 34 ty 93 d ao 2 0 cap Try.underlying34 (by have := Try.info93; cases hq : Try.prog.info? 93 with | none => rw [hq] at this; cases this | some i => rw [hq] at this; simp at this; simp [this])
  have HC := hidP (fun p W => AnyF.slices_SortFunc_none Try.sortM p 0 fv W)
  go_enter Try.func126, Try.ntmps126
  go_wp2_with fail
  refine (HC.out _ _).mono ?_
  rintro e w1 ⟨rfl, hw1⟩
  rw [hw1]
  clear hw1 hcp hmk HC
  go_wp2_with fail
  go_ret
  exact ⟨rfl, rfl⟩

set_option maxRecDepth 100000 in
set_option maxHeartbeats 1000000 in
theorem iMarksIn0 (ao : Option Addr) (cap : Nat) (w : World) :
    Calls Try.prog 74 #[.slice ao 0 cap] w fun e w' => ∃ g, e = .returned (.slice (some ⟨g, 0, none⟩) 0 0) ∧ Below w.heap.size w w' := by
  have hmk : ∀ w, (Instr.makeSlice 34 (.int .i64 0) (.int .i64 0)).run Try.prog w = .ok (.slice (some ⟨w.heap.size, 0, none⟩) 0 0) (w.alloc (.cells #[] 93)) := fun _ => by kernel_rfl
  go_enter Try.func74, Try.ntmps74
  go_wp2
  clear hmk
  refine wp_loop_rounds 1 ?_
  rw [rounds_succ]
  go_wp2_with fail
  refine (iInOrder0 _ _ _ _).mono ?_
  rintro e w1 ⟨rfl, rfl⟩
  go_wp2_with fail
  go_ret
  exact ⟨_, rfl, ((Below.refl _ _).alloc (Nat.le_refl _) _).alloc (by simp) _⟩

set_option maxRecDepth 100000 in
set_option maxHeartbeats 1000000 in
theorem iKnotsOk (ao : Option Addr) (cap : Nat) (ks : List Kn) (w : World) (hv : KView w ao ks) (hsm : KSmall ks) :
    Calls Try.prog 17 #[.slice ao ks.length cap] w fun e w' => e = .returned (.bool (knotsB ks)) ∧ Below w.heap.size w w' := by
  rcases Nat.eq_zero_or_pos ks.length with h0 | h0
  · have e : ks = [] := List.length_eq_zero_iff.1 h0
    subst e
    have HV : Hid (knotsB [] = true) := rfl
    have HM := hidP (iMarksIn0 ao cap w)
    clear hv hsm h0
    go_enter Try.func17, Try.ntmps17
    go_wp2_with fail
    refine HM.out.mono ?_
    rintro e w1 ⟨g, rfl, L1⟩
    have HH := hidP (iHalved (some ⟨g, 0, none⟩) 0 [] w1 (Or.inl rfl) ⟨by simp, fun i => by simp [mat]⟩)
    have HL1 := hidP L1
    clear L1 HM
    go_wp2_with fail
    refine HH.out.mono ?_
    rintro e w2 ⟨v, rfl, hg, L2⟩
    obtain ⟨ao2, c2, rfl, _⟩ := hg.view
    have HL2 := hidP (chain HL1.out L2)
    have hz : (halvedV []).length = 0 := rfl
    clear hg L2 HL1 HH
    go_wp2_with fail
    refine (iEqual_nil _ _ _ _ _ _).mono ?_
    rintro e w3 ⟨rfl, rfl⟩
    go_wp2_with fail
    go_ret
    exact ⟨ret_bool HV.out.symm, HL2.out⟩
  · obtain ⟨ds, hds, hs5, hsl⟩ := hv.sview
    have hdl : ds.length = ks.length := by rw [← smMarks_length, hds, List.length_map]
    obtain ⟨b, off, e, hb, hseg⟩ : ∃ b off, ao = some ⟨b, off, none⟩ ∧ b < w.heap.size ∧ KSeg w b off ks := by
      rcases hv with h | h
      · rw [h] at h0; simp at h0
      · exact h
    subst e
    have hs5' : SSeg5 w b off ds := by
      obtain ⟨b', off', e, _, h⟩ := hs5.seg (by omega)
      injection e with e
      injection e with e1 e2
      subst e1 e2
      exact h
    have HM := hidP (iMarksIn b off cap ks ds w h0 hsm.1 hb hseg hs5' hdl)
    have HSEG := hidP hseg
    have HSL := hidP hsl
    have HDS := hidP hds
    have hn0 : ks.length ≠ 0 := by omega
    have hn1 := hsm.1
    have HSM := hidP hsm
    clear hv hs5 hs5' hseg hsl hds hsm
    go_enter Try.func17, Try.ntmps17
    go_wp2_with fail
    refine HM.out.mono ?_
    rintro e w1 ⟨g, ds', rfl, hp, hso, hsg, hg, L1⟩
    have hl' : ds'.length = ks.length := by rw [hp.length_eq, hdl]
    have hml : (smMarks ds').length = ks.length := by rw [smMarks_length, hl']
    have hpm : (smMarks ds').Perm (ks.map (·.1)) := by rw [← HDS.out]; exact hp.map smMark
    have hmv : MView w1 (some ⟨g, 0, none⟩) (smMarks ds') := SView.mview (Or.inr ⟨g, 0, rfl, hg, hsg⟩) ((HSL.out.sub (fun d hd => hp.mem_iff.1 hd)).below L1)
    have hms : MSmall (smMarks ds') := by
      refine ⟨by rw [hml]; exact HSM.out.1, fun i => ?_⟩
      rcases Nat.lt_or_ge i (smMarks ds').length with h | h
      · have h1 : (smMarks ds')[i] ∈ ks.map (·.1) := hpm.mem_iff.1 (List.getElem_mem h)
        obtain ⟨k, hk, e⟩ := List.mem_map.1 h1
        obtain ⟨j, hj, e2⟩ := List.getElem_of_mem hk
        have h2 := HSM.out.2 j
        have e3 : knth ks j = k := by rw [← e2]; simp [knth, List.getD, hj]
        rw [e3] at h2
        have e4 : mat (smMarks ds') i = k.1.2 := by simp only [mat, List.getD, List.getElem?_eq_getElem h, Option.getD_some]; rw [← e]
        rw [e4]; exact h2
      · simp [mat, List.getD, h]
    have HH := hidP (iHalved (some ⟨g, 0, none⟩) ks.length (smMarks ds') w1 hmv hms)
    rw [hml] at HH
    have HL1 := hidP L1
    have HOUT := hidP (knotsB_out hpm (sortedI_marks hso))
    have HSOME := hidP (knotsB_some hpm (sortedI_marks hso))
    have HLEN := hidP (halvedV_length (smMarks ds'))
    rw [hml] at HLEN
    have HNONE : Hid (marksB (smMarks ds') = false → halvedV (smMarks ds') = []) := fun h => by simp [halvedV, h]
    clear hp hso hsg hg L1 hl' hml hpm hmv hms HM HDS HSL
    generalize smMarks ds' = ms at *
    go_wp2_with fail
    refine HH.out.mono ?_
    rintro e w2 ⟨v, rfl, hgot, L2⟩
    obtain ⟨ao2, c2, rfl, hkv⟩ := hgot.view
    have HL2 := hidP (chain HL1.out L2)
    have HBK : Hid (KSeg w2 b off ks) := fun i hi => (HSEG.out i hi).below hb (chain HL1.out L2)
    have hb2 : b < w2.heap.size := Nat.lt_of_lt_of_le hb (chain HL1.out L2).size
    clear hgot L2 HL1 HSEG HH
    rcases hm : marksB ms with _ | _
    · have HV := hidP (HOUT.out hm)
      rw [HNONE.out hm]
      clear HOUT HSOME HLEN HNONE hkv
      go_wp2_with fail
      refine (iEqual_ne _ _ _ 0 _ _ _ _ hn0).mono ?_
      rintro e w3 ⟨rfl, hw3⟩
      rw [hw3]
      clear hw3
      go_wp2_with fail
      go_ret
      exact ⟨ret_bool HV.out.symm, HL2.out⟩
    · have HV := hidP (HSOME.out hm)
      have hl2 := HLEN.out hm
      obtain ⟨b2, o2, e2, hb3, hs2⟩ : ∃ b off, ao2 = some ⟨b, off, none⟩ ∧ b < w2.heap.size ∧ KSeg w2 b off (halvedV ms) := by
        rcases hkv with h | h
        · rw [h] at hl2; simp at hl2; omega
        · exact h
      subst e2
      have HE := hidP (iEqual b off cap b2 o2 c2 ks (halvedV ms) w2 hb2 hb3 HBK.out hs2 hl2.symm hn1)
      rw [hl2]
      clear HOUT HSOME HLEN HNONE hkv hs2 hl2
      go_wp2_with fail
      refine HE.out.mono ?_
      rintro e w3 ⟨rfl, L3⟩
      have HF := hidP (chain HL2.out L3)
      clear L3 HE HL2
      go_wp2_with fail
      go_ret
      exact ⟨ret_bool HV.out.symm, HF.out⟩

end Go.Proofs.Ythddhblmnfjciaa
