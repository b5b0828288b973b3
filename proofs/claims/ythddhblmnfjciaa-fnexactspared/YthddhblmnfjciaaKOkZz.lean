/-
  The program's KnotsOk.
  The given l1Same and KnotsOk.
-/
import Derived.Test.YthddhblmnfjciaaKMInZz
import Derived.Test.YthddhblmnfjciaaKTopZz
import Derived.Test.YthddhblmnfjciaaKKeepZz
namespace Go.Proofs.Ythddhblmnfjciaa
open Go Go.RowKit

theorem Sole.perm {ms ns : List Mk} (h : Sole ms) (hp : ns.Perm ms) : Sole ns := h.sub fun _ ha => hp.mem_iff.1 ha
theorem knot_ms {ks : List Kn} {ms : List Mk} (hp : ms.Perm (ks.map (·.1))) (hs : SortedBy idlt ms) (h : Sole ms) : ms = knotMs ks :=
  sortBy_one (parts_idlt (h.perm hp.symm)) (ks.map fun k : Kn => k.1) ms (fun _ hy => hy) hp hs
theorem knotsB_out {ks : List Kn} {ms : List Mk} (hp : ms.Perm (ks.map (·.1))) (hs : SortedBy idlt ms) (h : marksB ms = false) : knotsB ks = false := by
  rcases hm : marksB (knotMs ks) with _ | _
  · simp [knotsB, hm]
  · have h1 : Sole ms := (marks_sole hm).perm (hp.trans (sortBy_perm idlt _).symm)
    rw [← knot_ms hp hs h1] at hm
    rw [hm] at h; cases h
theorem halved_mem {ms : List Mk} (hm : marksB ms = true) {k : Kn} (hk : k ∈ halvedV ms) : k.1 ∈ ms := by
  unfold halvedV at hk
  rw [if_pos hm] at hk
  have h1 : k.1 ∈ (treeF 60 ms 0).marks := by rw [← Tr.flat_marks _ 0]; exact List.mem_map_of_mem hk
  exact (treeF_marks 60 ms 0 (marksB_len hm)).mem_iff.1 h1
theorem sameB_iff (k q : Kn) : sameB k q = true ↔ k.1.1 = q.1.1 ∧ k.2 = q.2 := by
  obtain ⟨⟨a, x⟩, b, c, d⟩ := k
  obtain ⟨⟨a', x'⟩, b', c', d'⟩ := q
  simp [sameB, and_assoc]
theorem kn_eq {ks xs : List Kn} (hl : ks.length = xs.length) (h : ∀ i, i < ks.length → knth ks i = knth xs i) : ks = xs := by
  apply List.ext_getElem hl
  intro i h1 h2
  have := h i h1
  simpa [knth, List.getD, h1, h2] using this
theorem knotsB_some {ks : List Kn} {ms : List Mk} (hp : ms.Perm (ks.map (·.1))) (hs : SortedBy idlt ms) (h : marksB ms = true) : knotsB ks = eqB ks (halvedV ms) := by
  have hS := marks_sole h
  have e := knot_ms hp hs hS
  have hk : knotsB ks = decide (halvedV ms = ks) := by unfold knotsB; rw [← e, h, Bool.true_and]
  rw [hk]
  have hlen : (halvedV ms).length = ks.length := by rw [halvedV_length ms h, hp.length_eq, List.length_map]
  rcases hb : eqB ks (halvedV ms) with _ | _
  · refine decide_eq_false (fun hq => ?_)
    rw [hq] at hb
    rw [eqB_all rfl (fun i _ => (sameB_iff _ _).2 ⟨rfl, rfl⟩)] at hb
    cases hb
  · refine decide_eq_true (kn_eq hlen fun i hi => ?_)
    simp only [eqB, Bool.and_eq_true, List.all_eq_true] at hb
    have h1 := (sameB_iff _ _).1 (hb.2 i (List.mem_range.2 (by omega)))
    have m1 : (knth (halvedV ms) i).1 ∈ ms := halved_mem h (knth_mem hi)
    have m2 : (knth ks i).1 ∈ ms := hp.mem_iff.2 (List.mem_map_of_mem (knth_mem (by omega)))
    exact Prod.ext (hS _ m1 _ m2 h1.1.symm) h1.2.symm
theorem sortedI_marks {ds : List Sm} (h : SortedBy smid ds) : SortedBy idlt (smMarks ds) := by
  unfold SortedBy smMarks at *
  rw [List.pairwise_map]
  exact h

theorem run_copy_zero {P : Program} (w : World) (dT sT ty elem : TypeId) (d a : Option Addr) (size dCap sCap : Nat) (hu : P.underlying dT = some (.slice elem)) (hs : (P.info? elem).map (·.size) = some size) :
    (Builtin.copy_ #[dT, sT] ty #[.slice d 0 dCap, .slice a 0 sCap]).run P w = .ok (goInt 0) w := by
  cases hq : P.info? elem with
  | none => simp [hq] at hs
  | some i =>
    have hz : ∀ n : Nat, Nat.min 0 n = 0 := fun n => Nat.zero_min n
    cases a <;> cases d <;> simp [Builtin.copy_, run_underlying hu, Builtin.lenOf, Builtin.firstCells, sizeOf, typeInfo, hq, storeCells, loadCells, loadCellsFrom]

set_option maxRecDepth 100000 in
set_option maxHeartbeats 1000000 in
theorem iInOrder0 (ao : Option Addr) (cap : Nat) (fv : Value) (w : World) :
    Calls Try.prog 126 #[.slice ao 0 cap, fv] w fun e w' => e = .returned (.slice (some ⟨w.heap.size, 0, none⟩) 0 0) ∧ w' = w.alloc (.cells #[] 93) := by
  have hmk : ∀ w, (Instr.makeSlice 34 (.int .i64 0) (.int .i64 0)).run Try.prog w = .ok (.slice (some ⟨w.heap.size, 0, none⟩) 0 0) (w.alloc (.cells #[] 93)) := fun _ => by kernel_rfl
  have hcp := fun ty W d => run_copy_zero (P := Try.prog) W 34 34 ty 93 d ao 2 0 cap Try.underlying34 (by have := Try.info93; cases hq : Try.prog.info? 93 with | none => rw [hq] at this; cases this | some i => rw [hq] at this; simp at this; simp [this])
  have HC := hidP (fun p W => AnyF.slices_SortFunc_none Try.sortM p 0 fv W)
  go_enter Try.func126, Try.ntmps126
  go_wp2_with fail
  refine (HC.out _ _).mono ?_
  rintro e w1 ⟨rfl, hw1⟩
  rw [hw1]
  clear hw1 hcp hmk HC
  go_wp2_with fail
  go_ret
  exact ⟨rfl, rfl⟩

set_option maxRecDepth 100000 in
set_option maxHeartbeats 1000000 in
theorem iMarksIn0 (ao : Option Addr) (cap : Nat) (w : World) :
    Calls Try.prog 74 #[.slice ao 0 cap] w fun e w' => ∃ g, e = .returned (.slice (some ⟨g, 0, none⟩) 0 0) ∧ Below w.heap.size w w' := by
  have hmk : ∀ w, (Instr.makeSlice 34 (.int .i64 0) (.int .i64 0)).run Try.prog w = .ok (.slice (some ⟨w.heap.size, 0, none⟩) 0 0) (w.alloc (.cells #[] 93)) := fun _ => by kernel_rfl
  go_enter Try.func74, Try.ntmps74
  go_wp2
  clear hmk
  refine wp_loop_rounds 1 ?_
  rw [rounds_succ]
  go_wp2_with fail
  refine (iInOrder0 _ _ _ _).mono ?_
  rintro e w1 ⟨rfl, rfl⟩
  go_wp2_with fail
  go_ret
  exact ⟨_, rfl, ((Below.refl _ _).alloc (Nat.le_refl _) _).alloc (by simp) _⟩

set_option maxRecDepth 100000 in
set_option maxHeartbeats 1000000 in
theorem iKnotsOk (ao : Option Addr) (cap : Nat) (ks : List Kn) (w : World) (hv : KView w ao ks) (hsm : KSmall ks) :
    Calls Try.prog 17 #[.slice ao ks.length cap] w fun e w' => e = .returned (.bool (knotsB ks)) ∧ Below w.heap.size w w' := by
  rcases Nat.eq_zero_or_pos ks.length with h0 | h0
  · have e : ks = [] := List.length_eq_zero_iff.1 h0
    subst e
    have HV : Hid (knotsB [] = true) := rfl
    have HM := hidP (iMarksIn0 ao cap w)
    clear hv hsm h0
    go_enter Try.func17, Try.ntmps17
    go_wp2_with fail
    refine HM.out.mono ?_
    rintro e w1 ⟨g, rfl, L1⟩
    have HH := hidP (iHalved (some ⟨g, 0, none⟩) 0 [] w1 (Or.inl rfl) ⟨by simp, fun i => by simp [mat]⟩)
    have HL1 := hidP L1
    clear L1 HM
    go_wp2_with fail
    refine HH.out.mono ?_
    rintro e w2 ⟨v, rfl, hg, L2⟩
    obtain ⟨ao2, c2, rfl, _⟩ := hg.view
    have HL2 := hidP (chain HL1.out L2)
    have hz : (halvedV []).length = 0 := rfl
    clear hg L2 HL1 HH
    go_wp2_with fail
    refine (iEqual_nil _ _ _ _ _ _).mono ?_
    rintro e w3 ⟨rfl, rfl⟩
    go_wp2_with fail
    go_ret
    exact ⟨ret_bool HV.out.symm, HL2.out⟩
  · obtain ⟨ds, hds, hs5, hsl⟩ := hv.sview
    have hdl : ds.length = ks.length := by rw [← smMarks_length, hds, List.length_map]
    obtain ⟨b, off, e, hb, hseg⟩ : ∃ b off, ao = some ⟨b, off, none⟩ ∧ b < w.heap.size ∧ KSeg w b off ks := by
      rcases hv with h | h
      · rw [h] at h0; simp at h0
      · exact h
    subst e
    have hs5' : SSeg5 w b off ds := by
      obtain ⟨b', off', e, _, h⟩ := hs5.seg (by omega)
      injection e with e
      injection e with e1 e2
      subst e1 e2
      exact h
    have HM := hidP (iMarksIn b off cap ks ds w h0 hsm.1 hb hseg hs5' hdl)
    have HSEG := hidP hseg
    have HSL := hidP hsl
    have HDS := hidP hds
    have hn0 : ks.length ≠ 0 := by omega
    have hn1 := hsm.1
    have HSM := hidP hsm
    clear hv hs5 hs5' hseg hsl hds hsm
    go_enter Try.func17, Try.ntmps17
    go_wp2_with fail
    refine HM.out.mono ?_
    rintro e w1 ⟨g, ds', rfl, hp, hso, hsg, hg, L1⟩
    have hl' : ds'.length = ks.length := by rw [hp.length_eq, hdl]
    have hml : (smMarks ds').length = ks.length := by rw [smMarks_length, hl']
    have hpm : (smMarks ds').Perm (ks.map (·.1)) := by rw [← HDS.out]; exact hp.map smMark
    have hmv : MView w1 (some ⟨g, 0, none⟩) (smMarks ds') := SView.mview (Or.inr ⟨g, 0, rfl, hg, hsg⟩) ((HSL.out.sub (fun d hd => hp.mem_iff.1 hd)).below L1)
    have hms : MSmall (smMarks ds') := by
      refine ⟨by rw [hml]; exact HSM.out.1, fun i => ?_⟩
      rcases Nat.lt_or_ge i (smMarks ds').length with h | h
      · have h1 : (smMarks ds')[i] ∈ ks.map (·.1) := hpm.mem_iff.1 (List.getElem_mem h)
        obtain ⟨k, hk, e⟩ := List.mem_map.1 h1
        obtain ⟨j, hj, e2⟩ := List.getElem_of_mem hk
        have h2 := HSM.out.2 j
        have e3 : knth ks j = k := by rw [← e2]; simp [knth, List.getD, hj]
        rw [e3] at h2
        have e4 : mat (smMarks ds') i = k.1.2 := by simp only [mat, List.getD, List.getElem?_eq_getElem h, Option.getD_some]; rw [← e]
        rw [e4]; exact h2
      · simp [mat, List.getD, h]
    have HH := hidP (iHalved (some ⟨g, 0, none⟩) ks.length (smMarks ds') w1 hmv hms)
    rw [hml] at HH
    have HL1 := hidP L1
    have HOUT := hidP (knotsB_out hpm (sortedI_marks hso))
    have HSOME := hidP (knotsB_some hpm (sortedI_marks hso))
    have HLEN := hidP (halvedV_length (smMarks ds'))
    rw [hml] at HLEN
    have HNONE : Hid (marksB (smMarks ds') = false → halvedV (smMarks ds') = []) := fun h => by simp [halvedV, h]
    clear hp hso hsg hg L1 hl' hml hpm hmv hms HM HDS HSL
    generalize smMarks ds' = ms at *
    go_wp2_with fail
    refine HH.out.mono ?_
    rintro e w2 ⟨v, rfl, hgot, L2⟩
    obtain ⟨ao2, c2, rfl, hkv⟩ := hgot.view
    have HL2 := hidP (chain HL1.out L2)
    have HBK : Hid (KSeg w2 b off ks) := fun i hi => (HSEG.out i hi).below hb (chain HL1.out L2)
    have hb2 : b < w2.heap.size := Nat.lt_of_lt_of_le hb (chain HL1.out L2).size
    clear hgot L2 HL1 HSEG HH
    rcases hm : marksB ms with _ | _
    · have HV := hidP (HOUT.out hm)
      rw [HNONE.out hm]
      clear HOUT HSOME HLEN HNONE hkv
      go_wp2_with fail
      refine (iEqual_ne _ _ _ 0 _ _ _ _ hn0).mono ?_
      rintro e w3 ⟨rfl, hw3⟩
      rw [hw3]
      clear hw3
      go_wp2_with fail
      go_ret
      exact ⟨ret_bool HV.out.symm, HL2.out⟩
    · have HV := hidP (HSOME.out hm)
      have hl2 := HLEN.out hm
      obtain ⟨b2, o2, e2, hb3, hs2⟩ : ∃ b off, ao2 = some ⟨b, off, none⟩ ∧ b < w2.heap.size ∧ KSeg w2 b off (halvedV ms) := by
        rcases hkv with h | h
        · rw [h] at hl2; simp at hl2; omega
        · exact h
      subst e2
      have HE := hidP (iEqual b off cap b2 o2 c2 ks (halvedV ms) w2 hb2 hb3 HBK.out hs2 hl2.symm hn1)
      rw [hl2]
      clear HOUT HSOME HLEN HNONE hkv hs2 hl2
      go_wp2_with fail
      refine HE.out.mono ?_
      rintro e w3 ⟨rfl, L3⟩
      have HF := hidP (chain HL2.out L3)
      clear L3 HE HL2
      go_wp2_with fail
      go_ret
      exact ⟨ret_bool HV.out.symm, HF.out⟩

end Go.Proofs.Ythddhblmnfjciaa
namespace Go.Proofs.Ythddhblmnfjciaa
open Go Go.RowKit Go.BigFrame

set_option maxHeartbeats 400000 in
theorem sameS_ne (ao ao' : Option Addr) (n n' cap cap' : Nat) (w : World) (h : n ≠ n') :
    Calls Try.prog 70 #[.slice ao n cap, .slice ao' n' cap'] w fun e w' => e = .returned (.bool false) ∧ w' = w := by
  have hlb : ((n : Int) != (n' : Int)) = true := by simp; omega
  go_enter Try.func70, Try.ntmps70
  go_wp2
  go_ret
  exact ⟨rfl, rfl⟩

set_option maxHeartbeats 400000 in
theorem sameS_nil (ao ao' : Option Addr) (cap cap' : Nat) (w : World) :
    Calls Try.prog 70 #[.slice ao 0 cap, .slice ao' 0 cap'] w fun e w' => e = .returned (.bool true) ∧ w' = w := by
  go_enter Try.func70, Try.ntmps70
  go_wp2
  refine wp_loop_rounds 1 ?_
  rw [rounds_succ]
  go_wp2
  go_ret
  exact ⟨rfl, rfl⟩

set_option maxHeartbeats 400000 in
theorem sameS_seg (b off cap b' off' cap' : Nat) (xs ys : List Int) (w : World) (hs : Seg w b off xs) (hs' : Seg w b' off' ys) (hn : xs.length ≤ 1048576) (hl : xs.length = ys.length) :
    Calls Try.prog 70 #[.slice (some ⟨b, off, none⟩) xs.length cap, .slice (some ⟨b', off', none⟩) ys.length cap'] w fun e w' => e = .returned (.bool (decide (xs = ys))) ∧ ∃ n, w' = w.drewN n := by
  have hlb : ((xs.length : Int) != (ys.length : Int)) = false := by simp [hl]
  have HL : Hid (xs.length = ys.length) := hl
  have hn' : ys.length ≤ 1048576 := by omega
  clear hl
  go_enter Try.func70, Try.ntmps70
  go_wp2
  go_loopw [5] (fun i wr => ∃ k : Nat, k ≤ xs.length ∧ i = .int .i64 k ∧ (∀ j, j < k → nth xs j = nth ys j) ∧ ∃ n, wr = w.drewN n) (fun i _ => xs.length - (intOf i).toNat)
  case atStart => exact ⟨0, Nat.zero_le _, rfl, fun j hj => by omega, 0, rfl⟩
  case round =>
    obtain ⟨k, hk, rfl, hall, n, rfl⟩ := hrel
    have HA : Hid (∀ j, j < k → nth xs j = nth ys j) := hall
    clear hall
    by_cases hlt : k < xs.length
    · have hc := hs k hlt
      have hlt' : k < ys.length := by have := HL.out; omega
      have hc' := hs' k hlt'
      by_cases he : nth xs k = nth ys k
      · have heb : (nth xs k != nth ys k) = false := by simp [he]
        have HE : Hid (nth xs k = nth ys k) := he
        clear he
        go_wp2
        go_quiet (fail)
        go_wp2
        go_roundw
        case rel => exact ⟨k + 1, by omega, by go_num, fun j hj => by
          rcases Nat.lt_or_ge j k with h | h
          · exact HA.out j h
          · rw [show j = k by omega]; exact HE.out, _, rfl⟩
        case measure => simp [intOf]; omega
      · have heb : (nth xs k != nth ys k) = true := by simp [he]
        have HE : Hid (¬ nth xs k = nth ys k) := he
        clear he
        go_wp2
        go_quiet (fail)
        go_wp2
        go_ret
        exact ⟨ret_bool (Eq.symm (decide_eq_false (fun h => HE.out (by rw [h])))), n + nq, by simp⟩
    · go_wp2
      go_ret
      obtain rfl : k = xs.length := by omega
      exact ⟨ret_bool (Eq.symm (decide_eq_true (eq_of_nth HL.out HA.out))), _, rfl⟩

/-- eqInt64S: are two alike. -/
theorem sameS (ao ao' : Option Addr) (cap cap' : Nat) (xs ys : List Int) (w : World) (hv : View w ao xs) (hv' : View w ao' ys) (hn : xs.length ≤ 1048576) :
    Calls Try.prog 70 #[.slice ao xs.length cap, .slice ao' ys.length cap'] w fun e w' => e = .returned (.bool (decide (xs = ys))) ∧ ∃ n, w' = w.drewN n := by
  by_cases hl : xs.length = ys.length
  · rcases hv with rfl | ⟨b, off, rfl, _, hs⟩
    · obtain rfl : ys = [] := List.eq_nil_of_length_eq_zero (by simpa using hl.symm)
      refine (sameS_nil ao ao' cap cap' w).mono ?_
      rintro e w' ⟨rfl, rfl⟩
      exact ⟨rfl, 0, rfl⟩
    · rcases hv' with rfl | ⟨b', off', rfl, _, hs'⟩
      · obtain rfl : xs = [] := List.eq_nil_of_length_eq_zero (by simpa using hl)
        refine (sameS_nil _ ao' cap cap' w).mono ?_
        rintro e w' ⟨rfl, rfl⟩
        exact ⟨rfl, 0, rfl⟩
      · exact sameS_seg b off cap b' off' cap' xs ys w hs hs' hn hl
  · refine (sameS_ne ao ao' xs.length ys.length cap cap' w hl).mono ?_
    rintro e w' ⟨rfl, rfl⟩
    exact ⟨ret_bool (Eq.symm (decide_eq_false (fun h => hl (by rw [h])))), 0, rfl⟩

theorem sameB_no {k q : Kn} (h : ¬ (q.1.1 = k.1.1 ∧ q.2 = k.2)) : sameB k q = false := by
  rcases hb : sameB k q with _ | _
  · rfl
  · have := (sameB_iff _ _).1 hb
    exact absurd ⟨this.1.symm, this.2.symm⟩ h

theorem KAt.drewN {w : World} {b off : Nat} {k : Kn} (h : KAt w b off k) (n : Nat) : KAt (w.drewN n) b off k := by
  obtain ⟨h0, ⟨ao, cap, h1, hv⟩, h2, h3, h4⟩ := h
  exact ⟨h0, ⟨ao, cap, h1, hv.drewN n⟩, h2, h3, h4⟩

set_option maxRecDepth 100000 in
set_option maxHeartbeats 4000000 in
theorem sKnotsOk (ao : Option Addr) (cap : Nat) (ks : List Kn) (w : World) (hv : KView w ao ks) (hsm : KSmall ks) :
    Calls Try.prog 15 #[.slice ao ks.length cap] w fun e w' => e = .returned (.bool (knotsB ks)) ∧ Below w.heap.size w w' := by
  obtain ⟨ds, hds, hs5, hsl⟩ := hv.sview
  have hdl : ds.length = ks.length := by rw [← smMarks_length, hds, List.length_map]
  have HM := hidP (sMarksOf ao cap ds w hs5 (by have := hsm.1; omega))
  rw [hdl] at HM
  have hms : smMarks (sortBy smid ds) = knotMs ks := by rw [sortI_marks, hds]; rfl
  have hpm : (knotMs ks).Perm (ks.map (·.1)) := sortBy_perm idlt _
  have hml : (knotMs ks).length = ks.length := by rw [hpm.length_eq, List.length_map]
  have hmsm : MSmall (knotMs ks) := by
    refine ⟨by rw [hml]; exact hsm.1, fun i => ?_⟩
    rcases Nat.lt_or_ge i (knotMs ks).length with h | h
    · have h1 : (knotMs ks)[i] ∈ ks.map (·.1) := hpm.mem_iff.1 (List.getElem_mem h)
      obtain ⟨k, hk, e⟩ := List.mem_map.1 h1
      obtain ⟨j, hj, e2⟩ := List.getElem_of_mem hk
      have h2 := hsm.2 j
      have e3 : knth ks j = k := by rw [← e2]; simp [knth, List.getD, hj]
      rw [e3] at h2
      have e4 : mat (knotMs ks) i = k.1.2 := by simp only [mat, List.getD, List.getElem?_eq_getElem h, Option.getD_some]; rw [← e]
      rw [e4]; exact h2
    · simp [mat, List.getD, h]
  have HSL := hidP hsl
  have HMS := hidP hms
  have HPM := hidP hpm
  have HV := hidP hv
  have HSM := hidP hsm
  have HMM := hidP hmsm
  have hn1 := hsm.1
  clear hds hs5 hsl hms hpm hv hsm hmsm
  go_enter Try.func15, Try.ntmps15
  go_wp2_with fail
  refine HM.out.mono ?_
  rintro e w1 ⟨g, c, rfl, hr, L1⟩
  have hmv : MView w1 (some ⟨g, 0, none⟩) (knotMs ks) := by rw [← HMS.out]; exact hr.view (HSL.out.sub (fun d hd => (sortBy_perm _ _).mem_iff.1 hd)) L1
  have HC := hidP (sMarks (some ⟨g, 0, none⟩) c (knotMs ks) w1 hmv HMM.out)
  have HH := hidP (fun n => sHalved (some ⟨g, 0, none⟩) c (knotMs ks) (w1.drewN n) (hmv.drewN n) HMM.out)
  rw [hml] at HC HH
  have HL1 := hidP L1
  clear hr L1 hmv HM HSL HMS
  rcases hm : marksB (knotMs ks) with _ | _
  · have HN : Hid (knotsB ks = false) := by show knotsB ks = false; simp [knotsB, hm]
    rw [hm] at HC
    clear HH
    go_wp2_with fail
    refine HC.out.mono ?_
    rintro e w2 ⟨rfl, n2, hw2⟩
    rw [hw2]
    clear hw2
    go_wp2_with fail
    go_ret
    exact ⟨ret_bool HN.out.symm, below_drewN HL1.out n2⟩
  · have hS := marks_sole hm
    have HKB : Hid (knotsB ks = eqB ks (halvedV (knotMs ks))) := knotsB_some HPM.out (sortBy_sorted (parts_idlt (hS.perm HPM.out.symm)) _ (fun _ hy => hy)) hm
    have hxl : (halvedV (knotMs ks)).length = ks.length := by rw [halvedV_length _ hm, hml]
    have HAT : Hid (∀ i, i < ks.length → (knth ks i).1.1 = (knth (halvedV (knotMs ks)) i).1.1 → (knth ks i).1 = (knth (halvedV (knotMs ks)) i).1) := fun i hi e =>
      hS _ (HPM.out.mem_iff.2 (List.mem_map_of_mem (knth_mem hi))) _ (halved_mem hm (knth_mem (by omega))) e
    rw [hm] at HC
    clear hm hS hml HPM HMM
    generalize halvedV (knotMs ks) = xs at *
    go_wp2_with fail
    refine HC.out.mono ?_
    rintro e w2 ⟨rfl, n2, hw2⟩
    rw [hw2]
    clear hw2
    go_wp2_with fail
    refine (HH.out n2).mono ?_
    rintro e w3 ⟨v, rfl, hgot, L3⟩
    obtain ⟨ao2, c2, rfl, hkv⟩ := hgot.view
    have L03 : Below w.heap.size w w3 := (below_drewN HL1.out n2).trans (L3.mono HL1.out.size)
    have HL3 := hidP L03
    have HV3 := hidP (HV.out.next L03)
    have HKV := hidP hkv
    clear hgot L3 L03 hkv HL1 HH HC HV
    rw [hxl]
    rcases Nat.eq_zero_or_pos ks.length with h0 | h0
    · have HN : Hid (knotsB ks = true) := by rw [HKB.out]; exact eqB_all hxl.symm (fun i hi => by omega)
      rw [h0]
      go_wp2_with fail
      refine wp_loop_rounds 1 ?_
      rw [rounds_succ]
      go_wp2_with fail
      go_ret
      exact ⟨ret_bool HN.out.symm, HL3.out⟩
    · obtain ⟨b, off, e1, hb, hs⟩ : ∃ b off, ao = some ⟨b, off, none⟩ ∧ b < w3.heap.size ∧ KSeg w3 b off ks := by
        rcases HV3.out with h | h
        · rw [h] at h0; simp at h0
        · exact h
      obtain ⟨b2, o2, e2, hb2, hs2⟩ : ∃ b off, ao2 = some ⟨b, off, none⟩ ∧ b < w3.heap.size ∧ KSeg w3 b off xs := by
        rcases HKV.out with h | h
        · rw [h] at hxl; simp at hxl; omega
        · exact h
      subst e1 e2
      have HS := hidP (And.intro hs hs2)
      clear hs hs2 HKV HV3
      go_wp2_with fail
      go_loopw [5] (fun i wr => ∃ k : Nat, k ≤ ks.length ∧ i = .int .i64 k ∧ (∀ j, j < k → sameB (knth ks j) (knth xs j) = true) ∧ ∃ n, wr = w3.drewN n) (fun i _ => ks.length - (intOf i).toNat)
      case atStart => exact ⟨0, Nat.zero_le _, rfl, fun j hj => by omega, 0, rfl⟩
      case round =>
        obtain ⟨k, hk, rfl, hall, hw⟩ := hrel
        have HA := hidP hall
        have HW := hidP hw
        clear hall hw
        by_cases hlt : k < ks.length
        · obtain ⟨c0, ⟨ao1, ca1, c1, hv1⟩, c2, c3, c4⟩ : KAt wr b (off + k * 5) (knth ks k) := by obtain ⟨n, rfl⟩ := HW.out; exact (HS.out.1 k hlt).drewN n
          obtain ⟨d0, ⟨ao2, ca2, d1, hv2⟩, d2, d3, d4⟩ : KAt wr b2 (o2 + k * 5) (knth xs k) := by obtain ⟨n, rfl⟩ := HW.out; exact (HS.out.2 k (by omega)).drewN n
          have hi0 : (0 : Int) ≤ (k : Int) := Int.natCast_nonneg _
          have hi1 : (k : Int) < (ks.length : Int) := by omega
          have HN := hidP (fun h => eqB_out (xs := xs) hlt h)
          have HY : Hid (sameB (knth ks k) (knth xs k) = true → ∀ j, j < k + 1 → sameB (knth ks j) (knth xs j) = true) := fun h j hj => by
            rcases Nat.lt_or_ge j k with h1 | h1
            · exact HA.out j h1
            · obtain rfl : j = k := by omega
              exact h
          have HATk := hidP (HAT.out k hlt)
          have hnk := HSM.out.2 k
          generalize knth ks k = p at *
          generalize knth xs k = q at *
          by_cases h1 : q.2.1 = p.2.1
          · have e1 : (q.2.1 != p.2.1) = false := by simp [h1]
            by_cases h2 : q.2.2.1 = p.2.2.1
            · have e2 : (q.2.2.1 != p.2.2.1) = false := by simp [h2]
              by_cases h3 : q.2.2.2 = p.2.2.2
              · have e3 : (q.2.2.2 != p.2.2.2) = false := by simp [h3]
                by_cases h0 : q.1.1 = p.1.1
                · have e0 : (q.1.1 != p.1.1) = false := by simp [h0]
                  have HO := hidP (HY.out (by simp [sameB, h0, h1, h2, h3]))
                  have heq := HATk.out h0.symm
                  have HC : Hid (∀ n, Calls Try.prog 70 #[.slice ao2 q.1.2.length ca2, .slice ao1 p.1.2.length ca1] (wr.drewN n) fun e w'' => e = .returned (.bool true) ∧ ∃ m, w'' = wr.drewN m) := fun n =>
                    (sameS ao2 ao1 ca2 ca1 q.1.2 p.1.2 (wr.drewN n) (hv2.drewN n) (hv1.drewN n) (by rw [← heq]; exact hnk)).mono fun e w'' ⟨he, m, hm⟩ => ⟨by rw [he, heq]; simp, n + m, by rw [hm, World.drewN_drewN]⟩
                  clear HN HY HATk h0 h1 h2 h3 heq hv1 hv2
                  go_wp2_with fail
                  refine wp_region_quiet_lit (by kernel_rfl) (by kernel_rfl) ?_
                  simp only [List.append_eq, List.cons_append, List.nil_append]
                  repeat (go_big_quiet_step ((go_at_call 70; exact HC.out _)))
                  refine wpQuiet_nil ?_
                  intro _ hw'
                  obtain ⟨nq, hw''⟩ := hw'
                  subst hw''
                  go_wp2_with fail
                  go_roundw
                  case rel => exact ⟨k + 1, by omega, by go_num, HO.out, by obtain ⟨n, hn⟩ := HW.out; exact ⟨n + nq, by rw [hn]; simp⟩⟩
                  case measure => simp [intOf]; omega
                · have e0 : (q.1.1 != p.1.1) = true := by simp [h0]
                  have HO := hidP (HN.out (sameB_no fun h => h0 h.1))
                  clear HN HY HATk h0 h1 h2 h3 hv1 hv2
                  go_wp2_with fail
                  refine wp_region_quiet_lit (by kernel_rfl) (by kernel_rfl) ?_
                  simp only [List.append_eq, List.cons_append, List.nil_append]
                  repeat (go_big_quiet_step (fail))
                  refine wpQuiet_nil ?_
                  intro _ hw'
                  obtain ⟨nq, hw''⟩ := hw'
                  subst hw''
                  go_wp2_with fail
                  go_ret
                  exact ⟨ret_bool (HKB.out.trans HO.out).symm, by obtain ⟨n, hn⟩ := HW.out; rw [hn]; exact below_drewN (below_drewN HL3.out n) _⟩
              · have e3 : (q.2.2.2 != p.2.2.2) = true := by simp [h3]
                have HO := hidP (HN.out (sameB_no fun h => h3 (by rw [h.2])))
                clear HN HY HATk h1 h2 h3 hv1 hv2
                go_wp2_with fail
                refine wp_region_quiet_lit (by kernel_rfl) (by kernel_rfl) ?_
                simp only [List.append_eq, List.cons_append, List.nil_append]
                repeat (go_big_quiet_step (fail))
                refine wpQuiet_nil ?_
                intro _ hw'
                obtain ⟨nq, hw''⟩ := hw'
                subst hw''
                go_wp2_with fail
                go_ret
                exact ⟨ret_bool (HKB.out.trans HO.out).symm, by obtain ⟨n, hn⟩ := HW.out; rw [hn]; exact below_drewN (below_drewN HL3.out n) _⟩
            · have e2 : (q.2.2.1 != p.2.2.1) = true := by simp [h2]
              have HO := hidP (HN.out (sameB_no fun h => h2 (by rw [h.2])))
              clear HN HY HATk h1 h2 hv1 hv2
              go_wp2_with fail
              refine wp_region_quiet_lit (by kernel_rfl) (by kernel_rfl) ?_
              simp only [List.append_eq, List.cons_append, List.nil_append]
              repeat (go_big_quiet_step (fail))
              refine wpQuiet_nil ?_
              intro _ hw'
              obtain ⟨nq, hw''⟩ := hw'
              subst hw''
              go_wp2_with fail
              go_ret
              exact ⟨ret_bool (HKB.out.trans HO.out).symm, by obtain ⟨n, hn⟩ := HW.out; rw [hn]; exact below_drewN (below_drewN HL3.out n) _⟩
          · have e1 : (q.2.1 != p.2.1) = true := by simp [h1]
            have HO := hidP (HN.out (sameB_no fun h => h1 (by rw [h.2])))
            clear HN HY HATk h1 hv1 hv2
            go_wp2_with fail
            refine wp_region_quiet_lit (by kernel_rfl) (by kernel_rfl) ?_
            simp only [List.append_eq, List.cons_append, List.nil_append]
            repeat (go_big_quiet_step (fail))
            refine wpQuiet_nil ?_
            intro _ hw'
            obtain ⟨nq, hw''⟩ := hw'
            subst hw''
            go_wp2_with fail
            go_ret
            exact ⟨ret_bool (HKB.out.trans HO.out).symm, by obtain ⟨n, hn⟩ := HW.out; rw [hn]; exact below_drewN (below_drewN HL3.out n) _⟩
        · obtain rfl : k = ks.length := by omega
          have HO := hidP (eqB_all hxl.symm HA.out)
          have hlb : ((ks.length : Int) == (ks.length : Int)) = true := by simp
          clear HA
          go_wp2_with fail
          go_ret
          exact ⟨ret_bool (HKB.out.trans HO.out).symm, by obtain ⟨n, hn⟩ := HW.out; rw [hn]; exact below_drewN HL3.out n⟩

end Go.Proofs.Ythddhblmnfjciaa
