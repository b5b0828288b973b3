/-
  The program's InCell.
-/
import Derived.Test.YtodielfilhodeaaGreatGInCZz
import Derived.Test.YtodielfilhodeaaGreatNearZz
import Derived.Test.YtodielfilhodeaaGreatGIdsZz
namespace Go.Proofs.YtodielfilhodeaaGreat
open Go Go.RowKit

theorem idsL_sm (s : Int) (cell : List Int) (ds : List Sm) : idsL s cell (smMarks ds) = (ds.filter fun y => decide (cellS s y = cell)).map (·.1) := by
  unfold idsL smMarks
  rw [List.filter_map, List.map_map]
  rfl
/-- What the map of right marks has under a key. -/
theorem look_any {base B : Nat} {w : World} {gs : List Gp} {s : Int} {dim : Nat} {ds : List Sm} (hm : GMem base w B gs) (hk : GKeys s dim gs ds) (h4 : dim ≤ 4) {cell : List Int} (hi : I64s cell) (hl : ds = [] ∨ cell.length = dim) :
    ∃ va vc, (Instr.lookup 102 (.map (some B)) (keyV cell) false).run Tryz.prog w = .ok (.slice va (ds.filter fun y => decide (cellS s y = cell)).length vc) w ∧ SView w va (ds.filter fun y => decide (cellS s y = cell)) ∧ (∀ a, va = some a → base ≤ a.block) := by
  have hkey := keyOf_keyV cell hi
  have hlook := lookG_grp (cellS s) cell ds
  rw [← hk.grp] at hlook
  rcases Nat.lt_or_ge (atG cell (gs.map gpG)) gs.length with hj | hj
  · have hj2 : atG cell (gs.map gpG) < (gs.map gpG).length := by simpa using hj
    have hj3 : atG cell (gs.map gpG) < (gs.map gpV).length := by simpa using hj
    have e1 := atG_key cell (gs.map gpG) hj2
    unfold lookG at hlook
    rw [dif_pos hj2] at hlook
    simp only [List.getElem_map] at e1 hlook
    have hv : (gs.map gpV)[atG cell (gs.map gpG)] = (keyV cell, .slice (some ⟨gs[atG cell (gs.map gpG)].2.1, 0, none⟩) gs[atG cell (gs.map gpG)].2.2.2.length gs[atG cell (gs.map gpG)].2.2.1) := by
      rw [List.getElem_map]
      have e2 : gs[atG cell (gs.map gpG)].1 = cell := e1
      simp [gpV, e2]
    have hr := run_look_old hm.map hk.keysOk (hk.nodup h4) hj3 hkey (by rw [hv])
    rw [hv] at hr
    have hrow := hm.rows _ (List.getElem_mem hj)
    rw [← hlook]
    exact ⟨_, _, hr, hrow.sview, fun a ha => by injection ha with ha; rw [← ha]; exact hrow.lt.1⟩
  · have ha : atG cell (gs.map gpG) = gs.length := Nat.le_antisymm (by have := atG_le cell (gs.map gpG); simpa using this) hj
    have hno : ∀ g ∈ gs.map gpV, g.1 ≠ keyV cell := by
      rcases hl with h | h
      · have : gs = [] := by have e := hk.grp; rw [h, grpG_nil] at e; simpa using e
        rw [this]; simp
      · exact hk.not h4 h ha
    have hr := run_look_new hm.map hk.keysOk hkey hno
    have e : lookG cell (gs.map gpG) = [] := by unfold lookG; rw [dif_neg (by simp; omega)]
    rw [e] at hlook
    rw [← hlook]
    exact ⟨none, 0, hr, Or.inl rfl, fun a ha => by cases ha⟩

set_option maxRecDepth 100000 in
set_option maxHeartbeats 2000000 in
theorem iInCell (ao qa : Option Addr) (cap qc : Nat) (s : Int) (ms : List Mk) (cell : List Int) (w : World) (hv : MView w ao ms) (hsm : MSmall ms) (hq : View w qa cell) (hi : I64s cell) :
    Calls Tryz.prog 31 #[.agg #[.int .i64 s, .slice ao ms.length cap], .slice qa cell.length qc] w fun e w' => ∃ a1 c1, e = .returned (.slice a1 (inCellL s ms cell).length c1) ∧ IOut w.heap.size w' (.slice a1 (inCellL s ms cell).length c1) (inCellL s ms cell) ∧ Below w.heap.size w w' := by
  obtain ⟨W1, hW1⟩ : ∃ W, W = w.alloc (.cells #[.int .i64 s, .slice ao ms.length cap] 46) := ⟨_, rfl⟩
  have T1 : Two W1 w.heap.size (.int .i64 s) (.slice ao ms.length cap) 46 := by rw [hW1]; exact Two.new w _ _ _
  have M1 : Below w.heap.size w W1 := by rw [hW1]; exact alloc_below w _
  have c0 := T1.c0
  have c1 := T1.c1
  have HG := hidP (iGrid ao cap s ms W1 (hv.next M1) hsm)
  rcases hgd : gridB s ms with _ | _
  · have HV : Hid (inCellL s ms cell = []) := by show inCellL s ms cell = []; simp [inCellL, hgd]
    rw [hgd] at HG
    rw [HV.out]
    have HP := hidP M1
    clear hv hq T1 M1
    subst hW1
    go_enter Tryz.func31, Tryz.ntmps31
    go_wp2_with fail
    refine HG.out.mono ?_
    rintro e w3 ⟨rfl, L3⟩
    have HQ := hidP (chain HP.out L3)
    clear L3
    go_wp2_with fail
    go_ret
    exact ⟨none, 0, rfl, Or.inl ⟨rfl, rfl⟩, HQ.out⟩
  · rw [hgd] at HG
    have hgd' : gsideB s = true ∧ marksB ms = true := by simpa [gridB] using hgd
    obtain ⟨hs1, hs2⟩ := (gsideB_iff s).1 hgd'.1
    have hok := gmarks hgd'.2
    have hl60 := marksB_len hgd'.2
    have HLG := hidP (fun w2 (L : Below w.heap.size w w2) => iLong ao qa cap qc cell.length ms w2 (hv.next L))
    have HTM := hidP (And.intro T1 M1)
    rcases hlg : longB ms cell.length with _ | _
    · have HV : Hid (inCellL s ms cell = []) := by
        show inCellL s ms cell = []
        rw [inCellL, if_pos hgd]
        unfold idsL
        have : ms.filter (fun m => decide (cellV m.2 s = cell)) = [] := by
          rw [List.filter_eq_nil_iff]
          intro m hm
          have h1 := (hok m hm).2
          simp only [longB, Bool.or_eq_false_iff, decide_eq_false_iff_not] at hlg
          intro e
          have e2 : cellV m.2 s = cell := by simpa using e
          have := congrArg List.length e2
          rw [cellV_length] at this
          omega
        rw [this]; rfl
      rw [hlg] at HLG
      rw [HV.out]
      clear hv hq T1 M1 hok hgd
      subst hW1
      go_enter Tryz.func31, Tryz.ntmps31
      go_wp2_with fail
      refine HG.out.mono ?_
      rintro e w3 ⟨rfl, L3⟩
      have T3 := HTM.out.1.below L3
      have d1 := T3.c1
      have HQ := hidP (chain HTM.out.2 L3)
      have HL := hidP (HLG.out w3 HQ.out)
      clear L3 T3
      go_wp2_with fail
      refine HL.out.mono ?_
      rintro e w4 ⟨rfl, rfl⟩
      go_wp2_with fail
      go_ret
      exact ⟨none, 0, rfl, Or.inl ⟨rfl, rfl⟩, HQ.out⟩
    · rw [hlg] at HLG
      obtain ⟨ds, hds, hsv, hsl⟩ := hv.sview
      have hdl : ds.length = ms.length := by rw [← hds, smMarks_length]
      have hdim : (mat ms 0).length ≤ 4 := by
        rcases Nat.eq_zero_or_pos ms.length with h | h
        · have : ms = [] := List.length_eq_zero_iff.1 h
          rw [this]; simp [mat]
        · have h1 := (hok ms[0] (List.getElem_mem h)).1
          have e : mat ms 0 = ms[0].2 := by simp [mat, List.getD, h]
          rw [e]; exact (okB_len h1).2
      have hdok : ∀ d ∈ ds, okB d.2.2.2 = true ∧ d.2.2.2.length = (mat ms 0).length := fun d hd => hok (smMark d) (by rw [← hds]; exact List.mem_map_of_mem hd)
      have hlen : ds = [] ∨ cell.length = (mat ms 0).length := by
        simp only [longB, Bool.or_eq_true, decide_eq_true_eq] at hlg
        rcases hlg with h | h
        · exact Or.inl (List.length_eq_zero_iff.1 (by omega))
        · exact Or.inr h.symm
      have HOF : Hid (∀ w2, Below w.heap.size w w2 → Calls Tryz.prog 79 #[.agg #[.int .i64 s, .slice ao ms.length cap]] w2 fun e w' => ∃ gs, e = .returned (.map (some (w2.heap.size + 1))) ∧ GMem (w2.heap.size + 2) w' (w2.heap.size + 1) gs ∧ GKeys s (mat ms 0).length gs ds ∧ Below w2.heap.size w2 w') := fun w2 L => by
        have h := iCellsOf ao cap s ds (mat ms 0).length w2 (hsv.next L) (hsl.below L) hs1 hs2 (by omega) hdim hdok
        rwa [hdl] at h
      have HKO := hidP (fun w2 (L : Below w.heap.size w w2) => iKeyOf qa qc cell w2 (hq.next L))
      have HV : Hid (inCellL s ms cell = (ds.filter fun y => decide (cellS s y = cell)).map (·.1)) := by show inCellL s ms cell = _; rw [inCellL, if_pos hgd, ← idsL_sm, hds]
      have hfl : (ds.filter fun y => decide (cellS s y = cell)).length ≤ 60 := by have := List.length_filter_le (fun y => decide (cellS s y = cell)) ds; omega
      have HLK : Hid (∀ (W : World) base B gs, GMem base W B gs → GKeys s (mat ms 0).length gs ds → ∃ va vc, (Instr.lookup 102 (.map (some B)) (keyV cell) false).run Tryz.prog W = .ok (.slice va (ds.filter fun y => decide (cellS s y = cell)).length vc) W ∧ SView W va (ds.filter fun y => decide (cellS s y = cell)) ∧ (∀ a, va = some a → base ≤ a.block)) :=
        fun W base B gs hm hk => look_any hm hk hdim hi hlen
      obtain ⟨i0, hi0, hz0, hz1', hz2⟩ := info_parts Tryz.info2
      rw [HV.out]
      clear hv hq T1 M1 hok hgd hsv hsl hds hdok hlen HV
      generalize (ds.filter fun y => decide (cellS s y = cell)) = es at *
      subst hW1
      go_enter Tryz.func31, Tryz.ntmps31
      go_wp2_with fail
      refine HG.out.mono ?_
      rintro e w3 ⟨rfl, L3⟩
      have T3 := HTM.out.1.below L3
      have d1 := T3.c1
      have HQ := hidP (chain HTM.out.2 L3)
      have HL := hidP (HLG.out w3 HQ.out)
      have HT3 := hidP T3
      clear L3 T3
      go_wp2_with fail
      refine HL.out.mono ?_
      rintro e w4 ⟨rfl, hw4⟩
      subst hw4
      have e0 := HT3.out.c0
      have e1 := HT3.out.c1
      have HOF5 := hidP (HOF.out w4 HQ.out)
      clear d1 c0 c1 HG HL HLG HTM HOF HT3
      go_wp2_with fail
      refine HOF5.out.mono ?_
      rintro e w6 ⟨gs, rfl, hgm, hgk, L6⟩
      have L06 := chain HQ.out L6
      have HK6 := hidP (HKO.out w6 L06)
      have HGM := hidP (And.intro hgm hgk)
      have HP6 := hidP L06
      clear hgm hgk L6 L06 e0 e1 HOF5 HKO
      go_wp2_with fail
      refine HK6.out.mono ?_
      rintro e w7 ⟨rfl, L7⟩
      obtain ⟨va, vc, hlk, hsv, hva⟩ := HLK.out w7 _ _ gs (HGM.out.1.below L7) HGM.out.2
      have HP7 := hidP (chain HP6.out L7)
      have HSV := hidP hsv
      clear L7 HLK HGM HP6 HK6 hsv hva
      simp only [keyV] at hlk ⊢
      go_wp2_with fail
      clear hlk
      refine (gIds va vc es _ (by omega) HSV.out).mono ?_
      rintro e w8 ⟨g, rfl, hg, ho, L8⟩
      have HO := hidP (And.intro ho (And.intro hg L8))
      clear ho hg L8
      go_wp2_with fail
      go_ret
      have hz7 := HP7.out.size
      have hR := Own.irow HO.out.1 (base := w.heap.size) (by have := HO.out.2.1; omega) (by rw [List.length_map]; unfold maxLen; omega)
      rw [List.length_map] at hR
      refine ⟨some ⟨g, 0, none⟩, es.length, by rw [List.length_map]; rfl, Or.inr ⟨g, es.length, rfl, hR⟩, chain HP7.out HO.out.2.2⟩

end Go.Proofs.YtodielfilhodeaaGreat
