/-
  FnExactCells holds: for every grid the program's Cells answers as the given one, in new memory, each list its own, and leaves its argument alone; no condition.
-/
import Derived.Test.YthddhblmnfjciaaGKeepZz
namespace Go.Proofs.Ythddhblmnfjciaa.fnExactCells
open Go.ChangeShapes Go.WideShapes Go.ChangeAt Go.RowKit
set_option linter.unusedVariables false

theorem own : ownKnob Try.prog.godebug = none := by kernel_rfl
theorem laidOut : laidOutB Try.prog = true := by kernel_rfl

set_option maxRecDepth 100000 in
set_option maxHeartbeats 4000000 in
theorem walk (ao0 : Option Addr) (cap0 : Nat) (s0 : Int) (ms0 : List Mk) (w : World) (hv0 : MView w ao0 ms0) (hn0 : ms0.length ≤ maxLen) (hat0 : ∀ i, (mat ms0 i).length ≤ maxLen) :
    Calls Try.prog 10 #[.agg #[.int .i64 s0, .slice ao0 ms0.length cap0]] w fun e w' => e = .returned (.bool true) ∧ Below w.heap.size w w' := by
  obtain ⟨W0, hW0⟩ : ∃ W, W = w.alloc (.cells #[.int .i64 s0, .slice ao0 ms0.length cap0] 57) := ⟨_, rfl⟩
  have T0 : Two W0 w.heap.size (.int .i64 s0) (.slice ao0 ms0.length cap0) 57 := by rw [hW0]; exact Two.new w _ _ _
  have L0 : Below w.heap.size w W0 := by rw [hW0]; exact alloc_below w _
  have HSZ := hidP (szG ao0 cap0 s0 ms0 W0 (hv0.next L0) hn0 hat0)
  have HT0 := hidP (And.intro T0 L0)
  clear T0 L0
  subst hW0
  go_enter Try.func10, Try.ntmps10
  go_wp2_with fail
  refine HSZ.out.mono ?_
  rintro e w1 ⟨r, rfl, hr, L1⟩
  have T1 := HT0.out.1.below L1
  replace L1 := chain HT0.out.2 L1
  clear HSZ HT0
  by_cases hneg : r < 0
  · go_wp2_with fail
    go_ret
    exact ⟨rfl, L1⟩
  · have hsm : MSmall ms0 := by rcases hr with h | h; exact absurd h hneg; exact h
    clear hr
    obtain ⟨R, hR⟩ : ∃ R, R = cellsL s0 ms0 := ⟨_, rfl⟩
    have hRs : R.length ≤ 60 ∧ ∀ l ∈ R, l.length ≤ 4 := by rw [hR]; exact cellsL_small s0 ms0
    have hRl : R.length ≤ 1048576 := by have := hRs.1; omega
    have HRM : Hid (∀ l ∈ R, l.length ≤ 1048576) := fun l hl => by have := hRs.2 l hl; omega
    have HRS := hidP hRs
    have HS : Hid (∀ ao cap (w : World), MView w ao ms0 → Calls Try.prog 45 #[.agg #[.int .i64 s0, .slice ao ms0.length cap]] w fun e w' => ∃ g c rs, e = .returned (.slice (some ⟨g, 0, none⟩) R.length c) ∧ nums rs = R ∧ LMem w.heap.size w' g c rs ∧ Below w.heap.size w w') := fun ao cap w hv =>
      (sCells ao cap s0 ms0 w hv hsm).mono fun e w' ⟨g, c, rs, he, h1, h2, h3⟩ => ⟨g, c, rs, by rw [he, (nums_small (h1.trans hR.symm) hRs).1], h1.trans hR.symm, h2, h3⟩
    have HI : Hid (∀ ao cap (w : World), MView w ao ms0 → Calls Try.prog 47 #[.agg #[.int .i64 s0, .slice ao ms0.length cap]] w fun e w' => ∃ ag c rs, e = .returned (.slice ag R.length c) ∧ nums rs = R ∧ LOut w.heap.size w' ag c rs ∧ Below w.heap.size w w') := fun ao cap w hv =>
      (iCells ao cap s0 ms0 w hv hsm).mono fun e w' h => by
        rcases h with ⟨he, h1, h3⟩ | ⟨g, c, rs, he, h1, h2, h3⟩
        · have hz : R = [] := by rw [hR, h1]
          exact ⟨none, 0, [], by rw [he, hz]; rfl, by rw [hz]; rfl, Or.inl ⟨rfl, rfl, rfl⟩, h3⟩
        · exact ⟨some ⟨g, 0, none⟩, c, rs, by rw [he, (nums_small (h1.trans hR.symm) hRs).1], h1.trans hR.symm, Or.inr ⟨g, rfl, h2⟩, h3⟩
    clear hR hRs
    have a0 := T1.c0
    have a1 := T1.c1
    go_wp2_with fail
    refine (toG ao0 cap0 s0 ms0 _ (hv0.next L1) hsm).mono ?_
    rintro e w3 ⟨b2, rfl, p2, hb2, L3⟩
    have T3 := T1.below L3
    replace L3 := chain L1 L3
    clear L1 a0 a1 T1
    have HC := hidP (HS.out (some ⟨b2, 0, none⟩) ms0.length w3 p2.view)
    go_wp2_with fail
    refine HC.out.mono ?_
    rintro e w4 ⟨gw, cw, rw, rfl, nw, pw, L4⟩
    have T4 := T3.below L4
    replace pw := pw.mono L3.size
    replace L4 := chain L3 L4
    clear L3 p2 HC hb2 T3
    have a0 := T4.c0
    have a1 := T4.c1
    have hAl := T4.lt
    go_wp2_with fail
    refine (toG ao0 cap0 s0 ms0 _ (hv0.next L4) hsm).mono ?_
    rintro e v5 ⟨bx, rfl, px, hbx, L5⟩
    have hgx : ∀ i, (i = gw ∨ ∃ r ∈ rw, i = r.1) → i < bx := fun i hi => Nat.lt_of_lt_of_le (pw.all i hi).2 hbx
    have hwx : w.heap.size < bx := Nat.lt_of_lt_of_le hAl hbx
    have T5 := T4.below L5
    replace pw := pw.below L5
    replace L5 := chain L4 L5
    clear L4 hbx a0 a1 T4 hAl
    have po := px.over
    obtain ⟨w5, hw5⟩ : ∃ W, W = v5.alloc (.cells #[.int .i64 s0, .slice (some ⟨bx, 0, none⟩) ms0.length ms0.length] 62) := ⟨_, rfl⟩
    have A5 : Below v5.heap.size v5 w5 := by rw [hw5]; exact alloc_below v5 _
    have X5 : Two w5 v5.heap.size (.int .i64 s0) (.slice (some ⟨bx, 0, none⟩) ms0.length ms0.length) 62 := by rw [hw5]; exact Two.new v5 _ _ _
    replace T5 := T5.below A5
    replace pw := pw.below A5
    replace px := px.below (Nat.le_refl _) A5
    replace po := po.below (Nat.le_refl _) A5
    replace L5 := chain L5 A5
    have hv5 := A5.size
    have hbx5 : bx < v5.heap.size := po.2.1
    have HC := hidP (HI.out (some ⟨bx, 0, none⟩) ms0.length w5 px.view)
    have HGX := hidP hgx
    clear A5 hgx
    obtain ⟨w6, hw6⟩ : ∃ W, W = w5 := ⟨_, rfl⟩
    have x0 := X5.c0
    have x1 := X5.c1
    have HP5 := hidP (And.intro pw (And.intro px (And.intro po (And.intro T5 (And.intro X5 L5)))))
    clear pw px po T5 X5 L5
    have h56 : v5.heap.size ≤ w6.heap.size := by rw [hw6]; exact hv5
    rw [← hw6] at HC HP5 x0 x1
    have hw65 : w6 = v5.alloc (.cells #[.int .i64 s0, .slice (some ⟨bx, 0, none⟩) ms0.length ms0.length] 62) := hw6.trans hw5
    clear hw6 hw5 hv5
    subst hw65
    go_wp2_with fail
    refine HC.out.mono ?_
    rintro e w7 ⟨ag, cg, rg, rfl, ng, pu, L7⟩
    obtain ⟨w6, hw6⟩ : ∃ W, W = v5.alloc (.cells #[.int .i64 s0, .slice (some ⟨bx, 0, none⟩) ms0.length ms0.length] 62) := ⟨_, rfl⟩
    rw [← hw6] at pu L7 HP5 h56
    have h06 := HP5.out.2.2.2.2.2.size
    have P7 : Hid (w6.heap.size ≤ w7.heap.size ∧ LMem w.heap.size w7 gw cw rw ∧ MPart w7 bx ms0.length ms0.length ms0 ∧ MOver w7 bx v5.heap.size ms0 ∧ LOut w6.heap.size w7 ag cg rg ∧ Two w7 w.heap.size (.int .i64 s0) (.slice ao0 ms0.length cap0) 57 ∧ Two w7 v5.heap.size (.int .i64 s0) (.slice (some ⟨bx, 0, none⟩) ms0.length ms0.length) 62) :=
      ⟨L7.size, HP5.out.1.below L7, HP5.out.2.1.below (Nat.le_refl _) L7, HP5.out.2.2.1.below h56 L7, pu, HP5.out.2.2.2.1.below L7, HP5.out.2.2.2.2.1.below L7⟩
    have STP : Hid (∀ wa wb, Below wa.heap.size wa wb → (w6.heap.size ≤ wa.heap.size ∧ LMem w.heap.size wa gw cw rw ∧ MPart wa bx ms0.length ms0.length ms0 ∧ MOver wa bx v5.heap.size ms0 ∧ LOut w6.heap.size wa ag cg rg ∧ Two wa w.heap.size (.int .i64 s0) (.slice ao0 ms0.length cap0) 57 ∧ Two wa v5.heap.size (.int .i64 s0) (.slice (some ⟨bx, 0, none⟩) ms0.length ms0.length) 62) → (w6.heap.size ≤ wb.heap.size ∧ LMem w.heap.size wb gw cw rw ∧ MPart wb bx ms0.length ms0.length ms0 ∧ MOver wb bx v5.heap.size ms0 ∧ LOut w6.heap.size wb ag cg rg ∧ Two wb w.heap.size (.int .i64 s0) (.slice ao0 ms0.length cap0) 57 ∧ Two wb v5.heap.size (.int .i64 s0) (.slice (some ⟨bx, 0, none⟩) ms0.length ms0.length) 62)) :=
      fun wa wb hab h => ⟨Nat.le_trans h.1 hab.size, h.2.1.below hab, h.2.2.1.below (Nat.le_refl _) hab, h.2.2.2.1.below (Nat.le_trans h56 h.1) hab, h.2.2.2.2.1.below hab, h.2.2.2.2.2.1.below hab, h.2.2.2.2.2.2.below hab⟩
    replace L7 := chain HP5.out.2.2.2.2.2 L7
    clear pu HC x0 x1 HP5 hw6
    have Vw := hidP P7.out.2.1.view
    have Vg := hidP P7.out.2.2.2.2.1.view
    rw [nw] at Vw
    rw [ng] at Vg
    go_wp2_with fail
    refine (eqSS _ _ _ _ R _ Vg.out Vw.out hRl HRM.out).mono ?_
    rintro e w8 ⟨rfl, n8, hw8⟩
    have L8 : Below w7.heap.size w7 w8 := by rw [hw8]; exact below_drewN (Below.refl _ _) n8
    have P8 := hidP (STP.out _ _ L8 P7.out)
    replace L8 := chain L7 L8
    clear L7 P7 hw8 Vw Vg
    have HTG := hidP (toG ao0 cap0 s0 ms0 w8.drew ((hv0.next L8).drewN 1) hsm)
    have HEQ : Hid (∀ W b9, MPart W b9 ms0.length ms0.length ms0 → Below w8.drew.heap.size w8.drew W → Calls Try.prog 49 #[.agg #[.int .i64 s0, .slice (some ⟨bx, 0, none⟩) ms0.length ms0.length], .agg #[.int .i64 s0, .slice (some ⟨b9, 0, none⟩) ms0.length ms0.length]] W fun e w' => e = .returned (.bool true) ∧ Below W.heap.size W w') := fun W b9 hp hL =>
      eqGd _ _ _ _ s0 ms0 W (MView.next (P8.out.2.2.1.view) (Below.trans ((Below.refl w8.heap.size w8).drew) hL)) hp.view hsm
    have a0 := P8.out.2.2.2.2.2.1.c0
    have a1 := P8.out.2.2.2.2.2.1.c1
    have x0 := P8.out.2.2.2.2.2.2.c0
    have x1 := P8.out.2.2.2.2.2.2.c1
    have hAl := P8.out.2.2.2.2.2.1.lt
    have hXl := P8.out.2.2.2.2.2.2.lt
    have KEEP : Hid (∀ W, Below w8.drew.heap.size w8.drew W → W.cell? ⟨w.heap.size, 0, none⟩ = some (.int .i64 s0) ∧ W.cell? ⟨w.heap.size, 1, none⟩ = some (.slice ao0 ms0.length cap0) ∧ W.cell? ⟨v5.heap.size, 0, none⟩ = some (.int .i64 s0) ∧ W.cell? ⟨v5.heap.size, 1, none⟩ = some (.slice (some ⟨bx, 0, none⟩) ms0.length ms0.length)) :=
      fun W hL => ⟨(hL.cell (p := ⟨w.heap.size, 0, none⟩) hAl).trans a0, (hL.cell (p := ⟨w.heap.size, 1, none⟩) hAl).trans a1, (hL.cell (p := ⟨v5.heap.size, 0, none⟩) hXl).trans x0, (hL.cell (p := ⟨v5.heap.size, 1, none⟩) hXl).trans x1⟩
    go_wp2_with fail
    go_region_held3 (fun w' => w'.cell? ⟨w.heap.size, 0, none⟩ = some (.int .i64 s0) ∧ w'.cell? ⟨w.heap.size, 1, none⟩ = some (.slice ao0 ms0.length cap0) ∧ w'.cell? ⟨v5.heap.size, 0, none⟩ = some (.int .i64 s0) ∧ w'.cell? ⟨v5.heap.size, 1, none⟩ = some (.slice (some ⟨bx, 0, none⟩) ms0.length ms0.length))
      (first
        | go_keep
        | exact KEEP.out _ L9
        | exact KEEP.out _ (chain L9 La))
      (first
        | (go_at_call 46; refine HTG.out.mono ?_; rintro e w9 ⟨b9, rfl, p9, hb9, L9⟩)
        | (go_at_call 49; refine (HEQ.out _ b9 p9 L9).mono ?_; rintro e wa ⟨rfl, La⟩))
    have L8a : Below w8.heap.size w8 wa := Below.trans ((Below.refl w8.heap.size w8).drew) (chain L9 La)
    have Pc := hidP (STP.out _ _ L8a P8.out)
    have Lc := chain L8 L8a
    clear La L8 P8 p9 hb9 L9 L8a a0 a1 x0 x1 HTG HEQ KEEP
    simp only [Exit.then]
    have hc5 : v5.heap.size ≤ wa.heap.size := Nat.le_trans h56 Pc.out.1
    have x0 := Pc.out.2.2.2.2.2.2.c0
    have x1 := Pc.out.2.2.2.2.2.2.c1
    go_wp2_with fail
    refine (markGd bx v5.heap.size ms0.length 1 s0 ms0 wa Pc.out.2.2.2.1 hc5 hsm (by omega) (by omega)).mono ?_
    rintro e wd ⟨⟨k1, hk1, hk2, rfl⟩, gd⟩
    have Pd : Hid (w6.heap.size ≤ wd.heap.size ∧ LMem w.heap.size wd gw cw rw ∧ LOut w6.heap.size wd ag cg rg ∧ Two wd w.heap.size (.int .i64 s0) (.slice ao0 ms0.length cap0) 57) :=
      ⟨Nat.le_trans Pc.out.1 gd.2.2.2.1, Pc.out.2.1.same (fun i hi => gd.2.2.2.2 i (Pc.out.2.1.all i hi).2 (Or.inl (HGX.out i hi))), Pc.out.2.2.2.2.1.same (fun i h1 h2 => gd.2.2.2.2 i h2 (Or.inr (by omega))), (gd.2.2.2.2 _ Pc.out.2.2.2.2.2.1.lt (Or.inl hwx)).trans Pc.out.2.2.2.2.2.1⟩
    have Ld := below_gin Lc gd (Nat.le_of_lt hwx)
    clear Pc Lc gd x0 x1
    have hk0 : ¬ (k1 < 0) := by omega
    have Vw := hidP Pd.out.2.1.view
    have Vg := hidP Pd.out.2.2.1.view
    rw [nw] at Vw
    rw [ng] at Vg
    go_wp2_with fail
    refine (eqSS _ _ _ _ R _ Vg.out Vw.out hRl HRM.out).mono ?_
    rintro e wf ⟨rfl, nf, hwf⟩
    have Lf : Below wd.heap.size wd wf := by rw [hwf]; exact below_drewN (Below.refl _ _) nf
    have Pf : Hid (w6.heap.size ≤ wf.heap.size ∧ LMem w.heap.size wf gw cw rw ∧ LOut w6.heap.size wf ag cg rg ∧ Two wf w.heap.size (.int .i64 s0) (.slice ao0 ms0.length cap0) 57) := ⟨Nat.le_trans Pd.out.1 Lf.size, Pd.out.2.1.below Lf, Pd.out.2.2.1.below Lf, Pd.out.2.2.2.below Lf⟩
    replace Lf := chain Ld Lf
    clear Ld Pd hwf Vw Vg
    obtain ⟨hgl, hg60, hg4⟩ := nums_small ng HRS.out
    have HMK := hidP (markOL w6.heap.size cg ag rg wf Pf.out.2.2.1 hg60 hg4)
    rw [hgl] at HMK
    go_wp2_with fail
    refine HMK.out.mono ?_
    rintro e wg ⟨rfl, og, q1, q2, q3, q4, q5⟩
    have Lfg : Below w6.heap.size wf wg := ⟨q1, q2, q3, q4, fun i hi => q5 i (Nat.lt_of_lt_of_le hi Pf.out.1) hi⟩
    have Pg := hidP (Pf.out.2.1.same (fun i hi => q5 i (Pf.out.2.1.all i hi).2 (by have := HGX.out i hi; omega)))
    have Tg : Two wg w.heap.size (.int .i64 s0) (.slice ao0 ms0.length cap0) 57 := (q5 _ Pf.out.2.2.2.lt (by omega)).trans Pf.out.2.2.2
    have Lg := Lf.trans (Lfg.mono h06)
    have HV := hidP og
    have htl := totR_le rg 60 4 hg60 hg4
    clear Lf Pf og q1 q2 q3 q4 q5 Lfg HMK
    have HH := hidP (fun W hv => heldSS ag cg rg 1 W hv hg60 hg4 (by omega) (by omega))
    rw [hgl] at HH
    have hq0 : ¬ ((1 : Int) + totR rg < 0) := by omega
    have hqq : (((1 : Int) + totR rg) != (1 + totR rg)) = false := by simp
    have HH1 := hidP (HH.out wg HV.out)
    go_wp2_with fail
    refine HH1.out.mono ?_
    rintro e wh ⟨rfl, hwh⟩
    subst wh
    have a0 := Tg.c0
    have a1 := Tg.c1
    go_wp2_with fail
    refine (toG ao0 cap0 s0 ms0 _ (hv0.next Lg) hsm).mono ?_
    rintro e wi ⟨bi, rfl, pi, hbi, Li⟩
    have Vi := hidP (HV.out.next Li)
    have Pi := hidP (Pg.out.below Li)
    replace Li := chain Lg Li
    clear Lg HV Pg Tg a0 a1 HH1
    have HC := hidP (HI.out (some ⟨bi, 0, none⟩) ms0.length wi pi.view)
    go_wp2_with fail
    refine HC.out.mono ?_
    rintro e wk ⟨ah, ch, rh, rfl, nh, po, Lk⟩
    have Vk := hidP (Vi.out.next Lk)
    have Vw := hidP (Pi.out.below Lk).view
    have Vh := hidP po.view
    rw [nw] at Vw
    rw [nh] at Vh
    replace Lk := chain Li Lk
    clear Li Vi Pi HC pi po
    go_wp2_with fail
    refine (eqSS _ _ _ _ R _ Vh.out Vw.out hRl HRM.out).mono ?_
    rintro e wl ⟨rfl, nl, hwl⟩
    have Ll : Below wk.heap.size wk wl := by rw [hwl]; exact below_drewN (Below.refl _ _) nl
    have HH2 := hidP (HH.out wl (Vk.out.next Ll))
    replace Ll := chain Lk Ll
    clear Lk Vk Vw Vh hwl
    go_wp2_with fail
    refine HH2.out.mono ?_
    rintro e wm ⟨rfl, hwm⟩
    subst wm
    go_wp2_with fail
    go_ret
    exact ⟨rfl, Ll⟩

set_option maxRecDepth 100000 in
theorem lifted (os : Os) (started : os.Started) (H : Type) (enc : TypeId × Value → H) :
    ReturnsInHanded {} Try.checked os 10 .any (Rows.fnExactCellsSpec.pre6 enc Try.prog Try.f10 Rows.fnExactCellsRow.domain false) (Rows.fnExactCellsSpec.post enc Try.prog Try.f10 false true false false) := by
  refine returnsInHanded_of_change (C := Try.checked) own started (by kernel_rfl) Try.func10
    (ChangeSpec.witness6 (enc := enc) (C := Try.checked) false ⟨#[], #[.agg #[.int .i64 0, .slice none 0 0]], []⟩ 8 (by kernel_rfl) (by kernel_rfl) (by kernel_rfl) (by kernel_rfl)) ?_
  intro W base args ds gs before hval0 hW hcnd _
  have hval : ∀ (j : Nat) t v, Try.f10.params[j]? = some t → args[j]? = some v → Value.okWide Try.prog W .any base t v := hval0
  have hW' := hW
  obtain ⟨p, q, hA0, hV, rfl, hfz, hnd⟩ := hW
  have hA : DataW.TrodAll enc Try.prog W 0 (fun _ => true) true Try.f10.params.toList args.toList ds p := hA0
  rw [Try.params10] at hA hval
  obtain ⟨v0, vs0, d0, ds0, p0, q0, hargs, rfl, rfl, h0, r0⟩ := trodAll_cons hA
  obtain ⟨rfl, rfl, rfl⟩ := trodAll_nil r0
  obtain rfl : args = #[v0] := by cases args; simp_all
  obtain ⟨rfl, rfl⟩ := trodVars_none hV
  obtain ⟨cs0, rfl, sz0⟩ := okWide_grid (hval 0 57 v0 rfl rfl)
  have k0 := h0
  have lt0 : ∀ x ∈ p0, x.block < W.heap.size := by obtain ⟨m, hm⟩ := k0; exact DataW.trod_lt m _ _ _ hm
  obtain ⟨s0, ms0, a0, cap0, rfl, hv0, hn0, hat0⟩ := (by obtain ⟨fuel, hf⟩ := h0; exact grid_view sz0 hf : ∃ (s : Int) (ms : List Mk) (a : Option Addr) (c : Nat), cs0 = #[.int .i64 s, .slice a ms.length c] ∧ MView W a ms ∧ ms.length ≤ maxLen ∧ ∀ i, (mat ms i).length ≤ maxLen)
  clear hA0 hval0
  refine (walk a0 cap0 s0 ms0 W hv0 hn0 hat0).mono fun e W' ⟨he, bel⟩ => ?_
  subst he
  exact ⟨_, rfl, _, _, _, [], _, [], hW', trodAll_mk1 (shut_bool Try.underlying4 _), (trodAll_cons_mk (Below.trod laidOut (by kernel_rfl) (of_decide_eq_true (by kernel_rfl)) k0 bel lt0) trodAll_mk0), rfl, bel.frame _, fun h => by cases h⟩

theorem over : Rows.fnExactCellsRow.holds Try.pinned (OpenSpec.ofChange Rows.fnExactCellsSpec) :=
  OpenClaim.holds_of_wide 10 Try.f10 rfl rfl rfl rfl rfl rfl rfl ⟨rfl, rfl, rfl, rfl, rfl⟩ rfl rfl rfl rfl rfl (by kernel_rfl) Try.func10 (by kernel_rfl)
    (of_decide_eq_true (by kernel_rfl)) (by unfold Func.isWrapper; first | (rw [if_pos (by decide +kernel)]; kernel_rfl) | (rw [if_neg (by decide +kernel)]; exact ⟨rfl, rfl⟩))
    (fun os started H enc _ => lifted os started H enc)

end Go.Proofs.Ythddhblmnfjciaa.fnExactCells
namespace Go.Proofs.Ythddhblmnfjciaa

theorem FnExactCells_holds : Rows.FnExactCellsSaid := fnExactCells.over

end Go.Proofs.Ythddhblmnfjciaa
