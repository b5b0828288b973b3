/-
  FnExactShifted holds: at every list of marks and every list of centers the program answers Shifted as the given one, leaves its arguments alone, keeps nothing of them, and owns its answer; no condition.
-/
import Derived.Test.YthcjkneifkmkdaaJLaw0
import Derived.Test.YthcjkneifkmkdaaJSpS
import Derived.Test.YthcjkneifkmkdaaJSft
namespace Go.Proofs.Ythcjkneifkmkdaa.fnExactShifted
open Go.ChangeShapes Go.WideShapes Go.ChangeAt Go.RowKit
set_option linter.unusedVariables false

theorem own : ownKnob Try.prog.godebug = none := by kernel_rfl
theorem laidOut : laidOutB Try.prog = true := by kernel_rfl

set_option maxRecDepth 100000 in
set_option maxHeartbeats 4000000 in
theorem walk (ao0 : Option Addr) (cap0 : Nat) (ms0 : List Mk) (ao1 : Option Addr) (cap1 : Nat) (ls1 : List (List Int)) (w : World) (hv0 : MView w ao0 ms0) (hn0 : ms0.length ≤ maxLen) (hat0 : ∀ i, (mat ms0 i).length ≤ maxLen) (hv1 : CView w ao1 ls1) (hn1 : ls1.length ≤ maxLen) (hat1 : ∀ i, (cn ls1 i).length ≤ maxLen) :
    Calls Try.prog 6 #[.slice ao0 ms0.length cap0, .slice ao1 ls1.length cap1] w fun e w' => e = .returned (.bool true) ∧ Below w.heap.size w w' := by
  go_enter Try.func6, Try.ntmps6
  go_wp2_with fail
  refine (szMS2 ao0 cap0 ms0 _ hv0 hn0 hat0).mono ?_
  rintro e w1 ⟨r, rfl, hr1, hr, L1⟩
  by_cases hneg : r < 0
  · go_wp2_with fail
    go_ret
    exact ⟨rfl, L1⟩
  have hsm : MSmall ms0 := by rcases hr with h | h; exact absurd h hneg; exact h
  clear hr
  go_wp2_with fail
  refine (szCS ao1 cap1 ls1 r _ (hv1.next L1) (by omega) hr1 hn1 hat1).mono ?_
  rintro e w2 ⟨r2, rfl, hr2, hw2⟩
  subst w2
  by_cases hneg2 : r2 < 0
  · go_wp2_with fail
    go_ret
    exact ⟨rfl, L1⟩
  have hcm : CSmall ls1 := by rcases hr2 with h | h; exact absurd h hneg2; exact h
  clear hr2
  have HV0 := hidP hv0
  have HV1 := hidP hv1
  clear hv0 hv1
  go_wp2_with fail
  refine (toMS ao0 cap0 ms0 _ (HV0.out.next L1) hsm).mono ?_
  rintro e w3 ⟨b3, rfl, p3, hb3, M3⟩
  have L3 := chain L1 M3
  go_wp2_with fail
  refine (toCS ao1 cap1 ls1 _ (HV1.out.next L3) hcm).mono ?_
  rintro e w4 ⟨b4, rfl, p4, hb4, M4⟩
  have L4 := chain L3 M4
  have HC := hidP (sShift (some ⟨b3, 0, none⟩) (some ⟨b4, 0, none⟩) ms0.length ls1.length ms0 ls1 w4 (p3.view.next M4) p4.view hsm hcm)
  obtain ⟨R, hR⟩ : ∃ R, shiftL ms0 ls1 = R := ⟨_, rfl⟩
  have nR : R.length ≤ 60 ∧ ∀ l ∈ R, l.length ≤ 4 := by rw [← hR]; exact shift_short ms0 ls1
  have cR : CSmall R := rows_small nR
  rw [hR] at HC
  have HR := hidP hR
  clear hR p3 p4 M3 M4 hb3 hb4
  go_wp2_with fail
  refine HC.out.mono ?_
  rintro e w5 ⟨gw, cw, rs, rfl, hnm, row5, M5⟩
  have L5 : Below w.heap.size w w5 := chain L4 M5
  have hrl : rs.length = R.length := by rw [← nums_length, hnm]
  have HA : Hid (∀ W W', Ahead w5.heap.size W W' → LMem 0 W gw cw rs → LMem 0 W' gw cw rs) := fun W W' a h => h.ahead (fun i hi => (row5.all i hi).2) a
  have S5 := hidP (row5.mono (Nat.zero_le _))
  have HSV : Hid (∀ W, LMem 0 W gw cw rs → CView W (some ⟨gw, 0, none⟩) R) := fun W h => by have := h.view.cview; rwa [hnm] at this
  rw [hrl]
  clear M5 HC row5 hnm hrl
  go_wp2_with fail
  refine (toMS ao0 cap0 ms0 _ (HV0.out.next L5) hsm).mono ?_
  rintro e w6 ⟨b6, rfl, p6, hb6, M6⟩
  have L6 := chain L5 M6
  go_wp2_with fail
  refine (toCS ao1 cap1 ls1 _ (HV1.out.next L6) hcm).mono ?_
  rintro e w7 ⟨b7, rfl, p7, hb7, M7⟩
  have L7 := chain L6 M7
  have I7 := InA.mk' p6 M7 p7 hb7
  have hwx : w.heap.size ≤ b6 := Nat.le_trans L5.size hb6
  have h5x : w5.heap.size ≤ b6 := hb6
  have S6 := HA.out _ _ (ahead_below (Nat.le_refl _) M6) S5.out
  have h56 := M6.size
  have S7 := hidP (HA.out _ _ (ahead_below h56 M7) S6)
  have h57 := Nat.le_trans h56 M7.size
  have HC := hidP (iShift (some ⟨b6, 0, none⟩) (some ⟨b7, 0, none⟩) ms0.length ls1.length ms0 ls1 w7 (p6.view.next M7) p7.view hsm hcm)
  rw [HR.out] at HC
  clear p6 p7 M6 M7 hb6 hb7 S5 S6 h56 L5 L6
  obtain ⟨hx, hhx⟩ : ∃ hx, hx = w6.heap.size := ⟨_, rfl⟩
  rw [← hhx] at I7
  clear hhx
  go_wp2_with fail
  refine HC.out.mono ?_
  rintro e w8 ⟨ag, cg, qs, rfl, hnq, O8, M8⟩
  have hql : qs.length = R.length := by rw [← nums_length, hnq]
  have HOV : Hid (∀ W, LOut w7.heap.size W ag cg qs → CView W ag R) := fun W h => by have := h.view.cview; rwa [hnq] at this
  have nq : qs.length ≤ 60 ∧ ∀ x ∈ qs, x.2.2.length ≤ 4 := (nums_small hnq nR).2
  have HQL := hidP hql
  rw [hql]
  clear hnq hql
  have L8 := chain L7 M8
  have h78 := M8.size
  have P8 : Hid (LMem 0 w8 gw cw rs ∧ InA w8 b6 hx b7 w7.heap.size ms0 ls1 ∧ LOut w7.heap.size w8 ag cg qs ∧ w5.heap.size ≤ w8.heap.size) := ⟨HA.out _ _ (ahead_below h57 M8) S7.out, I7.below M8, O8, Nat.le_trans h57 h78⟩
  have STP : Hid (∀ wa wb, Below wa.heap.size wa wb → (LMem 0 wa gw cw rs ∧ InA wa b6 hx b7 w7.heap.size ms0 ls1 ∧ LOut w7.heap.size wa ag cg qs ∧ w5.heap.size ≤ wa.heap.size) → (LMem 0 wb gw cw rs ∧ InA wb b6 hx b7 w7.heap.size ms0 ls1 ∧ LOut w7.heap.size wb ag cg qs ∧ w5.heap.size ≤ wb.heap.size)) :=
    fun wa wb L ⟨q1, q2, q3, q4⟩ => ⟨HA.out _ _ (ahead_below q4 L) q1, q2.below L, q3.below L, Nat.le_trans q4 L.size⟩
  have hi7 := I7.le
  clear HC M8 S7 I7 O8 h78
  go_wp2_with fail
  refine (eqCS ag (some ⟨gw, 0, none⟩) cg cw R _ (HOV.out _ P8.out.2.2.1) (HSV.out _ P8.out.1) cR).mono ?_
  rintro e w9 ⟨rfl, n9, hw9⟩
  have M9 : Below w8.heap.size w8 w9 := by rw [hw9]; exact below_drewN (Below.refl _ _) n9
  have P9 := hidP (STP.out _ _ M9 P8.out)
  have L9 := chain L8 M9
  clear hw9 M9 P8 L8
  go_wp2_with fail
  refine (toMS ao0 cap0 ms0 _ (HV0.out.next L9) hsm).mono ?_
  rintro e wa ⟨ba, rfl, pa, hba, Ma⟩
  have Pa := hidP (STP.out _ _ Ma P9.out)
  have La := chain L9 Ma
  clear Ma P9 L9 hba
  go_wp2_with fail
  refine (eqMS _ _ _ _ ms0 ms0 _ Pa.out.2.1.mp.view pa.view hsm).mono ?_
  rintro e wb ⟨rfl, Mb⟩
  have ht2 : decide (ms0 = ms0) = true := by simp
  have Pb := hidP (STP.out _ _ Mb Pa.out)
  have Lb := chain La Mb
  clear Mb Pa La pa
  go_wp2_with fail
  refine (toCS ao1 cap1 ls1 _ (HV1.out.next Lb) hcm).mono ?_
  rintro e wc ⟨bc, rfl, pc, hbc, Mc⟩
  have Pc := hidP (STP.out _ _ Mc Pb.out)
  have Lc := chain Lb Mc
  clear Mc Pb Lb hbc
  go_wp2_with fail
  refine (eqCS _ _ _ _ ls1 _ Pc.out.2.1.cp.view pc.view hcm).mono ?_
  rintro e wd ⟨rfl, nd, hwd⟩
  have Md : Below wc.heap.size wc wd := by rw [hwd]; exact below_drewN (Below.refl _ _) nd
  have Pd := hidP (STP.out _ _ Md Pc.out)
  have Ld := chain Lc Md
  clear hwd Md Pc Lc pc
  go_wp2_with fail
  refine (markMS b6 hx ms0.length 1 ms0 wd Pd.out.2.1.mo hsm (by omega) (by omega)).mono ?_
  rintro e we ⟨⟨k1, hk1, hk2, rfl⟩, ge⟩
  have Pe : Hid (LMem 0 we gw cw rs ∧ COver we b7 w7.heap.size ls1 ∧ LOut w7.heap.size we ag cg qs ∧ w5.heap.size ≤ we.heap.size ∧ w7.heap.size ≤ we.heap.size) :=
    ⟨HA.out _ _ (ahead_gin Pd.out.2.2.2 ge h5x) Pd.out.1, Pd.out.2.1.co.gin ge (by omega), Pd.out.2.2.1.same (fun i h1 h2 => ge.2.2.2.2 i h2 (Or.inr (by omega))), Nat.le_trans Pd.out.2.2.2 ge.2.2.2.1, Nat.le_trans Pd.out.2.1.le.2.1 ge.2.2.2.1⟩
  have Le := below_gin Ld ge hwx
  clear Pd Ld ge STP
  go_wp2_with fail
  refine (markCS b7 w7.heap.size ls1.length k1 ls1 we Pe.out.2.1 hcm hk1 hk2).mono ?_
  rintro e wf ⟨⟨k2, hk3, rfl⟩, gf⟩
  have hneg3 : ¬ k2 < 0 := by omega
  have Pf : Hid (LMem 0 wf gw cw rs ∧ LOut w7.heap.size wf ag cg qs ∧ w5.heap.size ≤ wf.heap.size ∧ w7.heap.size ≤ wf.heap.size) :=
    ⟨HA.out _ _ (ahead_gin Pe.out.2.2.2.1 gf (by omega)) Pe.out.1, Pe.out.2.2.1.same (fun i h1 h2 => gf.2.2.2.2 i h2 (Or.inr (by omega))), Nat.le_trans Pe.out.2.2.2.1 gf.2.2.2.1, Nat.le_trans Pe.out.2.2.2.2 gf.2.2.2.1⟩
  have Lf := below_gin Le gf (by omega)
  clear Pe Le gf
  go_wp2_with fail
  refine (eqCS ag (some ⟨gw, 0, none⟩) cg cw R _ (HOV.out _ Pf.out.2.1) (HSV.out _ Pf.out.1) cR).mono ?_
  rintro e wg ⟨rfl, ng, hwg⟩
  have Mg : Below wf.heap.size wf wg := by rw [hwg]; exact below_drewN (Below.refl _ _) ng
  have Pg : Hid (LMem 0 wg gw cw rs ∧ LOut w7.heap.size wg ag cg qs ∧ w5.heap.size ≤ wg.heap.size ∧ w7.heap.size ≤ wg.heap.size) := ⟨HA.out _ _ (ahead_below Pf.out.2.2.1 Mg) Pf.out.1, Pf.out.2.1.below Mg, Nat.le_trans Pf.out.2.2.1 Mg.size, Nat.le_trans Pf.out.2.2.2 Mg.size⟩
  have Lg := chain Lf Mg
  clear hwg Mg Pf Lf
  go_wp2_with fail
  have HM := hidP (markOL w7.heap.size cg ag qs wg Pg.out.2.1 nq.1 nq.2)
  rw [HQL.out] at HM
  refine HM.out.mono ?_
  rintro e wh ⟨rfl, vh, q1, q2, q3, q4, q5⟩
  have Ah : Ahead w7.heap.size wg wh := fun i hi => q5 i (by have := Pg.out.2.2.2; omega) hi
  have Lh : Below w.heap.size w wh := ⟨q1.trans Lg.os, q2.trans Lg.tape, q3.trans Lg.output, Nat.le_trans Lg.size q4, fun i hi => (Ah i (by omega)).trans (Lg.block i hi)⟩
  have Ph : Hid (LMem 0 wh gw cw rs ∧ LView wh ag (nums (mkRs 1 qs)) ∧ w5.heap.size ≤ wh.heap.size) := ⟨HA.out _ _ (fun i hi => Ah i (by omega)) Pg.out.1, vh, Nat.le_trans Pg.out.2.2.1 q4⟩
  have HH : Hid (∀ W, LView W ag (nums (mkRs 1 qs)) → Calls Try.prog 33 #[.slice ag R.length cg, .int .i64 1] W fun e w' => e = .returned (.int .i64 (1 + totR qs)) ∧ w' = W) := fun W h => by rw [← HQL.out]; exact heldSS ag cg qs 1 W h nq.1 nq.2 (by omega) (by omega)
  clear Pg Lg vh q1 q2 q3 q4 q5 Ah HM
  have hq0 : ¬ ((1 : Int) + totR qs < 0) := by omega
  have hq1 : (((1 : Int) + totR qs) != (1 + totR qs)) = false := by simp
  go_wp2_with fail
  refine (HH.out wh Ph.out.2.1).mono ?_
  rintro e wi ⟨rfl, hwi⟩
  subst wi
  go_wp2_with fail
  refine (toMS ao0 cap0 ms0 _ (HV0.out.next Lh) hsm).mono ?_
  rintro e wj ⟨bj, rfl, pj, hbj, Mj⟩
  have Lj := chain Lh Mj
  go_wp2_with fail
  refine (toCS ao1 cap1 ls1 _ (HV1.out.next Lj) hcm).mono ?_
  rintro e wk ⟨bk, rfl, pk, hbk, Mk⟩
  have Lk := chain Lj Mk
  have Mjk := chain Mj Mk
  have Pk : Hid (LMem 0 wk gw cw rs ∧ LView wk ag (nums (mkRs 1 qs)) ∧ w5.heap.size ≤ wk.heap.size) := ⟨HA.out _ _ (ahead_below Ph.out.2.2 Mjk) Ph.out.1, Ph.out.2.1.next Mjk, Nat.le_trans Ph.out.2.2 Mjk.size⟩
  have HC := hidP (iShift (some ⟨bj, 0, none⟩) (some ⟨bk, 0, none⟩) ms0.length ls1.length ms0 ls1 wk (pj.view.next Mk) pk.view hsm hcm)
  rw [HR.out] at HC
  clear pj pk Mj Mk Mjk hbj hbk Ph Lh Lj
  go_wp2_with fail
  refine HC.out.mono ?_
  rintro e wl ⟨al, cl, xs, rfl, hnx, Ol, Ml⟩
  have hxl : xs.length = R.length := by rw [← nums_length, hnx]
  have vl : CView wl al R := by have := Ol.view.cview; rwa [hnx] at this
  rw [hxl]
  have Ll := chain Lk Ml
  have Pl : Hid (LMem 0 wl gw cw rs ∧ LView wl ag (nums (mkRs 1 qs))) := ⟨HA.out _ _ (ahead_below Pk.out.2.2 Ml) Pk.out.1, Pk.out.2.1.next Ml⟩
  clear HC Ml Pk Lk
  go_wp2_with fail
  refine (eqCS al (some ⟨gw, 0, none⟩) cl cw R _ vl (HSV.out _ Pl.out.1) cR).mono ?_
  rintro e wm ⟨rfl, nm, hwm⟩
  have Pm : LView wm ag (nums (mkRs 1 qs)) := by rw [hwm]; exact Pl.out.2.drewN nm
  have Lm : Below w.heap.size w wm := by rw [hwm]; exact below_drewN Ll nm
  clear hwm Pl Ll
  go_wp2_with fail
  refine (HH.out wm Pm).mono ?_
  rintro e wn ⟨rfl, hwn⟩
  subst wn
  go_wp2_with fail
  go_ret
  exact ⟨rfl, Lm⟩

set_option maxRecDepth 100000 in
theorem lifted (os : Os) (started : os.Started) (H : Type) (enc : TypeId × Value → H) :
    ReturnsInHanded {} Try.checked os 6 .any (Rows.fnExactShiftedSpec.pre6 enc Try.prog Try.f6 Rows.fnExactShiftedRow.domain false) (Rows.fnExactShiftedSpec.post enc Try.prog Try.f6 false true false false) := by
  refine returnsInHanded_of_change (C := Try.checked) own started (by kernel_rfl) Try.func6
    (ChangeSpec.witness6 (enc := enc) (C := Try.checked) false ⟨#[], #[.slice none 0 0, .slice none 0 0], []⟩ 8 (by kernel_rfl) (by kernel_rfl) (by kernel_rfl) (by kernel_rfl)) ?_
  intro W base args ds gs before hval0 hW hcnd _
  have hval : ∀ (j : Nat) t v, Try.f6.params[j]? = some t → args[j]? = some v → Value.okWide Try.prog W .any base t v := hval0
  have hW' := hW
  obtain ⟨p, q, hA0, hV, rfl, hfz, hnd⟩ := hW
  have hA : DataW.TrodAll enc Try.prog W 0 (fun _ => true) true Try.f6.params.toList args.toList ds p := hA0
  rw [Try.params6] at hA hval
  obtain ⟨v0, vs0, d0, ds0, p0, q0, hargs, rfl, rfl, h0, r0⟩ := trodAll_cons hA
  obtain ⟨v1, vs1, d1, ds1, p1, q1, rfl, rfl, rfl, h1, r1⟩ := trodAll_cons r0
  obtain ⟨rfl, rfl, rfl⟩ := trodAll_nil r1
  obtain rfl : args = #[v0, v1] := by cases args; simp_all
  obtain ⟨rfl, rfl⟩ := trodVars_none hV
  obtain ⟨a0, len0, cap0, rfl⟩ := okWide_slice Try.underlying38 (hval 0 38 v0 rfl rfl)
  have k0 := h0
  have lt0 : ∀ x ∈ p0, x.block < W.heap.size := by obtain ⟨m, hm⟩ := k0; exact DataW.trod_lt m _ _ _ hm
  obtain ⟨ms0, rfl, hv0, hn0, hat0⟩ := (by obtain ⟨fuel, hf⟩ := h0; exact marks_view hf : ∃ ms : List Mk, len0 = ms.length ∧ MView W a0 ms ∧ ms.length ≤ maxLen ∧ ∀ i, (mat ms i).length ≤ maxLen)
  obtain ⟨a1, len1, cap1, rfl⟩ := okWide_slice Try.underlying25 (hval 1 25 v1 rfl rfl)
  have k1 := h1
  have lt1 : ∀ x ∈ p1, x.block < W.heap.size := by obtain ⟨m, hm⟩ := k1; exact DataW.trod_lt m _ _ _ hm
  obtain ⟨ls1, rfl, hv1, hn1, hat1⟩ := (by obtain ⟨fuel, hf⟩ := h1; exact rows_view hf : ∃ ls : List (List Int), len1 = ls.length ∧ CView W a1 ls ∧ ls.length ≤ maxLen ∧ ∀ i, (cn ls i).length ≤ maxLen)
  clear hA0 hval0
  refine (walk a0 cap0 ms0 a1 cap1 ls1 W hv0 hn0 hat0 hv1 hn1 hat1).mono fun e W' ⟨he, bel⟩ => ?_
  subst he
  exact ⟨_, rfl, _, _, _, [], _, [], hW', trodAll_mk1 (shut_bool Try.underlying4 _), (trodAll_cons_mk (Below.trod laidOut (by kernel_rfl) (of_decide_eq_true (by kernel_rfl)) k0 bel lt0) (trodAll_cons_mk (Below.trod laidOut (by kernel_rfl) (of_decide_eq_true (by kernel_rfl)) k1 bel lt1) trodAll_mk0)), rfl, bel.frame _, fun h => by cases h⟩

theorem over : Rows.fnExactShiftedRow.holds Try.pinned (OpenSpec.ofChange Rows.fnExactShiftedSpec) :=
  OpenClaim.holds_of_wide 6 Try.f6 rfl rfl rfl rfl rfl rfl rfl ⟨rfl, rfl, rfl, rfl, rfl⟩ rfl rfl rfl rfl rfl (by kernel_rfl) Try.func6 (by kernel_rfl)
    (of_decide_eq_true (by kernel_rfl)) (by unfold Func.isWrapper; first | (rw [if_pos (by decide +kernel)]; kernel_rfl) | (rw [if_neg (by decide +kernel)]; exact ⟨rfl, rfl⟩))
    (fun os started H enc _ => lifted os started H enc)

end Go.Proofs.Ythcjkneifkmkdaa.fnExactShifted
namespace Go.Proofs.Ythcjkneifkmkdaa

theorem FnExactShifted_holds : Rows.FnExactShiftedSaid := fnExactShifted.over

end Go.Proofs.Ythcjkneifkmkdaa
