/-
  FnLloyd holds: for every draw what is shifted costs no more, each mark is given to a nearest center, the first of alike ones, and what is still stays; Given, Cost, Shifted and Still answer as the given ones; no condition.
-/
import Derived.Test.YthcjkneifkmkdaaJConZz
import Derived.Deep.Cut
namespace Go.Proofs.Ythcjkneifkmkdaa.fnLloyd
open Go.ChangeShapes Go.WideShapes Go.ChangeAt Go.RowKit
set_option linter.unusedVariables false

theorem own : ownKnob Try.prog.godebug = none := by kernel_rfl
theorem laidOut : laidOutB Try.prog = true := by kernel_rfl

set_option maxRecDepth 100000 in
set_option maxHeartbeats 4000000 in
theorem walk (ao0 : Option Addr) (len0 cap0 : Nat) (w : World) (hv0 : CodeV w ao0 len0) (hn0 : len0 ≤ maxLen) :
    Calls Try.prog 3 #[.slice ao0 len0 cap0] w fun e w' => e = .returned (.bool true) ∧ Below w.heap.size w w' := by
  by_cases hbig : 4096 < len0
  · have hbb : decide (4096 < (len0 : Int)) = true := by simp; omega
    go_enter Try.func3, Try.ntmps3
    go_wp2_with fail
    refine (bigC ao0 len0 cap0 _).mono ?_
    rintro e w1 ⟨rfl, hw1⟩
    subst hw1
    go_wp2_with fail
    go_ret
    exact ⟨rfl, Below.refl _ _⟩
  have hbb : decide (4096 < (len0 : Int)) = false := by simp; omega
  have hn : len0 ≤ 4096 := by omega
  clear hn0 hbig
  go_enter Try.func3, Try.ntmps3
  go_wp2_with fail
  refine (bigC ao0 len0 cap0 _).mono ?_
  rintro e w0 ⟨rfl, hw0⟩
  subst hw0
  rw [hbb]
  clear hbb
  go_wp2_with fail
  refine (cDrawS ao0 len0 cap0 _ hv0 hn).mono ?_
  rintro e w1 ⟨al, cl, ms, ac, dc, cs, rfl, D1, L1⟩
  obtain ⟨v1, hsm, v2, hcm⟩ := D1
  obtain ⟨S, hS⟩ : ∃ S, shiftL ms cs = S := ⟨_, rfl⟩
  obtain ⟨G, hG⟩ : ∃ G, givenL ms cs = G := ⟨_, rfl⟩
  obtain ⟨C, hC⟩ : ∃ C, costV ms cs = C := ⟨_, rfl⟩
  have nS := shift_short ms cs
  rw [hS] at nS
  have cS : CSmall S := rows_small nS
  have nS60 := nS.1
  have nG : G.length ≤ 60 := by rw [← hG]; exact given_short ms cs
  have HC1 := hidP (iShiftC al ac cl dc ms cs w1 v1 v2 hsm hcm)
  rw [hS] at HC1
  have HP1 := hidP (And.intro v1 v2)
  have HSE := hidP hS
  have HGE := hidP hG
  have HCE := hidP hC
  clear hS hG hC v1 v2 nS
  go_wp2_with fail
  refine HC1.out.mono ?_
  rintro e w2 ⟨sa, ds, rfl, vS, L2⟩
  have L2' := chain L1 L2
  have HC2 := hidP (iGivenC al ac cl dc ms cs w2 (HP1.out.1.next L2) (HP1.out.2.next L2) hsm hcm)
  rw [HGE.out] at HC2
  have HP2 := hidP (And.intro (HP1.out.1.next L2) (And.intro (HP1.out.2.next L2) vS))
  clear HC1 HP1 L1 L2 vS
  go_wp2_with fail
  refine HC2.out.mono ?_
  rintro e w3 ⟨ag, dg, rfl, vG, L3⟩
  have P3 : Hid (PLl w3 al ac sa ag ms cs S G) := ⟨HP2.out.1.next L3, HP2.out.2.1.next L3, HP2.out.2.2.next L3, vG⟩
  have L3' := chain L2' L3
  clear HC2 HP2 L3 vG L2'
  go_wp2_with fail
  refine (cDrawT ao0 len0 cap0 _ (hv0.below (Nat.le_refl _) L3') hn).mono ?_
  rintro e w4 ⟨a2, c2, ms2, b2, d2, ls2, rfl, D2, L4⟩
  have hsm2 := D2.2.1
  have hcm2 := D2.2.2.2
  have P4 : Hid (PLl w4 al ac sa ag ms cs S G ∧ MView w4 a2 ms2 ∧ CView w4 b2 ls2 ∧ Below w.heap.size w w4) := ⟨P3.out.next L4, D2.1, D2.2.2.1, chain L3' L4⟩
  have STP : Hid (∀ wa wb, Below wa.heap.size wa wb → (PLl wa al ac sa ag ms cs S G ∧ MView wa a2 ms2 ∧ CView wa b2 ls2 ∧ Below w.heap.size w wa) → (PLl wb al ac sa ag ms cs S G ∧ MView wb a2 ms2 ∧ CView wb b2 ls2 ∧ Below w.heap.size w wb)) :=
    fun wa wb L h => ⟨h.1.next L, h.2.1.next L, h.2.2.1.next L, chain h.2.2.2 L⟩
  obtain ⟨T, hT⟩ : ∃ T, stillB ms2 ls2 = T := ⟨_, rfl⟩
  have HTE := hidP hT
  clear hT D2 L4 P3 L3' hv0
  have HC3 := hidP (sShiftC al ac cl dc ms cs w4 P4.out.1.1 P4.out.1.2.1 hsm hcm)
  rw [HSE.out] at HC3
  go_wp2_with fail
  refine HC3.out.mono ?_
  rintro e w5 ⟨ax, dx, rfl, vx, L5⟩
  have P5 := hidP (STP.out _ _ L5 P4.out)
  clear HC3 P4 L5
  go_wp2_with fail
  refine (likeB sa ax ds dx S w5 P5.out.1.2.2.1 vx cS).mono ?_
  rintro e w6 ⟨rfl, L6⟩
  have P6 := hidP (STP.out _ _ L6 P5.out)
  have HC4 := hidP (sGivenC al ac cl dc ms cs w6 P6.out.1.1 P6.out.1.2.1 hsm hcm)
  rw [HGE.out] at HC4
  clear P5 L6 vx
  go_wp2_with fail
  refine HC4.out.mono ?_
  rintro e w7 ⟨ay, dy, rfl, vy, L7⟩
  have P7 := hidP (STP.out _ _ L7 P6.out)
  clear HC4 P6 L7
  go_wp2_with fail
  refine (likeIB ag ay dg dy G w7 P7.out.1.2.2.2 vy (by omega)).mono ?_
  rintro e w8 ⟨rfl, L8⟩
  have P8 := hidP (STP.out _ _ L8 P7.out)
  have HC5 := hidP (iCost al ac cl dc ms cs w8 P8.out.1.1 P8.out.1.2.1 hsm hcm)
  rw [HCE.out] at HC5
  clear P7 L8 vy
  go_wp2_with fail
  refine HC5.out.mono ?_
  rintro e w9 ⟨rfl, L9⟩
  have P9 := hidP (STP.out _ _ L9 P8.out)
  have HC6 := hidP (sCostB al ac cl dc ms cs w9 P9.out.1.1 P9.out.1.2.1 hsm hcm)
  rw [HCE.out] at HC6
  clear P8 L9 HC5
  go_wp2_with fail
  refine HC6.out.mono ?_
  rintro e wa ⟨rfl, La⟩
  have Pa := hidP (STP.out _ _ La P9.out)
  have HC7 := hidP (iStill a2 b2 c2 d2 ms2 ls2 wa Pa.out.2.1 Pa.out.2.2.1 hsm2 hcm2)
  rw [HTE.out] at HC7
  have hCC : (C != C) = false := by simp
  clear P9 La HC6
  go_wp2_with fail
  refine HC7.out.mono ?_
  rintro e wb ⟨rfl, Lb⟩
  have Pb := hidP (STP.out _ _ Lb Pa.out)
  have HC8 := hidP (sStill a2 b2 c2 d2 ms2 ls2 wb Pb.out.2.1 Pb.out.2.2.1 hsm2 hcm2)
  rw [HTE.out] at HC8
  clear Pa Lb HC7
  go_wp2_with fail
  refine HC8.out.mono ?_
  rintro e wc ⟨rfl, Lc⟩
  have Pc := hidP (STP.out _ _ Lc Pb.out)
  have hTT : (T != T) = false := by simp
  clear Pb Lc HC8
  go_upto_region 9 with fail
  clear hTT hCC
  go_cut [77] from 17 (fun v wx => v = .bool false ∧ PLl wx al ac sa ag ms cs S G ∧ Below w.heap.size w wx)
  case first =>
    have HC9 := hidP (iStill a2 b2 c2 d2 ms2 ls2 wc Pc.out.2.1 Pc.out.2.2.1 hsm2 hcm2)
    rw [HTE.out] at HC9
    cases T with
    | false =>
      go_wp2_with fail
      refine HC9.out.mono ?_
      rintro e wd ⟨rfl, Ld⟩
      have Pd := hidP (STP.out _ _ Ld Pc.out)
      go_wp2_with fail
      go_meet
      exact ⟨rfl, Pd.out.1, Pd.out.2.2.2⟩
    | true =>
      have HSS := hidP (still_same HTE.out)
      go_wp2_with fail
      refine HC9.out.mono ?_
      rintro e wd ⟨rfl, Ld⟩
      have Pd := hidP (STP.out _ _ Ld Pc.out)
      have HCA := hidP (iShiftC a2 b2 c2 d2 ms2 ls2 wd Pd.out.2.1 Pd.out.2.2.1 hsm2 hcm2)
      rw [HSS.out] at HCA
      clear Pc Ld HC9
      go_wp2_with fail
      refine HCA.out.mono ?_
      rintro e we ⟨az, dz, rfl, vz, Le⟩
      have Pe := hidP (STP.out _ _ Le Pd.out)
      clear Pd Le HCA
      go_wp2_with fail
      refine (likeB az b2 dz d2 ls2 we vz Pe.out.2.2.1 hcm2).mono ?_
      rintro e wf ⟨rfl, Lf⟩
      have Pf := hidP (STP.out _ _ Lf Pe.out)
      go_wp2_with fail
      go_meet
      exact ⟨rfl, Pf.out.1, Pf.out.2.2.2⟩
  obtain ⟨rfl, hP, hL⟩ := hcut
  have P0 : Hid (PLl wc al ac sa ag ms cs S G ∧ Below w.heap.size w wc) := ⟨hP, hL⟩
  have STQ : Hid (∀ wa wb, Below wa.heap.size wa wb → (PLl wa al ac sa ag ms cs S G ∧ Below w.heap.size w wa) → (PLl wb al ac sa ag ms cs S G ∧ Below w.heap.size w wb)) := fun wa wb L h => ⟨h.1.next L, chain h.2 L⟩
  clear hP hL Pc STP HTE hsm2 hcm2
  rcases hc : ctrsB ms cs with _ | _
  · have hS0 : ((S.length : Int) == 0) = true := by rw [← HSE.out, shiftL_no hc]; rfl
    have hG0 : ((G.length : Int) == 0) = true := by rw [← HGE.out, givenL_no hc]; rfl
    have hC0 : (C == -1) = true := by rw [← HCE.out, costV_no hc]; rfl
    have HCB := hidP (iCost al ac cl dc ms cs wc P0.out.1.1 P0.out.1.2.1 hsm hcm)
    rw [HCE.out] at HCB
    clear hc
    go_wp2_with fail
    refine HCB.out.mono ?_
    rintro e wd ⟨rfl, Ld⟩
    have Pd := hidP (STQ.out _ _ Ld P0.out)
    go_wp2_with fail
    go_ret
    exact ⟨ret_bool (by simp), Pd.out.2⟩
  have hSl : S.length = cs.length := by rw [← HSE.out]; exact shiftL_length hc
  obtain ⟨h1, h8, -, -⟩ := ctrsB_of hc
  have hm60 : ms.length ≤ 60 := marksB_len (toldB_of (ctrsB_of hc).2.2.2).1
  have hS0 : ((S.length : Int) == 0) = false := by simp; intro h; rw [h] at hSl; simp at hSl; omega
  have hSne : ((S.length : Int) != (cs.length : Int)) = false := by simp [hSl]
  have hGl : G.length = ms.length := by rw [← HGE.out]; exact given_len hc
  have HGL := hidP hGl
  have HSL := hidP hSl
  have HC := hidP hc
  have HFB : Hid (∀ j, -1 ≤ costF ms cs j ∧ costF ms cs j ≤ 16000000) := fun j => farV_bd _ _
  clear hSl hc hGl
  go_wp2_with fail
  go_loopw [9, 10] (fun sm i wr => ∃ k : Nat, k ≤ ms.length ∧ i = .int .i64 k ∧ sm = .int .i64 (sumTo (costF ms cs) k) ∧ PLl wr al ac sa ag ms cs S G ∧ Below w.heap.size w wr) (fun _ i _ => ms.length - (intOf i).toNat)
  case atStart => exact ⟨0, Nat.zero_le _, rfl, rfl, P0.out.1, P0.out.2⟩
  case round =>
    obtain ⟨k, hk, rfl, rfl, hP, hL⟩ := hrel
    by_cases hlt : k < ms.length
    · obtain ⟨bm, om, rfl, hbm, sm⟩ := MSeg.seg hP.1 (by omega)
      obtain ⟨-, ae, ce, hc1, hve⟩ := sm.at hlt
      obtain ⟨bg, og, rfl, hbg, sg⟩ : ∃ b off, ag = some ⟨b, off, none⟩ ∧ b < wr.heap.size ∧ Seg wr b off G := by
        rcases hP.2.2.2 with h | h
        · have := HGL.out; rw [h] at this; simp at this; omega
        · exact h
      have hcg := sg k (by rw [HGL.out]; exact hlt)
      have hgv : Hid (nth G k = ((givN ms cs k : Nat) : Int)) := by show _ = _; rw [← HGE.out]; exact (given_at HC.out hlt).2
      rw [hgv.out] at hcg
      have HGK := hidP hgv.out
      have hgl := givN_lt (ms := ms) h1 k
      obtain ⟨bc, oc, rfl, hbc, sc⟩ := hP.2.1.seg (by omega)
      obtain ⟨a1, c1, e1, va1⟩ := sc (givN ms cs k) hgl
      have HF := hidP (fun n => sFar ae a1 ce c1 (mat ms k) (cn cs (givN ms cs k)) (wr.drewN n) (hve.drewN n) (va1.drewN n) (hsm.2 k) (hcm.2 _))
      have HFE : Hid (farV (mat ms k) (cn cs (givN ms cs k)) = costF ms cs k) := rfl
      rw [HFE.out] at HF
      have HNN : Hid (∀ j, j < cs.length → ¬ farV (mat ms k) (cn cs j) < costF ms cs k ∧ (farV (mat ms k) (cn cs j) = costF ms cs k → ¬ (j : Int) < ((givN ms cs k : Nat) : Int))) := fun j hj => near_none hj
      have hfb := HFB.out k
      have hsum := sumTo_le (costF ms cs) (-1) 16000000 HFB.out k
      have HN : Hid (sumTo (costF ms cs) (k + 1) = sumTo (costF ms cs) k + costF ms cs k) := rfl
      have hi0 : (0 : Int) ≤ (k : Int) := Int.natCast_nonneg _
      have hi1 : (k : Int) < (ms.length : Int) := by omega
      have hi2 : (k : Int) < (G.length : Int) := by rw [HGL.out]; exact hi1
      have hCl := hcm.1
      have PK := hidP (And.intro hP hL)
      clear sm hve sg sc va1 hP hL HFE hgv
      generalize givN ms cs k = y at *
      generalize costF ms cs k = f at *
      have hj0 : (0 : Int) ≤ (y : Int) := Int.natCast_nonneg _
      have hj1 : (y : Int) < (cs.length : Int) := by omega
      go_wp2_with fail
      go_quiet (first | (go_at_call 21; exact Calls.quiet_of (HF.out _)))
      have PK2 : Hid (PLl (wr.drewN nq) (some ⟨bm, om, none⟩) (some ⟨bc, oc, none⟩) sa (some ⟨bg, og, none⟩) ms cs S G ∧ Below w.heap.size w (wr.drewN nq)) := STQ.out _ _ (below_drewN (Below.refl _ _) nq) PK.out
      generalize wr.drewN nq = wq at *
      clear PK HF e1 hc1 hcg hbm hbg hbc
      go_wp2_with fail
      go_loopw [12] (fun i wz => ∃ j : Nat, j ≤ cs.length ∧ i = .int .i64 j ∧ PLl wz (some ⟨bm, om, none⟩) (some ⟨bc, oc, none⟩) sa (some ⟨bg, og, none⟩) ms cs S G ∧ Below w.heap.size w wz) (fun i _ => cs.length - (intOf i).toNat)
      case atStart => exact ⟨0, Nat.zero_le _, rfl, PK2.out.1, PK2.out.2⟩
      case round =>
        obtain ⟨j, hj, rfl, hP, hL⟩ := hrel
        by_cases hjl : j < cs.length
        · obtain ⟨b9, o9, hq9, hbm, sm⟩ := MSeg.seg hP.1 (by omega)
          injection hq9 with hq9
          injection hq9 with hq1 hq2
          subst hq1 hq2
          obtain ⟨-, ae, ce, hc1, hve⟩ := sm.at hlt
          obtain ⟨b8, o8, hq8, hbg, sg⟩ : ∃ b off, some (Addr.mk bg og none) = some ⟨b, off, none⟩ ∧ b < wr.heap.size ∧ Seg wr b off G := by
            rcases hP.2.2.2 with h | h
            · have := HGL.out; rw [h] at this; simp at this; omega
            · exact h
          injection hq8 with hq8
          injection hq8 with hq3 hq4
          subst hq3 hq4
          have hcg := sg k (by rw [HGL.out]; exact hlt)
          rw [HGK.out] at hcg
          obtain ⟨b7, o7, hq7, hbc, sc⟩ := hP.2.1.seg (by omega)
          injection hq7 with hq7
          injection hq7 with hq5 hq6
          subst hq5 hq6
          obtain ⟨a1, c1, e1, va1⟩ := sc j hjl
          have HF := hidP (fun n => sFar ae a1 ce c1 (mat ms k) (cn cs j) (wr.drewN n) (hve.drewN n) (va1.drewN n) (hsm.2 k) (hcm.2 _))
          obtain ⟨hnl, hne⟩ := HNN.out j hjl
          have HNE := hidP hne
          have hk0 : (0 : Int) ≤ (j : Int) := Int.natCast_nonneg _
          have hk1 : (j : Int) < (cs.length : Int) := by omega
          have PK := hidP (And.intro hP hL)
          clear sm hve sg sc va1 hP hL hne
          generalize farV (mat ms k) (cn cs j) = d at *
          by_cases hdf : d = f
          · have hdb : (d == f) = true := by simp [hdf]
            have hjn : ¬ (j : Int) < (y : Int) := by have := HNE.out hdf; omega
            clear hdf
            go_wp2_with fail
            go_quiet (first | (go_at_call 21; exact Calls.quiet_of (HF.out _)))
            have PK2 := hidP (STQ.out _ _ (below_drewN (Below.refl _ _) nq) PK.out)
            go_wp2_with fail
            go_roundw
            case rel => exact ⟨j + 1, by omega, by go_num, PK2.out.1, PK2.out.2⟩
            case measure => simp [intOf]; omega
          · have hdb : (d == f) = false := by simp [hdf]
            clear hdf
            go_wp2_with fail
            go_quiet (first | (go_at_call 21; exact Calls.quiet_of (HF.out _)))
            have PK2 := hidP (STQ.out _ _ (below_drewN (Below.refl _ _) nq) PK.out)
            go_wp2_with fail
            go_roundw
            case rel => exact ⟨j + 1, by omega, by go_num, PK2.out.1, PK2.out.2⟩
            case measure => simp [intOf]; omega
        · obtain rfl : j = cs.length := by omega
          have PE := hidP (And.intro hP hL)
          clear hP hL
          go_wp2_with fail
          go_roundw
          case rel => exact ⟨k + 1, by omega, by go_num, by rw [HN.out], PE.out.1, PE.out.2⟩
          case measure => simp [intOf]; omega
    · obtain rfl : k = ms.length := by omega
      have HCS : Hid (sumTo (costF ms cs) ms.length = C) := by show _ = _; rw [← HCE.out, costV_in HC.out]
      rw [HCS.out]
      have PK := hidP (And.intro hP hL)
      have HCB := hidP (iCost al ac cl dc ms cs wr hP.1 hP.2.1 hsm hcm)
      rw [HCE.out] at HCB
      obtain ⟨C2, hC2⟩ : ∃ C2, costV ms S = C2 := ⟨_, rfl⟩
      have hle : ¬ C2 > C := by have := lloyd HC.out; rw [HSE.out, hC2, HCE.out] at this; omega
      have HC2 := hidP hC2
      have hCC : (C != C) = false := by simp
      have HOS : Hid (ctrsB ms S = true) := by show _ = _; rw [← HSE.out]; exact shiftL_ok HC.out
      clear hP hL hC2
      go_wp2_with fail
      refine HCB.out.mono ?_
      rintro e w5 ⟨rfl, L5⟩
      have P5 := hidP (STQ.out _ _ L5 PK.out)
      have HCD := hidP (iCost al sa cl ds ms S w5 P5.out.1.1 P5.out.1.2.2.1 hsm cS)
      rw [HC2.out] at HCD
      clear PK L5 HCB
      go_wp2_with fail
      refine HCD.out.mono ?_
      rintro e w6 ⟨rfl, L6⟩
      have P6 := hidP (STQ.out _ _ L6 P5.out)
      clear P5 L6 HCD
      go_wp2_with fail
      clear hSne hle hCC hS0
      go_loopw [14, 15] (fun v i wz => ∃ (k : Nat) (a : Option Addr) (d : Nat) (X : List (List Int)), k ≤ 40 ∧ i = .int .i64 k ∧ v = .slice a X.length d ∧ CView wz a X ∧ CSmall X ∧ ctrsB ms X = true ∧ PLl wz al ac sa ag ms cs S G ∧ Below w.heap.size w wz) (fun _ i _ => 40 - (intOf i).toNat)
      case atStart => exact ⟨0, sa, ds, S, by omega, rfl, rfl, P6.out.1.2.2.1, cS, HOS.out, P6.out.1, P6.out.2⟩
      case round =>
        obtain ⟨k, a, d, X, hk, rfl, rfl, vX, cX, hX, hP, hL⟩ := hrel
        have PK := hidP (And.intro vX (And.intro hX (And.intro hP hL)))
        by_cases hk40 : k < 40
        · have hkI : (k : Int) < 40 := by omega
          have HST := hidP (iStill al a cl d ms X wr hP.1 vX hsm cX)
          clear vX hX hP hL
          rcases hst : stillB ms X with _ | _
          · rw [hst] at HST
            clear hst
            obtain ⟨Y, hY⟩ : ∃ Y, shiftL ms X = Y := ⟨_, rfl⟩
            have cY : CSmall Y := by rw [← hY]; exact rows_small (shift_short ms X)
            have HYE := hidP hY
            have HYO : Hid (ctrsB ms Y = true) := by show _ = _; rw [← hY]; exact shiftL_ok PK.out.2.1
            obtain ⟨E1, hE1⟩ : ∃ E, costV ms Y = E := ⟨_, rfl⟩
            obtain ⟨E2, hE2⟩ : ∃ E, costV ms X = E := ⟨_, rfl⟩
            have hle : ¬ E1 > E2 := by have := lloyd PK.out.2.1; rw [hY, hE1, hE2] at this; omega
            have HE1 := hidP hE1
            have HE2 := hidP hE2
            have nY : Y.length ≤ 60 := by rw [← hY]; exact (shift_short ms X).1
            clear hY hE1 hE2
            go_wp2_with fail
            refine HST.out.mono ?_
            rintro e w7 ⟨rfl, L7⟩
            have P7 : Hid (CView w7 a X ∧ PLl w7 al ac sa ag ms cs S G ∧ Below w.heap.size w w7) := ⟨PK.out.1.next L7, PK.out.2.2.1.next L7, chain PK.out.2.2.2 L7⟩
            have HSH := hidP (iShiftC al a cl d ms X w7 P7.out.2.1.1 P7.out.1 hsm cX)
            rw [HYE.out] at HSH
            clear L7 PK HST
            go_wp2_with fail
            refine HSH.out.mono ?_
            rintro e w8 ⟨ay, dy, rfl, vY, L8⟩
            have P8 : Hid (CView w8 a X ∧ CView w8 ay Y ∧ PLl w8 al ac sa ag ms cs S G ∧ Below w.heap.size w w8) := ⟨P7.out.1.next L8, vY, P7.out.2.1.next L8, chain P7.out.2.2 L8⟩
            have HCF := hidP (iCost al ay cl dy ms Y w8 P8.out.2.2.1.1 vY hsm cY)
            rw [HE1.out] at HCF
            clear L8 P7 HSH vY
            go_wp2_with fail
            refine HCF.out.mono ?_
            rintro e w9 ⟨rfl, L9⟩
            have P9 : Hid (CView w9 a X ∧ CView w9 ay Y ∧ PLl w9 al ac sa ag ms cs S G ∧ Below w.heap.size w w9) := ⟨P8.out.1.next L9, P8.out.2.1.next L9, P8.out.2.2.1.next L9, chain P8.out.2.2.2 L9⟩
            have HCG := hidP (iCost al a cl d ms X w9 P9.out.2.2.1.1 P9.out.1 hsm cX)
            rw [HE2.out] at HCG
            clear L9 P8 HCF
            go_wp2_with fail
            refine HCG.out.mono ?_
            rintro e wd ⟨rfl, Ld⟩
            have Pd : Hid (CView wd ay Y ∧ PLl wd al ac sa ag ms cs S G ∧ Below w.heap.size w wd) := ⟨P9.out.2.1.next Ld, P9.out.2.2.1.next Ld, chain P9.out.2.2.2 Ld⟩
            clear Ld P9 HCG
            go_wp2_with fail
            go_roundw
            case rel => exact ⟨k + 1, ay, dy, Y, by omega, by go_num, rfl, Pd.out.1, cY, HYO.out, Pd.out.2.1, Pd.out.2.2⟩
            case measure => simp [intOf]; omega
          · rw [hst] at HST
            clear hst
            go_wp2_with fail
            refine HST.out.mono ?_
            rintro e w7 ⟨rfl, L7⟩
            have L7' := hidP (chain PK.out.2.2.2 L7)
            clear L7 PK HST
            go_wp2_with fail
            go_ret
            exact ⟨rfl, L7'.out⟩
        · have hkI : ¬ (k : Int) < 40 := by omega
          clear vX hX hP hL
          go_wp2_with fail
          go_ret
          exact ⟨rfl, PK.out.2.2.2⟩

set_option maxRecDepth 100000 in
theorem lifted (os : Os) (started : os.Started) (H : Type) (enc : TypeId × Value → H) :
    ReturnsInHanded {} Try.checked os 3 .any (Rows.fnLloydSpec.pre6 enc Try.prog Try.f3 Rows.fnLloydRow.domain false) (Rows.fnLloydSpec.post enc Try.prog Try.f3 false true false false) := by
  refine returnsInHanded_of_change (C := Try.checked) own started (by kernel_rfl) Try.func3
    (ChangeSpec.witness6 (enc := enc) (C := Try.checked) false ⟨#[], #[.slice none 0 0], []⟩ 8 (by kernel_rfl) (by kernel_rfl) (by kernel_rfl) (by kernel_rfl)) ?_
  intro W base args ds gs before hval0 hW hcnd _
  have hval : ∀ (j : Nat) t v, Try.f3.params[j]? = some t → args[j]? = some v → Value.okWide Try.prog W .any base t v := hval0
  have hW' := hW
  obtain ⟨p, q, hA0, hV, rfl, hfz, hnd⟩ := hW
  have hA : DataW.TrodAll enc Try.prog W 0 (fun _ => true) true Try.f3.params.toList args.toList ds p := hA0
  rw [Try.params3] at hA hval
  obtain ⟨v0, vs0, d0, ds0, p0, q0, hargs, rfl, rfl, h0, r0⟩ := trodAll_cons hA
  obtain ⟨rfl, rfl, rfl⟩ := trodAll_nil r0
  obtain rfl : args = #[v0] := by cases args; simp_all
  obtain ⟨rfl, rfl⟩ := trodVars_none hV
  obtain ⟨a0, len0, cap0, rfl⟩ := okWide_slice Try.underlying22 (hval 0 22 v0 rfl rfl)
  have k0 := h0
  have lt0 : ∀ x ∈ p0, x.block < W.heap.size := by obtain ⟨m, hm⟩ := k0; exact DataW.trod_lt m _ _ _ hm
  obtain ⟨hv0, hn0⟩ := (by obtain ⟨fuel, hf⟩ := h0; exact code_view hf : CodeV W a0 len0 ∧ len0 ≤ maxLen)
  clear hA0 hval0
  refine (walk a0 len0 cap0 W hv0 hn0).mono fun e W' ⟨he, bel⟩ => ?_
  subst he
  exact ⟨_, rfl, _, _, _, [], _, [], hW', trodAll_mk1 (shut_bool Try.underlying4 _), (trodAll_cons_mk (Below.trod laidOut (by kernel_rfl) (of_decide_eq_true (by kernel_rfl)) k0 bel lt0) trodAll_mk0), rfl, bel.frame _, fun h => by cases h⟩

theorem over : Rows.fnLloydRow.holds Try.pinned (OpenSpec.ofChange Rows.fnLloydSpec) :=
  OpenClaim.holds_of_wide 3 Try.f3 rfl rfl rfl rfl rfl rfl rfl ⟨rfl, rfl, rfl, rfl, rfl⟩ rfl rfl rfl rfl rfl (by kernel_rfl) Try.func3 (by kernel_rfl)
    (of_decide_eq_true (by kernel_rfl)) (by unfold Func.isWrapper; first | (rw [if_pos (by decide +kernel)]; kernel_rfl) | (rw [if_neg (by decide +kernel)]; exact ⟨rfl, rfl⟩))
    (fun os started H enc _ => lifted os started H enc)

end Go.Proofs.Ythcjkneifkmkdaa.fnLloyd
namespace Go.Proofs.Ythcjkneifkmkdaa

theorem FnLloyd_holds : Rows.FnLloydSaid := fnLloyd.over

end Go.Proofs.Ythcjkneifkmkdaa
