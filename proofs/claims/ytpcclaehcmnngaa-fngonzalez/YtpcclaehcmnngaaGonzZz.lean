/-
  FnGonzalez holds: for every draw the radius of what is chosen is at most twice the best by steps and reach (four times by far), with more of them no farther; Chosen, Radius and BestRadius answer as the given ones; no condition.
-/
import Derived.Test.YtpcclaehcmnngaaZLawZz
import Derived.Deep.Cut
namespace Go.Proofs.Ytpcclaehcmnngaa.fnGonzalez
open Go.ChangeShapes Go.WideShapes Go.ChangeAt Go.RowKit
set_option linter.unusedVariables false

theorem own : ownKnob Try.prog.godebug = none := by kernel_rfl
theorem laidOut : laidOutB Try.prog = true := by kernel_rfl

set_option maxRecDepth 100000 in
set_option maxHeartbeats 4000000 in
theorem walk (ao0 : Option Addr) (len0 cap0 : Nat) (w : World) (hv0 : CodeV w ao0 len0) (hn0 : len0 ≤ maxLen) :
    Calls Try.prog 3 #[.slice ao0 len0 cap0] w fun e w' => e = .returned (.bool true) ∧ Below w.heap.size w w' := by
  by_cases hbig : 4096 < len0
  · have hbb : decide (4096 < (len0 : Int)) = true := by simp; omega
    go_enter Try.func3, Try.ntmps3
    go_wp2_with fail
    refine (bigC ao0 len0 cap0 _).mono ?_
    rintro e w1 ⟨rfl, hw1⟩
    subst hw1
    go_wp2_with fail
    go_ret
    exact ⟨rfl, Below.refl _ _⟩
  have hbb : decide (4096 < (len0 : Int)) = false := by simp; omega
  have hn : len0 ≤ 4096 := by omega
  clear hn0 hbig
  go_enter Try.func3, Try.ntmps3
  go_wp2_with fail
  refine (bigC ao0 len0 cap0 _).mono ?_
  rintro e w0 ⟨rfl, hw0⟩
  subst hw0
  rw [hbb]
  clear hbb
  go_wp2_with fail
  refine (cDrawBR ao0 len0 cap0 _ hv0 hn).mono ?_
  rintro e w1 ⟨gl, cl, ms, k, kd, rfl, v1, hsm, hk0, hk5, L1⟩
  obtain ⟨C, hC⟩ : ∃ C, choL ms k kd = C := ⟨_, rfl⟩
  obtain ⟨best, hB⟩ : ∃ best, bradI ms k kd = best := ⟨_, rfl⟩
  obtain ⟨r, hR⟩ : ∃ r, radI ms C kd = r := ⟨_, rfl⟩
  have nC : C.length ≤ 60 := by rw [← hC]; exact choL_short ms k kd
  have HBE := hidP hB
  have HCE := hidP hC
  have HRE := hidP hR
  have HV1 := hidP v1
  have hn60 := hsm.1
  have HC1 := hidP (iBestR (some ⟨gl, 0, none⟩) cl ms k kd w1 v1 hsm)
  rw [hB] at HC1
  clear hB hC hR v1
  go_wp2_with fail
  refine HC1.out.mono ?_
  rintro e w2 ⟨rfl, M2⟩
  have L2 := chain L1 M2
  have HV2 := hidP (HV1.out.next M2)
  have HC2 := hidP (iChosen (some ⟨gl, 0, none⟩) cl ms k kd w2 HV2.out hsm)
  rw [HCE.out] at HC2
  clear HC1 HV1 M2 L1
  go_wp2_with fail
  refine HC2.out.mono ?_
  rintro e w3 ⟨ac, dc, rfl, O3, M3⟩
  have L3 := chain L2 M3
  have HV3 := hidP (And.intro (HV2.out.next M3) O3.slice)
  have HCP : Hid (0 < C.length → C.length ≤ dc ∧ ∃ g, ac = some ⟨g, 0, none⟩) := fun h0 => by
    obtain ⟨q1, g, q2, -, -⟩ := O3.cap h0
    exact ⟨q1, g, q2⟩
  have HC3 := hidP (iRadius (some ⟨gl, 0, none⟩) ac cl dc ms C kd w3 HV3.out.1 HV3.out.2 hsm (by omega))
  rw [HRE.out] at HC3
  clear HC2 HV2 M3 L2 O3
  go_wp2_with fail
  refine HC3.out.mono ?_
  rintro e w4 ⟨rfl, M4⟩
  have L4 := chain L3 M4
  have HV4 := hidP (And.intro (HV3.out.1.next M4) (View.next HV3.out.2 M4))
  clear HC3 HV3 M4 L3
  go_wp2_with fail
  refine (cDrawR ao0 len0 cap0 _ (hv0.below (Nat.le_refl _) L4) hn).mono ?_
  rintro e w5 ⟨g2, c2, ms2, gi, ci, xs, nk, rfl, v2, hsm2, vx, hx4, M5⟩
  have P5 : Hid (MView w5 (some ⟨gl, 0, none⟩) ms ∧ View w5 ac C ∧ MView w5 (some ⟨g2, 0, none⟩) ms2 ∧ View w5 (some ⟨gi, 0, none⟩) xs ∧ Below w.heap.size w w5) := ⟨HV4.out.1.next M5, View.next HV4.out.2 M5, v2, vx, chain L4 M5⟩
  have STP : Hid (∀ wa wb, Below wa.heap.size wa wb → (MView wa (some ⟨gl, 0, none⟩) ms ∧ View wa ac C ∧ MView wa (some ⟨g2, 0, none⟩) ms2 ∧ View wa (some ⟨gi, 0, none⟩) xs ∧ Below w.heap.size w wa) → (MView wb (some ⟨gl, 0, none⟩) ms ∧ View wb ac C ∧ MView wb (some ⟨g2, 0, none⟩) ms2 ∧ View wb (some ⟨gi, 0, none⟩) xs ∧ Below w.heap.size w wb)) :=
    fun wa wb L h => ⟨h.1.next L, View.next h.2.1 L, h.2.2.1.next L, View.next h.2.2.2.1 L, chain h.2.2.2.2 L⟩
  obtain ⟨r2, hR2⟩ : ∃ r2, radI ms2 xs nk = r2 := ⟨_, rfl⟩
  have HR2 := hidP hR2
  clear hR2 HV4 M5 v2 vx L4 hv0
  have HC5 := hidP (sBestR (some ⟨gl, 0, none⟩) cl ms k kd w5 P5.out.1 hsm)
  rw [HBE.out] at HC5
  go_wp2_with fail
  refine HC5.out.mono ?_
  rintro e w6 ⟨rfl, M6⟩
  have P6 := hidP (STP.out _ _ M6 P5.out)
  have HC6 := hidP (sChosen (some ⟨gl, 0, none⟩) cl ms k kd w6 P6.out.1 hsm)
  rw [HCE.out] at HC6
  have hbb : (best != best) = false := by simp
  clear P5 M6 HC5
  go_wp2_with fail
  refine HC6.out.mono ?_
  rintro e w7 ⟨gx, cx, rfl, row7, M7⟩
  have P7 := hidP (STP.out _ _ M7 P6.out)
  have vx7 := row7.view
  clear P6 M7 HC6 row7
  go_wp2_with fail
  refine (likeIB ac (some ⟨gx, 0, none⟩) dc cx C w7 P7.out.2.1 vx7 (by omega)).mono ?_
  rintro e w8 ⟨rfl, M8⟩
  have P8 := hidP (STP.out _ _ M8 P7.out)
  have HC8 := hidP (iRadius (some ⟨g2, 0, none⟩) (some ⟨gi, 0, none⟩) c2 ci ms2 xs nk w8 P8.out.2.2.1 P8.out.2.2.2.1 hsm2 (by omega))
  rw [HR2.out] at HC8
  clear P7 M8 vx7
  go_wp2_with fail
  refine HC8.out.mono ?_
  rintro e w9 ⟨rfl, M9⟩
  have P9 := hidP (STP.out _ _ M9 P8.out)
  have HC9 := hidP (sRadius (some ⟨g2, 0, none⟩) (some ⟨gi, 0, none⟩) c2 ci ms2 xs nk w9 P9.out.2.2.1 P9.out.2.2.2.1 hsm2 (by omega))
  rw [HR2.out] at HC9
  clear P8 M9 HC8
  go_wp2_with fail
  refine HC9.out.mono ?_
  rintro e wa ⟨rfl, na, hwa⟩
  have Ma : Below w9.heap.size w9 wa := by rw [hwa]; exact below_drewN (Below.refl _ _) na
  have Pa : Hid (MView wa (some ⟨gl, 0, none⟩) ms ∧ View wa ac C ∧ Below w.heap.size w wa) := by
    have h := STP.out _ _ Ma P9.out
    exact ⟨h.1, h.2.1, h.2.2.2.2⟩
  have hrr : (r2 != r2) = false := by simp
  clear P9 Ma hwa HC9 STP
  go_upto_region 10 with fail
  clear hbb hrr HR2
  rcases hbr : bradB ms k kd with _ | _
  · have hb1 : best = -1 := by rw [← HBE.out]; exact bradI_no hbr
    subst hb1
    go_wp2_with fail
    go_ret
    exact ⟨rfl, Pa.out.2.2⟩
  obtain ⟨t, ht, G⟩ := gonz_of hbr
  subst ht
  have hlen := G.len
  rw [HCE.out] at hlen
  subst hlen
  obtain ⟨hp1, hp2⟩ := G.pos
  obtain ⟨hcap, gc, rfl⟩ := HCP.out hp1
  have GO := hidP G.once
  have GL := hidP G.least
  have G2 := hidP G.two
  have G4 := hidP G.four
  have GA := hidP G.all
  have GN := hidP G.none
  have GM := hidP G.more
  have gb := G.bd
  rw [HCE.out] at GO GL G2 G4 GA GM gb
  rw [HRE.out] at GL G2 G4 GA GM gb
  rw [HBE.out] at GL G2 G4 GM gb
  clear G hbr HCP
  have hbn : ¬ best < 0 := by omega
  have HSC : Hid (Seg wa gc 0 C) := by
    have h := Pa.out.2.1
    rcases h with h | ⟨b, off, e, -, hs⟩
    · rw [h] at hp1; simp at hp1
    · injection e with e
      injection e with e1 e2
      subst e1 e2
      exact hs
  have hgcl : gc < wa.heap.size := by
    have h := Pa.out.2.1
    rcases h with h | ⟨b, off, e, hb, -⟩
    · rw [h] at hp1; simp at hp1
    · injection e with e
      injection e with e1 e2
      subst e1
      exact hb
  go_wp2_with fail
  go_loopw [12] (fun v wr => ∃ i : Nat, i ≤ C.length ∧ v = .int .i64 i ∧ ∃ n, wr = wa.drewN n) (fun v _ => C.length - (intOf v).toNat)
  case atStart => exact ⟨0, Nat.zero_le _, rfl, 0, rfl⟩
  case round =>
    obtain ⟨i, hi, rfl, hw⟩ := hrel
    have HW : Hid (∃ n, wr = wa.drewN n) := hw
    clear hw
    by_cases hlt : i < C.length
    · have hcell : wr.cell? ⟨gc, i, none⟩ = some (.int .i64 (nth C i)) := by
        obtain ⟨n, rfl⟩ := HW.out
        have := HSC.out i hlt
        rwa [Nat.zero_add] at this
      have HH : Hid (∀ m, Calls Try.prog 17 #[.slice (some ⟨gc, 0, none⟩) i dc, .int .i64 (nth C i)] (wr.drewN m) fun e w' => e = .returned (.bool false) ∧ w' = wr.drewN m) := fun m => by
        have hv : View (wr.drewN m) (some ⟨gc, 0, none⟩) (C.take i) := by
          obtain ⟨n, rfl⟩ := HW.out
          exact Or.inr ⟨gc, 0, rfl, hgcl, HSC.out.take i⟩
        have h := lHas (some ⟨gc, 0, none⟩) dc (C.take i) (nth C i) (wr.drewN m) hv (by rw [List.length_take]; omega)
        rw [GO.out i hlt, List.length_take, show min i C.length = i by omega] at h
        exact h
      have hi0 : (0 : Int) ≤ (i : Int) := Int.natCast_nonneg _
      have hi1 : (i : Int) < (C.length : Int) := by omega
      have hi2 : (i : Int) ≤ (dc : Int) := by omega
      have hi3 : i ≤ dc := by omega
      generalize nth C i = x at *
      go_wp2_with fail
      go_quiet (first | (go_at_call 17; exact Calls.quiet_of_same (HH.out _)))
      go_wp2_with fail
      go_roundw
      case rel => exact ⟨i + 1, by omega, by go_num, by obtain ⟨n, hn⟩ := HW.out; exact ⟨n + nq, by rw [hn]; simp⟩⟩
      case measure => simp [intOf]; omega
    · obtain rfl : i = C.length := by omega
      have Pr : Hid (MView wr (some ⟨gl, 0, none⟩) ms ∧ View wr (some ⟨gc, 0, none⟩) C ∧ Below w.heap.size w wr) := by
        obtain ⟨n, rfl⟩ := HW.out
        exact ⟨Pa.out.1.drewN n, Pa.out.2.1.drewN n, below_drewN Pa.out.2.2 n⟩
      obtain ⟨M, hM⟩ : ∃ M, choL ms ((C.length : Int) + 1) kd = M := ⟨_, rfl⟩
      have HME := hidP hM
      have HC1 := hidP (iChosen (some ⟨gl, 0, none⟩) cl ms ((C.length : Int) + 1) kd wr Pr.out.1 hsm)
      rw [hM] at HC1 GM GN
      have nM : M.length ≤ 60 := by rw [← hM]; exact choL_short ms _ kd
      clear hM HW GO HSC Pa hgcl
      go_wp2_with fail
      refine HC1.out.mono ?_
      rintro e wb ⟨am, dm, rfl, Ob, Mb⟩
      have Pb : Hid (MView wb (some ⟨gl, 0, none⟩) ms ∧ View wb (some ⟨gc, 0, none⟩) C ∧ Below w.heap.size w wb) := ⟨Pr.out.1.next Mb, View.next Pr.out.2.1 Mb, chain Pr.out.2.2 Mb⟩
      have HOV := hidP Ob.slice
      clear HC1 Pr Mb
      have h2b : best * 2 ≤ 32000000 := by omega
      have hrb : ¬ r < best := by have := GL.out; omega
      have hcc : ((C.length : Int) != (C.length : Int)) = false := by simp
      by_cases hl : C.length < ms.length
      · obtain ⟨hMl, hMt, hMr, hMb⟩ := GM.out hl
        obtain ⟨hMc, gm, rfl, hMs, hgm⟩ := Ob.cap (by omega)
        have hm0 : (M.length : Int) > 0 := by omega
        have hcm : (C.length : Int) ≤ (dm : Int) := by omega
        have hcm2 : C.length ≤ dm := by omega
        have HVT : Hid (View wb (some ⟨gm, 0, none⟩) C) := by
          have h := hMs.take C.length
          rw [hMt] at h
          exact Or.inr ⟨gm, 0, rfl, hgm, h⟩
        have hll : (C.length : Int) < (ms.length : Int) := by omega
        clear hMl hMt hMs hMc Ob GM GN GA hgm
        go_wp2_with fail
        refine (likeIB (some ⟨gm, 0, none⟩) (some ⟨gc, 0, none⟩) dm dc C wb HVT.out Pb.out.2.1 (by omega)).mono ?_
        rintro e wc ⟨rfl, Mc⟩
        have Pc : Hid (MView wc (some ⟨gl, 0, none⟩) ms ∧ View wc (some ⟨gm, 0, none⟩) M ∧ Below w.heap.size w wc) := ⟨Pb.out.1.next Mc, View.next HOV.out Mc, chain Pb.out.2.2 Mc⟩
        have HC2 := hidP (iRadius (some ⟨gl, 0, none⟩) (some ⟨gm, 0, none⟩) cl dm ms M kd wc Pc.out.1 Pc.out.2.1 hsm (by omega))
        obtain ⟨r3, hr3⟩ : ∃ r3, radI ms M kd = r3 := ⟨_, rfl⟩
        rw [hr3] at HC2 hMr
        have hr3n : ¬ r3 > r := by omega
        clear Pb Mc HVT HOV hr3
        go_wp2_with fail
        refine HC2.out.mono ?_
        rintro e wd ⟨rfl, Md⟩
        have Pd : Hid (MView wd (some ⟨gl, 0, none⟩) ms ∧ Below w.heap.size w wd) := ⟨Pc.out.1.next Md, chain Pc.out.2.2 Md⟩
        have HC3 := hidP (iBestR (some ⟨gl, 0, none⟩) cl ms ((C.length : Int) + 1) kd wd Pd.out.1 hsm)
        obtain ⟨b3, hb3⟩ : ∃ b3, bradI ms ((C.length : Int) + 1) kd = b3 := ⟨_, rfl⟩
        rw [hb3] at HC3 hMb
        have hb3n : ¬ b3 > best := by omega
        clear Pc Md HC2 hb3
        go_wp2_with fail
        refine HC3.out.mono ?_
        rintro e we ⟨rfl, Me⟩
        have HLe := hidP (chain Pd.out.2 Me)
        clear Pd Me HC3
        by_cases hk1 : kd = 1
        · have hq := G4.out hk1
          subst hk1
          have hq2 : ¬ r > 4 * best := by omega
          go_wp2_with fail
          go_ret
          exact ⟨rfl, HLe.out⟩
        · have hq := G2.out hk1
          have hk2 : (kd != 1) = true := by simp [hk1]
          have hk3 : (kd == 1) = false := by simp [hk1]
          have hq2 : ¬ r > 2 * best := by omega
          clear hk1
          go_wp2_with fail
          go_ret
          exact ⟨rfl, HLe.out⟩
      · have hM0 := GN.out hl
        have hMn : M = [] := List.eq_nil_of_length_eq_zero hM0
        subst hMn
        have hr0 : r = 0 := by rcases GA.out with h | h; exact absurd h hl; exact h
        have hll : ¬ ((C.length : Int) < (ms.length : Int)) := by omega
        subst hr0
        clear hM0 GM GN GA Ob hl
        by_cases hk1 : kd = 1
        · have hq := G4.out hk1
          subst hk1
          have hq2 : ¬ (0 : Int) > 4 * best := by omega
          go_wp2_with fail
          go_ret
          exact ⟨rfl, Pb.out.2.2⟩
        · have hq := G2.out hk1
          have hk2 : (kd != 1) = true := by simp [hk1]
          have hk3 : (kd == 1) = false := by simp [hk1]
          have hq2 : ¬ (0 : Int) > 2 * best := by omega
          clear hk1
          go_wp2_with fail
          go_ret
          exact ⟨rfl, Pb.out.2.2⟩

set_option maxRecDepth 100000 in
theorem lifted (os : Os) (started : os.Started) (H : Type) (enc : TypeId × Value → H) :
    ReturnsInHanded {} Try.checked os 3 .any (Rows.fnGonzalezSpec.pre6 enc Try.prog Try.f3 Rows.fnGonzalezRow.domain false) (Rows.fnGonzalezSpec.post enc Try.prog Try.f3 false true false false) := by
  refine returnsInHanded_of_change (C := Try.checked) own started (by kernel_rfl) Try.func3
    (ChangeSpec.witness6 (enc := enc) (C := Try.checked) false ⟨#[], #[.slice none 0 0], []⟩ 8 (by kernel_rfl) (by kernel_rfl) (by kernel_rfl) (by kernel_rfl)) ?_
  intro W base args ds gs before hval0 hW hcnd _
  have hval : ∀ (j : Nat) t v, Try.f3.params[j]? = some t → args[j]? = some v → Value.okWide Try.prog W .any base t v := hval0
  have hW' := hW
  obtain ⟨p, q, hA0, hV, rfl, hfz, hnd⟩ := hW
  have hA : DataW.TrodAll enc Try.prog W 0 (fun _ => true) true Try.f3.params.toList args.toList ds p := hA0
  rw [Try.params3] at hA hval
  obtain ⟨v0, vs0, d0, ds0, p0, q0, hargs, rfl, rfl, h0, r0⟩ := trodAll_cons hA
  obtain ⟨rfl, rfl, rfl⟩ := trodAll_nil r0
  obtain rfl : args = #[v0] := by cases args; simp_all
  obtain ⟨rfl, rfl⟩ := trodVars_none hV
  obtain ⟨a0, len0, cap0, rfl⟩ := okWide_slice Try.underlying22 (hval 0 22 v0 rfl rfl)
  have k0 := h0
  have lt0 : ∀ x ∈ p0, x.block < W.heap.size := by obtain ⟨m, hm⟩ := k0; exact DataW.trod_lt m _ _ _ hm
  obtain ⟨hv0, hn0⟩ := (by obtain ⟨fuel, hf⟩ := h0; exact code_view hf : CodeV W a0 len0 ∧ len0 ≤ maxLen)
  clear hA0 hval0
  refine (walk a0 len0 cap0 W hv0 hn0).mono fun e W' ⟨he, bel⟩ => ?_
  subst he
  exact ⟨_, rfl, _, _, _, [], _, [], hW', trodAll_mk1 (shut_bool Try.underlying4 _), (trodAll_cons_mk (Below.trod laidOut (by kernel_rfl) (of_decide_eq_true (by kernel_rfl)) k0 bel lt0) trodAll_mk0), rfl, bel.frame _, fun h => by cases h⟩

theorem over : Rows.fnGonzalezRow.holds Try.pinned (OpenSpec.ofChange Rows.fnGonzalezSpec) :=
  OpenClaim.holds_of_wide 3 Try.f3 rfl rfl rfl rfl rfl rfl rfl ⟨rfl, rfl, rfl, rfl, rfl⟩ rfl rfl rfl rfl rfl (by kernel_rfl) Try.func3 (by kernel_rfl)
    (of_decide_eq_true (by kernel_rfl)) (by unfold Func.isWrapper; first | (rw [if_pos (by decide +kernel)]; kernel_rfl) | (rw [if_neg (by decide +kernel)]; exact ⟨rfl, rfl⟩))
    (fun os started H enc _ => lifted os started H enc)

end Go.Proofs.Ytpcclaehcmnngaa.fnGonzalez
namespace Go.Proofs.Ytpcclaehcmnngaa

theorem FnGonzalez_holds : Rows.FnGonzalezSaid := fnGonzalez.over

end Go.Proofs.Ytpcclaehcmnngaa
