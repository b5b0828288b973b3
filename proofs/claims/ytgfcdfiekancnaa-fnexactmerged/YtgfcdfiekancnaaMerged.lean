/-
  At every two lists of hits and every count the program's Merged answers as the given one, changes nothing that came in, and owns its answer.
-/
import Derived.Test.YtgfcdfiekancnaaHArgs
import Derived.Test.YtgfcdfiekancnaaHMC
namespace Go.Proofs.Ytgfcdfiekancnaa.fnExactMerged
open Go.ChangeShapes Go.WideShapes Go.ChangeAt Go.RowKit
set_option linter.unusedVariables false

theorem own : ownKnob Try.prog.godebug = none := by kernel_rfl
theorem laidOut : laidOutB Try.prog = true := by kernel_rfl

set_option maxRecDepth 100000 in
set_option maxHeartbeats 4000000 in
theorem walk (ao0 : Option Addr) (cap0 : Nat) (hs0 : List Ht) (ao1 : Option Addr) (cap1 : Nat) (hs1 : List Ht) (x2 : Int) (w : World) (hv0 : HView w ao0 hs0) (hn0 : hs0.length ≤ maxLen) (hwf0 : HWf hs0) (hv1 : HView w ao1 hs1) (hn1 : hs1.length ≤ maxLen) (hwf1 : HWf hs1) (hx2 : (Lit.int .i64 x2).wf = true) :
    Calls Try.prog 6 #[.slice ao0 hs0.length cap0, .slice ao1 hs1.length cap1, .int .i64 x2] w fun e w' => e = .returned (.bool true) ∧ Below w.heap.size w w' := by
  go_enter Try.func6, Try.ntmps6
  go_wp2_with fail
  refine (szHS ao0 hs0.length cap0 _ _ hn0 (by omega) (by omega)).mono ?_
  rintro e w1 ⟨rfl, hw1⟩
  subst w1
  by_cases hbig : cutV 1048576 hs0.length < 0
  · go_wp2_with fail
    go_ret
    exact ⟨rfl, Below.refl _ _⟩
  · have hc0 := cutV_le (left := 1048576) hs0.length (by omega) (by omega)
    have hsm0 : (hs0.length : Int) = 1048576 - cutV 1048576 hs0.length := by unfold cutV at hbig ⊢; split at hbig <;> (first | omega | (rename_i hx; rw [if_neg hx]; omega))
    go_wp2_with fail
    refine (szHS ao1 hs1.length cap1 _ _ hn1 (by omega) (by omega)).mono ?_
    rintro e w1 ⟨rfl, hw1⟩
    subst w1
    by_cases hbig2 : cutV (cutV 1048576 hs0.length) hs1.length < 0
    · go_wp2_with fail
      go_ret
      exact ⟨rfl, Below.refl _ _⟩
    · have hsum : hs0.length + hs1.length ≤ 1048576 := by
        have h1 : (hs1.length : Int) ≤ cutV 1048576 hs0.length := by
          unfold cutV at hbig2
          split at hbig2
          · omega
          · have : 0 ≤ cutV 1048576 hs0.length - (hs1.length : Int) := by unfold cutV; omega
            unfold cutV at this ⊢; omega
        omega
      clear hsm0 hc0
      have hsa : hs0.length ≤ 1048576 := by omega
      have hsb : hs1.length ≤ 1048576 := by omega
      obtain ⟨R, hR⟩ : ∃ R, R = mergedL hs0 hs1 x2 := ⟨_, rfl⟩
      have hRl : R.length ≤ 60 := by rw [hR]; exact merged_len _ _ _
      have HR := hidP hR
      clear hR
      go_wp2_with fail
      refine (toHS ao0 cap0 hs0 _ hv0 hsa).mono ?_
      rintro e w2 ⟨b2, rfl, p2, L2⟩
      go_wp2_with fail
      refine (toHS ao1 cap1 hs1 _ (hv1.next L2) hsb).mono ?_
      rintro e w3 ⟨b3, rfl, p3, L3⟩
      replace p2 := p2.below (Nat.le_refl _) L3
      replace L3 := chain L2 L3
      clear L2
      go_wp2_with fail
      have HC := hidP (sMerged (some ⟨b2, 0, none⟩) (some ⟨b3, 0, none⟩) hs0.length hs1.length hs0 hs1 x2 w3 p2.view p3.view hsa hsb)
      rw [← HR.out] at HC
      refine HC.out.mono ?_
      rintro e w4 ⟨gw, cw, rfl, pw, L4⟩
      replace pw := pw.mono L3.size
      replace L4 := chain L3 L4
      clear L3 p2 p3 HC
      go_wp2_with fail
      refine (toHS ao0 cap0 hs0 _ (hv0.next L4) hsa).mono ?_
      rintro e w5 ⟨bx, rfl, px, L5⟩
      have hgx : gw < bx := Nat.lt_of_lt_of_le pw.lt.2 px.lt.1
      replace pw := pw.below (Nat.le_refl _) L5
      replace px := px.mono L4.size
      replace L5 := chain L4 L5
      clear L4
      go_wp2_with fail
      refine (toHS ao1 cap1 hs1 _ (hv1.next L5) hsb).mono ?_
      rintro e w6 ⟨bz, rfl, pz, L6⟩
      have hxz : bx < bz := Nat.lt_of_lt_of_le px.lt.2 pz.lt.1
      replace pw := pw.below (Nat.le_refl _) L6
      replace px := px.below (Nat.le_refl _) L6
      replace pz := pz.mono L5.size
      replace L6 := chain L5 L6
      clear L5
      have HC := hidP (iMerged (some ⟨bx, 0, none⟩) (some ⟨bz, 0, none⟩) hs0.length hs1.length hs0 hs1 x2 w6 px.view pz.view hsum)
      rw [← HR.out] at HC
      go_wp2_with fail
      refine HC.out.mono ?_
      rintro e w7 ⟨v, rfl, po, L7⟩
      have hz6 : bz < w6.heap.size := pz.lt.2
      replace pw := pw.below (Nat.le_refl _) L7
      replace px := px.below (Nat.le_refl _) L7
      replace pz := pz.below (Nat.le_refl _) L7
      have h06 := L6.size
      replace L7 := chain L6 L7
      clear L6 HC
      obtain ⟨ag, cg, rfl, vg⟩ := po.view
      have P7 := hidP (And.intro pw (And.intro px (And.intro pz po)))
      clear pw px pz po
      have stp : ∀ wa wb, Below wa.heap.size wa wb → HRow w.heap.size wa gw cw R ∧ HRow w.heap.size wa bx hs0.length hs0 ∧ HRow w.heap.size wa bz hs1.length hs1 ∧ HOut w6.heap.size wa (.slice ag R.length cg) R → HRow w.heap.size wb gw cw R ∧ HRow w.heap.size wb bx hs0.length hs0 ∧ HRow w.heap.size wb bz hs1.length hs1 ∧ HOut w6.heap.size wb (.slice ag R.length cg) R :=
        fun wa wb hb ⟨h1, h2, h3, h4⟩ => ⟨h1.below (Nat.le_refl _) hb, h2.below (Nat.le_refl _) hb, h3.below (Nat.le_refl _) hb, h4.below hb⟩
      have STP := hidP stp
      clear stp
      go_wp2_with fail
      refine (eqHS _ _ _ _ R R _ vg P7.out.1.view (by omega)).mono ?_
      rintro e w8 ⟨rfl, L8⟩
      have P8 := hidP (STP.out _ _ L8 P7.out)
      replace L8 := chain L7 L8
      have ht : decide (R = R) = true := by simp
      clear L7 P7 vg
      go_wp2_with fail
      refine (toHS ao0 cap0 hs0 _ (hv0.next L8) hsa).mono ?_
      rintro e w9 ⟨b9, rfl, p9, L9⟩
      have P9 := hidP (STP.out _ _ L9 P8.out)
      replace L9 := chain L8 L9
      clear L8 P8
      go_wp2_with fail
      refine (eqHS _ _ _ _ hs0 hs0 _ P9.out.2.1.view p9.view (by omega)).mono ?_
      rintro e wa ⟨rfl, La⟩
      have Pa := hidP (STP.out _ _ La P9.out)
      replace La := chain L9 La
      have ht0 : decide (hs0 = hs0) = true := by simp
      clear L9 P9 p9
      go_wp2_with fail
      refine (toHS ao1 cap1 hs1 _ (hv1.next La) hsb).mono ?_
      rintro e wb ⟨bb, rfl, pb, Lb⟩
      have Pb := hidP (STP.out _ _ Lb Pa.out)
      replace Lb := chain La Lb
      clear La Pa
      go_wp2_with fail
      refine (eqHS _ _ _ _ hs1 hs1 _ Pb.out.2.2.1.view pb.view (by omega)).mono ?_
      rintro e wc ⟨rfl, Lc⟩
      have Pc := hidP (STP.out _ _ Lc Pb.out)
      replace Lc := chain Lb Lc
      have ht1 : decide (hs1 = hs1) = true := by simp
      clear Lb Pb pb
      go_wp2_with fail
      refine (markHS w.heap.size bx hs0.length 1 hs0 wc Pc.out.2.1 (by omega) (by omega) (by omega)).mono ?_
      rintro e wd ⟨rfl, pd, gd⟩
      have Pd : Hid (HRow w.heap.size wd gw cw R ∧ HRow w.heap.size wd bz hs1.length hs1 ∧ HOut w6.heap.size wd (.slice ag R.length cg) R) :=
        ⟨Pc.out.1.kept gd (fun e => by injection e with e; omega), Pc.out.2.2.1.kept gd (fun e => by injection e with e; omega), Pc.out.2.2.2.kept gd (by omega)⟩
      have Ld := below_far Lc gd (fun g hg => by cases hg; exact Pc.out.2.1.lt.1)
      clear Pc Lc pd gd
      go_wp2_with fail
      refine (markHS w.heap.size bz hs1.length (1 + 2 * (hs0.length : Int)) hs1 wd Pd.out.2.1 (by omega) (by omega) (by omega)).mono ?_
      rintro e we ⟨rfl, pe, ge⟩
      have Pe : Hid (HRow w.heap.size we gw cw R ∧ HOut w6.heap.size we (.slice ag R.length cg) R) :=
        ⟨Pd.out.1.kept ge (fun e => by injection e with e; omega), Pd.out.2.2.kept ge (by omega)⟩
      have Le := below_far Ld ge (fun g hg => by cases hg; exact Pd.out.2.1.lt.1)
      clear Pd Ld pe ge
      have hk0 : ¬ (1 + 2 * (hs0.length : Int) + 2 * (hs1.length : Int) < 0) := by omega
      have Ve : Hid (HView we ag R) := by
        obtain ⟨a', c', e', h'⟩ := Pe.out.2.view
        injection e' with e1 e2 e3
        rw [e1]; exact h'
      go_wp2_with fail
      refine (eqHS _ _ _ _ R R _ Ve.out Pe.out.1.view (by omega)).mono ?_
      rintro e wf ⟨rfl, Lf⟩
      have Pf : Hid (HRow w.heap.size wf gw cw R ∧ HOut w6.heap.size wf (.slice ag R.length cg) R) := ⟨Pe.out.1.below (Nat.le_refl _) Lf, Pe.out.2.below Lf⟩
      replace Lf := chain Le Lf
      clear Le Pe Ve
      go_wp2_with fail
      refine (markOut w6.heap.size cg ag R wf Pf.out.2 (by omega)).mono ?_
      rintro e wg ⟨rfl, vg, r, gg, hr⟩
      have Vg := hidP vg
      have Pg := hidP (Pf.out.1.kept gg (fun e => by have := hr gw e.symm; omega))
      have Lg := below_far Lf gg (fun g hg => by have := hr g hg; omega)
      clear Lf Pf gg hr vg
      go_wp2_with fail
      refine (heldHS ag cg R.length 1 wg Vg.out (by omega) (by omega) (by omega)).mono ?_
      rintro e wh ⟨rfl, hwh⟩
      subst wh
      have hq0 : ¬ (1 + 2 * (R.length : Int) < 0) := by omega
      have hqq : ((1 + 2 * (R.length : Int)) != (1 + 2 * (R.length : Int))) = false := by simp
      go_wp2_with fail
      refine (toHS ao0 cap0 hs0 _ (hv0.next Lg) hsa).mono ?_
      rintro e wi ⟨bi, rfl, pi, Li⟩
      have Vi := hidP (Vg.out.next Li)
      have Pi := hidP (Pg.out.below (Nat.le_refl _) Li)
      replace Li := chain Lg Li
      clear Lg Vg Pg
      go_wp2_with fail
      refine (toHS ao1 cap1 hs1 _ (hv1.next Li) hsb).mono ?_
      rintro e wj ⟨bj, rfl, pj, Lj⟩
      have Vj := hidP (Vi.out.next Lj)
      have Pj := hidP (Pi.out.below (Nat.le_refl _) Lj)
      replace pi := pi.below (Nat.le_refl _) Lj
      replace Lj := chain Li Lj
      clear Li Vi Pi
      have HC := hidP (iMerged (some ⟨bi, 0, none⟩) (some ⟨bj, 0, none⟩) hs0.length hs1.length hs0 hs1 x2 wj pi.view pj.view hsum)
      rw [← HR.out] at HC
      go_wp2_with fail
      refine HC.out.mono ?_
      rintro e wk ⟨v2, rfl, po, Lk⟩
      have Vk := hidP (Vj.out.next Lk)
      have Pk := hidP (Pj.out.below (Nat.le_refl _) Lk)
      replace Lk := chain Lj Lk
      clear Lj Vj Pj HC pi pj
      obtain ⟨ah, ch, rfl, vh⟩ := po.view
      go_wp2_with fail
      refine (eqHS _ _ _ _ R R _ vh Pk.out.view (by omega)).mono ?_
      rintro e wl ⟨rfl, Ll⟩
      have Vl := hidP (Vk.out.next Ll)
      replace Ll := chain Lk Ll
      clear Lk Vk Pk vh po
      go_wp2_with fail
      refine (heldHS ag cg R.length 1 wl Vl.out (by omega) (by omega) (by omega)).mono ?_
      rintro e wm ⟨rfl, hwm⟩
      subst wm
      go_wp2_with fail
      go_ret
      exact ⟨rfl, Ll⟩

set_option maxRecDepth 100000 in
theorem lifted (os : Os) (started : os.Started) (H : Type) (enc : TypeId × Value → H) :
    ReturnsInHanded {} Try.checked os 6 .any (Rows.fnExactMergedSpec.pre6 enc Try.prog Try.f6 Rows.fnExactMergedRow.domain false) (Rows.fnExactMergedSpec.post enc Try.prog Try.f6 false true false false) := by
  refine returnsInHanded_of_change (C := Try.checked) own started (by kernel_rfl) Try.func6
    (ChangeSpec.witness6 (enc := enc) (C := Try.checked) false ⟨#[], #[.slice none 0 0, .slice none 0 0, .int .i64 0], []⟩ 8 (by kernel_rfl) (by kernel_rfl) (by kernel_rfl) (by kernel_rfl)) ?_
  intro W base args ds gs before hval0 hW hcnd _
  have hval : ∀ (j : Nat) t v, Try.f6.params[j]? = some t → args[j]? = some v → Value.okWide Try.prog W .any base t v := hval0
  have hW' := hW
  obtain ⟨p, q, hA0, hV, rfl, hfz, hnd⟩ := hW
  have hA : DataW.TrodAll enc Try.prog W 0 (fun _ => true) true Try.f6.params.toList args.toList ds p := hA0
  rw [Try.params6] at hA hval
  obtain ⟨v0, vs0, d0, ds0, p0, q0, hargs, rfl, rfl, h0, r0⟩ := trodAll_cons hA
  obtain ⟨v1, vs1, d1, ds1, p1, q1, rfl, rfl, rfl, h1, r1⟩ := trodAll_cons r0
  obtain ⟨v2, vs2, d2, ds2, p2, q2, rfl, rfl, rfl, h2, r2⟩ := trodAll_cons r1
  obtain ⟨rfl, rfl, rfl⟩ := trodAll_nil r2
  obtain rfl : args = #[v0, v1, v2] := by cases args; simp_all
  obtain ⟨rfl, rfl⟩ := trodVars_none hV
  obtain ⟨a0, len0, cap0, rfl⟩ := okWide_slice Try.underlying47 (hval 0 47 v0 rfl rfl)
  have k0 := h0
  have lt0 : ∀ x ∈ p0, x.block < W.heap.size := by obtain ⟨m, hm⟩ := k0; exact DataW.trod_lt m _ _ _ hm
  obtain ⟨hs0, rfl, hv0, hn0, hwf0⟩ := (by obtain ⟨fuel, hf⟩ := h0; exact hits_view hf : ∃ hs : List Ht, len0 = hs.length ∧ HView W a0 hs ∧ hs.length ≤ maxLen ∧ HWf hs)
  obtain ⟨a1, len1, cap1, rfl⟩ := okWide_slice Try.underlying47 (hval 1 47 v1 rfl rfl)
  have k1 := h1
  have lt1 : ∀ x ∈ p1, x.block < W.heap.size := by obtain ⟨m, hm⟩ := k1; exact DataW.trod_lt m _ _ _ hm
  obtain ⟨hs1, rfl, hv1, hn1, hwf1⟩ := (by obtain ⟨fuel, hf⟩ := h1; exact hits_view hf : ∃ hs : List Ht, len1 = hs.length ∧ HView W a1 hs ∧ hs.length ≤ maxLen ∧ HWf hs)
  obtain ⟨a2, rfl, rfl, rfl, w2⟩ := open_int Try.underlying2 (hval 2 2 v2 rfl rfl) h2
  clear hA0 hval0
  refine (walk a0 cap0 hs0 a1 cap1 hs1 a2 W hv0 hn0 hwf0 hv1 hn1 hwf1 w2).mono fun e W' ⟨he, bel⟩ => ?_
  subst he
  exact ⟨_, rfl, _, _, _, [], _, [], hW', trodAll_mk1 (shut_bool Try.underlying4 _), (trodAll_cons_mk (Below.trod laidOut (by kernel_rfl) (of_decide_eq_true (by kernel_rfl)) k0 bel lt0) (trodAll_cons_mk (Below.trod laidOut (by kernel_rfl) (of_decide_eq_true (by kernel_rfl)) k1 bel lt1) (trodAll_cons_mk (shut_int Try.underlying2 w2) trodAll_mk0))), rfl, bel.frame _, fun h => by cases h⟩

theorem over : Rows.fnExactMergedRow.holds Try.pinned (OpenSpec.ofChange Rows.fnExactMergedSpec) :=
  OpenClaim.holds_of_wide 6 Try.f6 rfl rfl rfl rfl rfl rfl rfl ⟨rfl, rfl, rfl, rfl, rfl⟩ rfl rfl rfl rfl rfl (by kernel_rfl) Try.func6 (by kernel_rfl)
    (of_decide_eq_true (by kernel_rfl)) (by unfold Func.isWrapper; first | (rw [if_pos (by decide +kernel)]; kernel_rfl) | (rw [if_neg (by decide +kernel)]; exact ⟨rfl, rfl⟩))
    (fun os started H enc _ => lifted os started H enc)

end Go.Proofs.Ytgfcdfiekancnaa.fnExactMerged
namespace Go.Proofs.Ytgfcdfiekancnaa

theorem FnExactMerged_holds : Rows.FnExactMergedSaid := fnExactMerged.over

end Go.Proofs.Ytgfcdfiekancnaa
