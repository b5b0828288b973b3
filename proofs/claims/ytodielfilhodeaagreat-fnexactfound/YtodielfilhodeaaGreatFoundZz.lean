/-
  At every list of knots, every place and every count the program's Found answers as the given one, changes nothing that came in, and owns its answer.
-/
import Derived.Test.YtodielfilhodeaaGreatKFndZz
import Derived.Test.YtodielfilhodeaaGreatKCopyZz
import Derived.Test.YtodielfilhodeaaGreatKArgZz
import Derived.Test.YtodielfilhodeaaGreatMArgsZz
import Derived.Test.YtodielfilhodeaaGreatHMCZz
namespace Go.Proofs.YtodielfilhodeaaGreat.fnExactFound
open Go.ChangeShapes Go.WideShapes Go.ChangeAt Go.RowKit
set_option linter.unusedVariables false

theorem own : ownKnob Tryz.prog.godebug = none := by kernel_rfl
theorem laidOut : laidOutB Tryz.prog = true := by kernel_rfl

set_option maxRecDepth 100000 in
set_option maxHeartbeats 4000000 in
theorem walk (ao0 : Option Addr) (cap0 : Nat) (ks0 : List Kn) (ao1 : Option Addr) (cap1 : Nat) (xs1 : List Int) (x2 : Int) (w : World) (hv0 : KView w ao0 ks0) (hn0 : ks0.length ≤ maxLen) (hat0 : ∀ i, (knth ks0 i).1.2.length ≤ maxLen) (hv1 : View w ao1 xs1) (hn1 : xs1.length ≤ maxLen) (hx2 : (Lit.int .i64 x2).wf = true) :
    Calls Tryz.prog 5 #[.slice ao0 ks0.length cap0, .slice ao1 xs1.length cap1, .int .i64 x2] w fun e w' => e = .returned (.bool true) ∧ Below w.heap.size w w' := by
  go_enter Tryz.func5, Tryz.ntmps5
  by_cases hq : xs1.length ≤ 1048576
  case neg =>
    have hq2 : (xs1.length : Int) > 1048576 := by omega
    go_wp2_with fail
    go_ret
    exact ⟨rfl, Below.refl _ _⟩
  case pos =>
    have hq2 : ¬ ((xs1.length : Int) > 1048576) := by omega
    go_wp2_with fail
    refine (szKS ao0 cap0 ks0 _ hv0 hn0 hat0).mono ?_
    rintro e w1 ⟨r, rfl, hr, L1⟩
    by_cases hneg : r < 0
    · go_wp2_with fail
      go_ret
      exact ⟨rfl, L1⟩
    · have hsm : KSmall ks0 := by rcases hr with h | h; exact absurd h hneg; exact h
      clear hr
      obtain ⟨R, hR⟩ : ∃ R, R = foundV ks0 xs1 x2 := ⟨_, rfl⟩
      have hRl : R.length ≤ 1048576 := by rw [hR]; exact Nat.le_trans (found_len _ _ _) (by omega)
      have HR := hidP hR
      clear hR
      go_wp2_with fail
      refine (toKS ao0 cap0 ks0 _ (hv0.next L1) hsm).mono ?_
      rintro e w2 ⟨b2, rfl, p2, hb2, L2⟩
      replace L2 := chain L1 L2
      clear L1
      go_wp2_with fail
      refine (toS ao1 cap1 xs1 _ (hv1.next L2) hq).mono ?_
      rintro e w3 ⟨b3, rfl, p3, hb3, L3⟩
      replace p2 := p2.below L3
      replace L3 := chain L2 L3
      clear L2
      have HC := hidP (sFound (some ⟨b2, 0, none⟩) (some ⟨b3, 0, none⟩) ks0.length xs1.length ks0 xs1 x2 w3 p2.view hsm p3.view hq)
      rw [← HR.out] at HC
      go_wp2_with fail
      refine HC.out.mono ?_
      rintro e w4 ⟨gw, cw, rfl, pw, L4⟩
      replace pw := pw.mono L3.size
      replace L4 := chain L3 L4
      clear L3 p2 p3 HC hb2 hb3
      go_wp2_with fail
      refine (toKS ao0 cap0 ks0 _ (hv0.next L4) hsm).mono ?_
      rintro e w5 ⟨bx, rfl, px, hbx, L5⟩
      have hgx : gw < bx := Nat.lt_of_lt_of_le pw.lt.2 hbx
      have hwx : w.heap.size ≤ bx := Nat.le_trans L4.size hbx
      replace pw := pw.below (Nat.le_refl _) L5
      replace L5 := chain L4 L5
      clear L4 hbx
      have po := px.over
      go_wp2_with fail
      refine (toS ao1 cap1 xs1 _ (hv1.next L5) hq).mono ?_
      rintro e w6 ⟨bz, rfl, pz, hbz, L6⟩
      have hwz : w.heap.size ≤ bz := Nat.le_trans L5.size hbz
      have hxz : bx < bz := Nat.lt_of_lt_of_le px.1 hbz
      have h56 := L6.size
      replace pw := pw.below (Nat.le_refl _) L6
      replace px := px.below L6
      replace po := po.below (Nat.le_refl _) L6
      replace L6 := chain L5 L6
      clear L5
      have HC := hidP (iFound (some ⟨bx, 0, none⟩) (some ⟨bz, 0, none⟩) ks0.length xs1.length ks0 xs1 x2 w6 px.view hsm pz.view hq)
      rw [← HR.out] at HC
      go_wp2_with fail
      refine HC.out.mono ?_
      rintro e w7 ⟨v, rfl, pu, L7⟩
      have hz6 : bz < w6.heap.size := pz.lt
      have h67 := L7.size
      replace pw := pw.below (Nat.le_refl _) L7
      replace px := px.below L7
      replace po := po.below h56 L7
      replace pz := pz.below hz6 L7
      have h06 := L6.size
      replace L7 := chain L6 L7
      clear L6 HC
      obtain ⟨ag, cg, rfl, vg⟩ := pu.view
      have P7 : Hid (w5.heap.size ≤ w7.heap.size ∧ HRow w.heap.size w7 gw cw R ∧ KPart w7 bx ks0.length ks0.length ks0 ∧ KOver w7 bx w5.heap.size ks0 ∧ Own w7 bz xs1 ∧ HOut w6.heap.size w7 (.slice ag R.length cg) R) := ⟨by omega, pw, px, po, pz, pu⟩
      clear pw px po pz pu
      have stp : ∀ wa wb, Below wa.heap.size wa wb → (w5.heap.size ≤ wa.heap.size ∧ HRow w.heap.size wa gw cw R ∧ KPart wa bx ks0.length ks0.length ks0 ∧ KOver wa bx w5.heap.size ks0 ∧ Own wa bz xs1 ∧ HOut w6.heap.size wa (.slice ag R.length cg) R) → (w5.heap.size ≤ wb.heap.size ∧ HRow w.heap.size wb gw cw R ∧ KPart wb bx ks0.length ks0.length ks0 ∧ KOver wb bx w5.heap.size ks0 ∧ Own wb bz xs1 ∧ HOut w6.heap.size wb (.slice ag R.length cg) R) :=
        fun wa wb hb ⟨h0, h1, h2, h3, h4, h5⟩ => ⟨Nat.le_trans h0 hb.size, h1.below (Nat.le_refl _) hb, h2.below hb, h3.below h0 hb, h4.below h4.lt hb, h5.below hb⟩
      have STP := hidP stp
      clear stp
      go_wp2_with fail
      refine (eqHS _ _ _ _ R R _ vg P7.out.2.1.view (by omega)).mono ?_
      rintro e w8 ⟨rfl, L8⟩
      have P8 := hidP (STP.out _ _ L8 P7.out)
      replace L8 := chain L7 L8
      have ht : decide (R = R) = true := by simp
      clear L7 P7 vg
      go_wp2_with fail
      refine (toKS ao0 cap0 ks0 _ (hv0.next L8) hsm).mono ?_
      rintro e w9 ⟨b9, rfl, p9, hb9, L9⟩
      have P9 := hidP (STP.out _ _ L9 P8.out)
      replace L9 := chain L8 L9
      clear L8 P8
      go_wp2_with fail
      refine (eqKS _ _ _ _ ks0 _ P9.out.2.2.1.view p9.view hsm).mono ?_
      rintro e wa ⟨rfl, La⟩
      have Pa := hidP (STP.out _ _ La P9.out)
      replace La := chain L9 La
      have ht0 : decide (ks0 = ks0) = true := by simp
      clear L9 P9 p9 hb9
      go_wp2_with fail
      refine (toS ao1 cap1 xs1 _ (hv1.next La) hq).mono ?_
      rintro e wb ⟨bb, rfl, pb, hbb, Lb⟩
      have Pb := hidP (STP.out _ _ Lb Pa.out)
      replace Lb := chain La Lb
      clear La Pa
      go_wp2_with fail
      refine (eqS _ _ _ _ xs1 xs1 _ Pb.out.2.2.2.2.1.view pb.view hq).mono ?_
      rintro e wc ⟨rfl, nc, hwc⟩
      have Lc : Below wb.heap.size wb wc := by rw [hwc]; exact below_drewN (Below.refl _ _) nc
      have Pc := hidP (STP.out _ _ Lc Pb.out)
      replace Lc := chain Lb Lc
      have ht1 : decide (xs1 = xs1) = true := by simp
      clear Lb Pb pb hwc hbb
      go_wp2_with fail
      refine (markKO bx w5.heap.size ks0.length 1 ks0 wc Pc.out.2.2.2.1 hsm (by omega) (by omega)).mono ?_
      rintro e wd ⟨⟨k1, hk1, hk2, rfl⟩, gd⟩
      have Pd : Hid (HRow w.heap.size wd gw cw R ∧ Own wd bz xs1 ∧ HOut w6.heap.size wd (.slice ag R.length cg) R) :=
        ⟨gd.row Pc.out.2.1 (Or.inl hgx), gd.own Pc.out.2.2.2.2.1 (Or.inr hbz), gd.out Pc.out.2.2.2.2.2 h56⟩
      have Ld := below_gin Lc gd hwx
      clear Pc Lc gd
      go_wp2_with fail
      refine (mark_big bz k1 xs1 wd Pd.out.2.1 hq hk1 (by omega)).mono ?_
      rintro e we ⟨rfl, pe, ge⟩
      have Pe : Hid (HRow w.heap.size we gw cw R ∧ HOut w6.heap.size we (.slice ag R.length cg) R) :=
        ⟨Pd.out.1.kept ge (fun e => by injection e with e; omega), Pd.out.2.2.kept ge hz6⟩
      have Le := below_far Ld ge (fun g hg => by cases hg; exact hwz)
      clear Pd Ld pe ge
      have hk0 : ¬ (k1 + (xs1.length : Int) < 0) := by omega
      have Ve := hidP Pe.out.2.slice
      go_wp2_with fail
      refine (eqHS _ _ _ _ R R _ Ve.out Pe.out.1.view (by omega)).mono ?_
      rintro e wf ⟨rfl, Lf⟩
      have Pf : Hid (HRow w.heap.size wf gw cw R ∧ HOut w6.heap.size wf (.slice ag R.length cg) R) := ⟨Pe.out.1.below (Nat.le_refl _) Lf, Pe.out.2.below Lf⟩
      replace Lf := chain Le Lf
      clear Le Pe Ve
      go_wp2_with fail
      refine (markOut w6.heap.size cg ag R wf Pf.out.2 (by omega)).mono ?_
      rintro e wg ⟨rfl, vg, r2, gg, hr2⟩
      have Vg := hidP vg
      have Pg := hidP (Pf.out.1.kept gg (fun e => by have := hr2 gw e.symm; omega))
      have Lg := below_far Lf gg (fun g hg => by have := hr2 g hg; omega)
      clear Lf Pf gg hr2 vg
      go_wp2_with fail
      refine (heldHS ag cg R.length 1 wg Vg.out (by omega) (by omega) (by omega)).mono ?_
      rintro e wh ⟨rfl, hwh⟩
      subst wh
      have hq0 : ¬ (1 + 2 * (R.length : Int) < 0) := by omega
      have hqq : ((1 + 2 * (R.length : Int)) != (1 + 2 * (R.length : Int))) = false := by simp
      go_wp2_with fail
      refine (toKS ao0 cap0 ks0 _ (hv0.next Lg) hsm).mono ?_
      rintro e wi ⟨bi, rfl, pi, hbi, Li⟩
      have Vi := hidP (Vg.out.next Li)
      have Pi := hidP (Pg.out.below (Nat.le_refl _) Li)
      replace Li := chain Lg Li
      clear Lg Vg Pg
      go_wp2_with fail
      refine (toS ao1 cap1 xs1 _ (hv1.next Li) hq).mono ?_
      rintro e wj ⟨bj, rfl, pj, hbj, Lj⟩
      have Vj := hidP (Vi.out.next Lj)
      have Pj := hidP (Pi.out.below (Nat.le_refl _) Lj)
      replace pi := pi.below Lj
      replace Lj := chain Li Lj
      clear Li Vi Pi
      have HC := hidP (iFound (some ⟨bi, 0, none⟩) (some ⟨bj, 0, none⟩) ks0.length xs1.length ks0 xs1 x2 wj pi.view hsm pj.view hq)
      rw [← HR.out] at HC
      go_wp2_with fail
      refine HC.out.mono ?_
      rintro e wk ⟨v2, rfl, po, Lk⟩
      have Vk := hidP (Vj.out.next Lk)
      have Pk := hidP (Pj.out.below (Nat.le_refl _) Lk)
      replace Lk := chain Lj Lk
      clear Lj Vj Pj HC pi pj hbi hbj
      obtain ⟨ah, ch, rfl, vh⟩ := po.view
      go_wp2_with fail
      refine (eqHS _ _ _ _ R R _ vh Pk.out.view (by omega)).mono ?_
      rintro e wl ⟨rfl, Ll⟩
      have Vl := hidP (Vk.out.next Ll)
      replace Ll := chain Lk Ll
      clear Lk Vk Pk vh po
      go_wp2_with fail
      refine (heldHS ag cg R.length 1 wl Vl.out (by omega) (by omega) (by omega)).mono ?_
      rintro e wm ⟨rfl, hwm⟩
      subst wm
      go_wp2_with fail
      go_ret
      exact ⟨rfl, Ll⟩

set_option maxRecDepth 100000 in
theorem lifted (os : Os) (started : os.Started) (H : Type) (enc : TypeId × Value → H) :
    ReturnsInHanded {} Tryz.checked os 5 .any (Rows.fnExactFoundSpec.pre6 enc Tryz.prog Tryz.f5 Rows.fnExactFoundRow.domain false) (Rows.fnExactFoundSpec.post enc Tryz.prog Tryz.f5 false true false false) := by
  refine returnsInHanded_of_change (C := Tryz.checked) own started (by kernel_rfl) Tryz.func5
    (ChangeSpec.witness6 (enc := enc) (C := Tryz.checked) false ⟨#[], #[.slice none 0 0, .slice none 0 0, .int .i64 0], []⟩ 8 (by kernel_rfl) (by kernel_rfl) (by kernel_rfl) (by kernel_rfl)) ?_
  intro W base args ds gs before hval0 hW hcnd _
  have hval : ∀ (j : Nat) t v, Tryz.f5.params[j]? = some t → args[j]? = some v → Value.okWide Tryz.prog W .any base t v := hval0
  have hW' := hW
  obtain ⟨p, q, hA0, hV, rfl, hfz, hnd⟩ := hW
  have hA : DataW.TrodAll enc Tryz.prog W 0 (fun _ => true) true Tryz.f5.params.toList args.toList ds p := hA0
  rw [Tryz.params5] at hA hval
  obtain ⟨v0, vs0, d0, ds0, p0, q0, hargs, rfl, rfl, h0, r0⟩ := trodAll_cons hA
  obtain ⟨v1, vs1, d1, ds1, p1, q1, rfl, rfl, rfl, h1, r1⟩ := trodAll_cons r0
  obtain ⟨v2, vs2, d2, ds2, p2, q2, rfl, rfl, rfl, h2, r2⟩ := trodAll_cons r1
  obtain ⟨rfl, rfl, rfl⟩ := trodAll_nil r2
  obtain rfl : args = #[v0, v1, v2] := by cases args; simp_all
  obtain ⟨rfl, rfl⟩ := trodVars_none hV
  obtain ⟨a0, len0, cap0, rfl⟩ := okWide_slice Tryz.underlying63 (hval 0 63 v0 rfl rfl)
  have k0 := h0
  have lt0 : ∀ x ∈ p0, x.block < W.heap.size := by obtain ⟨m, hm⟩ := k0; exact DataW.trod_lt m _ _ _ hm
  obtain ⟨ks0, rfl, hv0, hn0, hat0⟩ := (by obtain ⟨fuel, hf⟩ := h0; exact knots_view hf : ∃ ms : List Kn, len0 = ms.length ∧ KView W a0 ms ∧ ms.length ≤ maxLen ∧ ∀ i, (knth ms i).1.2.length ≤ maxLen)
  obtain ⟨a1, len1, cap1, rfl⟩ := okWide_slice Tryz.underlying28 (hval 1 28 v1 rfl rfl)
  have k1 := h1
  have lt1 : ∀ x ∈ p1, x.block < W.heap.size := by obtain ⟨m, hm⟩ := k1; exact DataW.trod_lt m _ _ _ hm
  obtain ⟨xs1, rfl, hv1, hn1⟩ := (by obtain ⟨fuel, hf⟩ := h1; exact row_view1 hf : ∃ xs : List Int, len1 = xs.length ∧ View W a1 xs ∧ xs.length ≤ maxLen)
  obtain ⟨a2, rfl, rfl, rfl, w2⟩ := open_int Tryz.underlying2 (hval 2 2 v2 rfl rfl) h2
  clear hA0 hval0
  refine (walk a0 cap0 ks0 a1 cap1 xs1 a2 W hv0 hn0 hat0 hv1 hn1 w2).mono fun e W' ⟨he, bel⟩ => ?_
  subst he
  exact ⟨_, rfl, _, _, _, [], _, [], hW', trodAll_mk1 (shut_bool Tryz.underlying4 _), (trodAll_cons_mk (Below.trod laidOut (by kernel_rfl) (of_decide_eq_true (by kernel_rfl)) k0 bel lt0) (trodAll_cons_mk (Below.trod laidOut (by kernel_rfl) (of_decide_eq_true (by kernel_rfl)) k1 bel lt1) (trodAll_cons_mk (shut_int Tryz.underlying2 w2) trodAll_mk0))), rfl, bel.frame _, fun h => by cases h⟩

theorem over : Rows.fnExactFoundRow.holds Tryz.pinned (OpenSpec.ofChange Rows.fnExactFoundSpec) :=
  OpenClaim.holds_of_wide 5 Tryz.f5 rfl rfl rfl rfl rfl rfl rfl ⟨rfl, rfl, rfl, rfl, rfl⟩ rfl rfl rfl rfl rfl (by kernel_rfl) Tryz.func5 (by kernel_rfl)
    (of_decide_eq_true (by kernel_rfl)) (by unfold Func.isWrapper; first | (rw [if_pos (by decide +kernel)]; kernel_rfl) | (rw [if_neg (by decide +kernel)]; exact ⟨rfl, rfl⟩))
    (fun os started H enc _ => lifted os started H enc)

end Go.Proofs.YtodielfilhodeaaGreat.fnExactFound
namespace Go.Proofs.YtodielfilhodeaaGreat

theorem FnExactFound_holds : Rows.FnExactFoundSaid := fnExactFound.over

end Go.Proofs.YtodielfilhodeaaGreat
