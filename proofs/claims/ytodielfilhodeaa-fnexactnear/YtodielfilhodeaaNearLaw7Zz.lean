/-
  FnExactNear holds: for every grid, every slice of numbers and every number the program's Near answers as the given one, in new memory, and leaves its arguments alone; no condition.
-/
import Derived.Test.YtodielfilhodeaaNNearZz
import Derived.Test.YtodielfilhodeaaGArgsZz
import Derived.Test.YtodielfilhodeaaHMDZz
namespace Go.Proofs.Ytodielfilhodeaa.fnExactNear
open Go.ChangeShapes Go.WideShapes Go.ChangeAt Go.RowKit
set_option linter.unusedVariables false

theorem own : ownKnob Try.prog.godebug = none := by kernel_rfl
theorem laidOut : laidOutB Try.prog = true := by kernel_rfl

set_option maxRecDepth 100000 in
set_option maxHeartbeats 4000000 in
theorem walk (ao0 : Option Addr) (cap0 : Nat) (s0 : Int) (ms0 : List Mk) (ao1 : Option Addr) (cap1 : Nat) (xs1 : List Int) (x2 : Int) (w : World) (hv0 : MView w ao0 ms0) (hn0 : ms0.length ≤ maxLen) (hat0 : ∀ i, (mat ms0 i).length ≤ maxLen) (hv1 : View w ao1 xs1) (hn1 : xs1.length ≤ maxLen) :
    Calls Try.prog 7 #[.agg #[.int .i64 s0, .slice ao0 ms0.length cap0], .slice ao1 xs1.length cap1, .int .i64 x2] w fun e w' => e = .returned (.bool true) ∧ Below w.heap.size w w' := by
  by_cases hq : xs1.length ≤ 1048576
  case neg =>
    have hq2 : (xs1.length : Int) > 1048576 := by omega
    go_enter Try.func7, Try.ntmps7
    go_wp2_with fail
    go_ret
    exact ⟨rfl, alloc_below w _⟩
  case pos =>
    have hq2 : ¬ ((xs1.length : Int) > 1048576) := by omega
    obtain ⟨W0, hW0⟩ : ∃ W, W = w.alloc (.cells #[.int .i64 s0, .slice ao0 ms0.length cap0] 67) := ⟨_, rfl⟩
    have T0 : Two W0 w.heap.size (.int .i64 s0) (.slice ao0 ms0.length cap0) 67 := by rw [hW0]; exact Two.new w _ _ _
    have L0 : Below w.heap.size w W0 := by rw [hW0]; exact alloc_below w _
    have HSZ := hidP (szG ao0 cap0 s0 ms0 W0 (hv0.next L0) hn0 hat0)
    have HT0 := hidP (And.intro T0 L0)
    clear T0 L0
    subst hW0
    go_enter Try.func7, Try.ntmps7
    go_wp2_with fail
    refine HSZ.out.mono ?_
    rintro e w1 ⟨r, rfl, hr, L1⟩
    have T1 := HT0.out.1.below L1
    replace L1 := chain HT0.out.2 L1
    clear HSZ HT0
    by_cases hneg : r < 0
    · go_wp2_with fail
      go_ret
      exact ⟨rfl, L1⟩
    · have hsm : MSmall ms0 := by rcases hr with h | h; exact absurd h hneg; exact h
      clear hr
      obtain ⟨R, hR⟩ : ∃ R, R = nearV s0 ms0 xs1 x2 := ⟨_, rfl⟩
      have hRl : R.length ≤ 1048576 := by
        rw [hR]
        have := nearV_len s0 ms0 xs1 x2
        have := hsm.1
        omega
      have ht : decide (R = R) = true := by simp
      have ht1 : decide (xs1 = xs1) = true := by simp
      have HS := hidP (fun ao qa cap qc w hv hq1 => sNear7 ao qa cap qc s0 ms0 xs1 x2 w hv hsm hq1 hq)
      have HI := hidP (fun ao qa cap qc w hv hq1 => iNear7 ao qa cap qc s0 ms0 xs1 x2 w hv hsm hq1 hq)
      rw [← hR] at HS HI
      clear hR
      have a0 := T1.c0
      have a1 := T1.c1
      go_wp2_with fail
      refine (toG ao0 cap0 s0 ms0 _ (hv0.next L1) hsm).mono ?_
      rintro e w2 ⟨b2, rfl, p2, hb2, L2⟩
      have T2 := T1.below L2
      replace L2 := chain L1 L2
      clear L1 a0 a1 T1
      go_wp2_with fail
      refine (toS ao1 cap1 xs1 _ (hv1.next L2) hq).mono ?_
      rintro e w3 ⟨b3, rfl, p3, hb3, L3⟩
      replace p2 := p2.below (Nat.le_refl _) L3
      have T3 := T2.below L3
      replace L3 := chain L2 L3
      clear L2 T2
      have HC := hidP (HS.out (some ⟨b2, 0, none⟩) (some ⟨b3, 0, none⟩) ms0.length xs1.length w3 p2.view p3.view)
      go_wp2_with fail
      refine HC.out.mono ?_
      rintro e w4 ⟨gw, cw, rfl, pw, L4⟩
      have T4 := T3.below L4
      replace pw := pw.mono L3.size
      replace L4 := chain L3 L4
      clear L3 p2 p3 HC hb2 hb3 T3
      have a0 := T4.c0
      have a1 := T4.c1
      have hAl := T4.lt
      go_wp2_with fail
      refine (toG ao0 cap0 s0 ms0 _ (hv0.next L4) hsm).mono ?_
      rintro e v5 ⟨bx, rfl, px, hbx, L5⟩
      have hgx : gw < bx := Nat.lt_of_lt_of_le pw.lt.2 hbx
      have hwx : w.heap.size < bx := Nat.lt_of_lt_of_le hAl hbx
      have T5 := T4.below L5
      replace pw := pw.below (Nat.le_refl _) L5
      replace L5 := chain L4 L5
      clear L4 hbx a0 a1 T4 hAl
      have po := px.over
      obtain ⟨w5, hw5⟩ : ∃ W, W = v5.alloc (.cells #[.int .i64 s0, .slice (some ⟨bx, 0, none⟩) ms0.length ms0.length] 72) := ⟨_, rfl⟩
      have A5 : Below v5.heap.size v5 w5 := by rw [hw5]; exact alloc_below v5 _
      have X5 : Two w5 v5.heap.size (.int .i64 s0) (.slice (some ⟨bx, 0, none⟩) ms0.length ms0.length) 72 := by rw [hw5]; exact Two.new v5 _ _ _
      replace T5 := T5.below A5
      replace pw := pw.below (Nat.le_refl _) A5
      replace px := px.below (Nat.le_refl _) A5
      replace po := po.below (Nat.le_refl _) A5
      replace L5 := chain L5 A5
      have hv5 := A5.size
      have HTS := hidP (toS ao1 cap1 xs1 w5 (hv1.next L5) hq)
      clear A5
      subst hw5
      go_wp2_with fail
      refine HTS.out.mono ?_
      rintro e w6 ⟨bz, rfl, pz, hbz, L6⟩
      have hwz : w.heap.size ≤ bz := Nat.le_trans L5.size hbz
      have hxz : bx < bz := Nat.lt_of_lt_of_le px.1 hbz
      have h56 := Nat.le_trans hv5 L6.size
      have T6 := T5.below L6
      have X6 := X5.below L6
      replace pw := pw.below (Nat.le_refl _) L6
      replace px := px.below (Nat.le_refl _) L6
      replace po := po.below hv5 L6
      replace L6 := chain L5 L6
      clear L5 T5 X5 HTS
      have x0 := X6.c0
      have x1 := X6.c1
      have HC := hidP (HI.out (some ⟨bx, 0, none⟩) (some ⟨bz, 0, none⟩) ms0.length xs1.length w6 px.view pz.view)
      go_wp2_with fail
      refine HC.out.mono ?_
      rintro e w7 ⟨vv, rfl, pu, L7⟩
      obtain ⟨ag, cg, rfl, -⟩ := pu.view
      have hz6 : bz < w6.heap.size := pz.lt
      have h67 := L7.size
      have h06 := L6.size
      have P7 : Hid (w6.heap.size ≤ w7.heap.size ∧ HRow w.heap.size w7 gw cw R ∧ MPart w7 bx ms0.length ms0.length ms0 ∧ MOver w7 bx v5.heap.size ms0 ∧ Own w7 bz xs1 ∧ HOut w6.heap.size w7 (.slice ag R.length cg) R ∧ Two w7 w.heap.size (.int .i64 s0) (.slice ao0 ms0.length cap0) 67 ∧ Two w7 v5.heap.size (.int .i64 s0) (.slice (some ⟨bx, 0, none⟩) ms0.length ms0.length) 72) :=
        ⟨h67, pw.below (Nat.le_refl _) L7, px.below (Nat.le_refl _) L7, po.below h56 L7, pz.below hz6 L7, pu, T6.below L7, X6.below L7⟩
      have STP : Hid (∀ wa wb, Below wa.heap.size wa wb → (w6.heap.size ≤ wa.heap.size ∧ HRow w.heap.size wa gw cw R ∧ MPart wa bx ms0.length ms0.length ms0 ∧ MOver wa bx v5.heap.size ms0 ∧ Own wa bz xs1 ∧ HOut w6.heap.size wa (.slice ag R.length cg) R ∧ Two wa w.heap.size (.int .i64 s0) (.slice ao0 ms0.length cap0) 67 ∧ Two wa v5.heap.size (.int .i64 s0) (.slice (some ⟨bx, 0, none⟩) ms0.length ms0.length) 72) → (w6.heap.size ≤ wb.heap.size ∧ HRow w.heap.size wb gw cw R ∧ MPart wb bx ms0.length ms0.length ms0 ∧ MOver wb bx v5.heap.size ms0 ∧ Own wb bz xs1 ∧ HOut w6.heap.size wb (.slice ag R.length cg) R ∧ Two wb w.heap.size (.int .i64 s0) (.slice ao0 ms0.length cap0) 67 ∧ Two wb v5.heap.size (.int .i64 s0) (.slice (some ⟨bx, 0, none⟩) ms0.length ms0.length) 72)) :=
        fun wa wb hab h => ⟨Nat.le_trans h.1 hab.size, h.2.1.below (Nat.le_refl _) hab, h.2.2.1.below (Nat.le_refl _) hab, h.2.2.2.1.below (Nat.le_trans h56 h.1) hab, h.2.2.2.2.1.below (Nat.lt_of_lt_of_le hz6 h.1) hab, h.2.2.2.2.2.1.below hab, h.2.2.2.2.2.2.1.below hab, h.2.2.2.2.2.2.2.below hab⟩
      replace L7 := chain L6 L7
      clear pw px po pz pu L6 HC x0 x1 T6 X6
      go_wp2_with fail
      refine (eqHS _ _ _ _ R R _ P7.out.2.2.2.2.2.1.slice P7.out.2.1.view (by omega)).mono ?_
      rintro e w8 ⟨rfl, L8⟩
      have P8 := hidP (STP.out _ _ L8 P7.out)
      replace L8 := chain L7 L8
      clear L7 P7
      have HTG := hidP (toG ao0 cap0 s0 ms0 w8.drew ((hv0.next L8).drewN 1) hsm)
      have HEQ : Hid (∀ W b9, MPart W b9 ms0.length ms0.length ms0 → Below w8.drew.heap.size w8.drew W → Calls Try.prog 50 #[.agg #[.int .i64 s0, .slice (some ⟨bx, 0, none⟩) ms0.length ms0.length], .agg #[.int .i64 s0, .slice (some ⟨b9, 0, none⟩) ms0.length ms0.length]] W fun e w' => e = .returned (.bool true) ∧ Below W.heap.size W w') := fun W b9 hp hL =>
        eqGd _ _ _ _ s0 ms0 W (MView.next (P8.out.2.2.1.view) (Below.trans ((Below.refl w8.heap.size w8).drew) hL)) hp.view hsm
      have a0 := P8.out.2.2.2.2.2.2.1.c0
      have a1 := P8.out.2.2.2.2.2.2.1.c1
      have x0 := P8.out.2.2.2.2.2.2.2.c0
      have x1 := P8.out.2.2.2.2.2.2.2.c1
      have hAl := P8.out.2.2.2.2.2.2.1.lt
      have hXl := P8.out.2.2.2.2.2.2.2.lt
      have KEEP : Hid (∀ W, Below w8.drew.heap.size w8.drew W → W.cell? ⟨w.heap.size, 0, none⟩ = some (.int .i64 s0) ∧ W.cell? ⟨w.heap.size, 1, none⟩ = some (.slice ao0 ms0.length cap0) ∧ W.cell? ⟨v5.heap.size, 0, none⟩ = some (.int .i64 s0) ∧ W.cell? ⟨v5.heap.size, 1, none⟩ = some (.slice (some ⟨bx, 0, none⟩) ms0.length ms0.length)) :=
        fun W hL => ⟨(hL.cell (p := ⟨w.heap.size, 0, none⟩) hAl).trans a0, (hL.cell (p := ⟨w.heap.size, 1, none⟩) hAl).trans a1, (hL.cell (p := ⟨v5.heap.size, 0, none⟩) hXl).trans x0, (hL.cell (p := ⟨v5.heap.size, 1, none⟩) hXl).trans x1⟩
      go_wp2_with fail
      go_region_held3 (fun w' => w'.cell? ⟨w.heap.size, 0, none⟩ = some (.int .i64 s0) ∧ w'.cell? ⟨w.heap.size, 1, none⟩ = some (.slice ao0 ms0.length cap0) ∧ w'.cell? ⟨v5.heap.size, 0, none⟩ = some (.int .i64 s0) ∧ w'.cell? ⟨v5.heap.size, 1, none⟩ = some (.slice (some ⟨bx, 0, none⟩) ms0.length ms0.length))
        (first
          | go_keep
          | exact KEEP.out _ L9
          | exact KEEP.out _ (chain L9 La))
        (first
          | (go_at_call 47; refine HTG.out.mono ?_; rintro e w9 ⟨b9, rfl, p9, hb9, L9⟩)
          | (go_at_call 50; refine (HEQ.out _ b9 p9 L9).mono ?_; rintro e wa ⟨rfl, La⟩))
      have L8a : Below w8.heap.size w8 wa := Below.trans ((Below.refl w8.heap.size w8).drew) (chain L9 La)
      have Pa := hidP (STP.out _ _ L8a P8.out)
      have Laa := chain L8 L8a
      clear La
      have La := Laa
      clear L8 P8 p9 hb9 L9 L8a Laa a0 a1 x0 x1 HTG HEQ
      simp only [Exit.then]
      go_wp2_with fail
      refine (toS ao1 cap1 xs1 _ (hv1.next La) hq).mono ?_
      rintro e wb ⟨bb, rfl, pb, hbb, Lb⟩
      have Pb := hidP (STP.out _ _ Lb Pa.out)
      replace Lb := chain La Lb
      clear La Pa
      go_wp2_with fail
      refine (eqS _ _ _ _ xs1 xs1 _ Pb.out.2.2.2.2.1.view pb.view hq).mono ?_
      rintro e wc ⟨rfl, nc, hwc⟩
      have Lc : Below wb.heap.size wb wc := by rw [hwc]; exact below_drewN (Below.refl _ _) nc
      have Pc := hidP (STP.out _ _ Lc Pb.out)
      replace Lc := chain Lb Lc
      clear Lb Pb pb hwc hbb
      have hc5 : v5.heap.size ≤ wc.heap.size := Nat.le_trans h56 Pc.out.1
      have x0 := Pc.out.2.2.2.2.2.2.2.c0
      have x1 := Pc.out.2.2.2.2.2.2.2.c1
      go_wp2_with fail
      refine (markGd bx v5.heap.size ms0.length 1 s0 ms0 wc Pc.out.2.2.2.1 hc5 hsm (by omega) (by omega)).mono ?_
      rintro e wd ⟨⟨k1, hk1, hk2, rfl⟩, gd⟩
      have Pd : Hid (w6.heap.size ≤ wd.heap.size ∧ HRow w.heap.size wd gw cw R ∧ Own wd bz xs1 ∧ HOut w6.heap.size wd (.slice ag R.length cg) R ∧ Two wd w.heap.size (.int .i64 s0) (.slice ao0 ms0.length cap0) 67) :=
        ⟨Nat.le_trans Pc.out.1 gd.2.2.2.1, gd.row Pc.out.2.1 (Or.inl hgx), gd.own Pc.out.2.2.2.2.1 (Or.inr (by omega)), gd.out Pc.out.2.2.2.2.2.1 h56, (gd.2.2.2.2 _ Pc.out.2.2.2.2.2.2.1.lt (Or.inl hwx)).trans Pc.out.2.2.2.2.2.2.1⟩
      have Ld := below_gin Lc gd (Nat.le_of_lt hwx)
      clear Pc Lc gd x0 x1
      go_wp2_with fail
      refine (mark_big bz k1 xs1 wd Pd.out.2.2.1 hq hk1 (by omega)).mono ?_
      rintro e we ⟨rfl, pe, ge⟩
      have Pe : Hid (HRow w.heap.size we gw cw R ∧ HOut w6.heap.size we (.slice ag R.length cg) R ∧ Two we w.heap.size (.int .i64 s0) (.slice ao0 ms0.length cap0) 67) :=
        ⟨Pd.out.2.1.kept ge (fun e => by injection e with e; omega), Pd.out.2.2.2.1.kept ge (by omega), (ge.block _ Pd.out.2.2.2.2.lt (fun e => by injection e with e; omega)).trans Pd.out.2.2.2.2⟩
      have Le := below_far Ld ge (fun g hg => by cases hg; exact hwz)
      clear Pd Ld pe ge
      have hk0 : ¬ (k1 + (xs1.length : Int) < 0) := by omega
      go_wp2_with fail
      refine (eqHS _ _ _ _ R R _ Pe.out.2.1.slice Pe.out.1.view (by omega)).mono ?_
      rintro e wf ⟨rfl, Lf⟩
      have Pf : Hid (HRow w.heap.size wf gw cw R ∧ HOut w6.heap.size wf (.slice ag R.length cg) R ∧ Two wf w.heap.size (.int .i64 s0) (.slice ao0 ms0.length cap0) 67) := ⟨Pe.out.1.below (Nat.le_refl _) Lf, Pe.out.2.1.below Lf, Pe.out.2.2.below Lf⟩
      replace Lf := chain Le Lf
      clear Le Pe
      go_wp2_with fail
      refine (markOut w6.heap.size cg ag R wf Pf.out.2.1 (by omega)).mono ?_
      rintro e wg ⟨rfl, vg, r2, gg, hr2⟩
      have Vg := hidP vg
      have Pg := hidP (Pf.out.1.kept gg (fun e => by have := hr2 gw e.symm; omega))
      have Tg : Two wg w.heap.size (.int .i64 s0) (.slice ao0 ms0.length cap0) 67 := (gg.block _ Pf.out.2.2.lt (fun e => by have := hr2 _ e.symm; omega)).trans Pf.out.2.2
      have Lg := below_far Lf gg (fun g hg => by have := hr2 g hg; omega)
      clear Lf Pf gg hr2 vg
      go_wp2_with fail
      refine (heldHS ag cg R.length 1 wg Vg.out (by omega) (by omega) (by omega)).mono ?_
      rintro e wh ⟨rfl, hwh⟩
      subst wh
      have hq0 : ¬ (1 + 2 * (R.length : Int) < 0) := by omega
      have hqq : ((1 + 2 * (R.length : Int)) != (1 + 2 * (R.length : Int))) = false := by simp
      have a0 := Tg.c0
      have a1 := Tg.c1
      go_wp2_with fail
      refine (toG ao0 cap0 s0 ms0 _ (hv0.next Lg) hsm).mono ?_
      rintro e wi ⟨bi, rfl, pi, hbi, Li⟩
      have Vi := hidP (Vg.out.next Li)
      have Pi := hidP (Pg.out.below (Nat.le_refl _) Li)
      replace Li := chain Lg Li
      clear Lg Vg Pg Tg a0 a1
      go_wp2_with fail
      refine (toS ao1 cap1 xs1 _ (hv1.next Li) hq).mono ?_
      rintro e wj ⟨bj, rfl, pj, hbj, Lj⟩
      have Vj := hidP (Vi.out.next Lj)
      have Pj := hidP (Pi.out.below (Nat.le_refl _) Lj)
      replace pi := pi.below (Nat.le_refl _) Lj
      replace Lj := chain Li Lj
      clear Li Vi Pi
      have HC := hidP (HI.out (some ⟨bi, 0, none⟩) (some ⟨bj, 0, none⟩) ms0.length xs1.length wj pi.view pj.view)
      go_wp2_with fail
      refine HC.out.mono ?_
      rintro e wk ⟨vv2, rfl, po, Lk⟩
      obtain ⟨ah, ch, rfl, -⟩ := po.view
      have Vk := hidP (Vj.out.next Lk)
      have Pk := hidP (Pj.out.below (Nat.le_refl _) Lk)
      replace Lk := chain Lj Lk
      clear Lj Vj Pj HC pi pj
      go_wp2_with fail
      refine (eqHS _ _ _ _ R R _ po.slice Pk.out.view (by omega)).mono ?_
      rintro e wl ⟨rfl, Ll⟩
      have Vl := hidP (Vk.out.next Ll)
      replace Ll := chain Lk Ll
      clear Lk Vk Pk po
      go_wp2_with fail
      refine (heldHS ag cg R.length 1 wl Vl.out (by omega) (by omega) (by omega)).mono ?_
      rintro e wm ⟨rfl, hwm⟩
      subst wm
      go_wp2_with fail
      go_ret
      exact ⟨rfl, Ll⟩

set_option maxRecDepth 100000 in
theorem lifted (os : Os) (started : os.Started) (H : Type) (enc : TypeId × Value → H) :
    ReturnsInHanded {} Try.checked os 7 .any (Rows.fnExactNearSpec.pre6 enc Try.prog Try.f7 Rows.fnExactNearRow.domain false) (Rows.fnExactNearSpec.post enc Try.prog Try.f7 false true false false) := by
  refine returnsInHanded_of_change (C := Try.checked) own started (by kernel_rfl) Try.func7
    (ChangeSpec.witness6 (enc := enc) (C := Try.checked) false ⟨#[], #[.agg #[.int .i64 0, .slice none 0 0], .slice none 0 0, .int .i64 0], []⟩ 8 (by kernel_rfl) (by kernel_rfl) (by kernel_rfl) (by kernel_rfl)) ?_
  intro W base args ds gs before hval0 hW hcnd _
  have hval : ∀ (j : Nat) t v, Try.f7.params[j]? = some t → args[j]? = some v → Value.okWide Try.prog W .any base t v := hval0
  have hW' := hW
  obtain ⟨p, q, hA0, hV, rfl, hfz, hnd⟩ := hW
  have hA : DataW.TrodAll enc Try.prog W 0 (fun _ => true) true Try.f7.params.toList args.toList ds p := hA0
  rw [Try.params7] at hA hval
  obtain ⟨v0, vs0, d0, ds0, p0, q0, hargs, rfl, rfl, h0, r0⟩ := trodAll_cons hA
  obtain ⟨v1, vs1, d1, ds1, p1, q1, rfl, rfl, rfl, h1, r1⟩ := trodAll_cons r0
  obtain ⟨v2, vs2, d2, ds2, p2, q2, rfl, rfl, rfl, h2, r2⟩ := trodAll_cons r1
  obtain ⟨rfl, rfl, rfl⟩ := trodAll_nil r2
  obtain rfl : args = #[v0, v1, v2] := by cases args; simp_all
  obtain ⟨rfl, rfl⟩ := trodVars_none hV
  obtain ⟨cs0, rfl, sz0⟩ := okWide_grid (hval 0 67 v0 rfl rfl)
  have k0 := h0
  have lt0 : ∀ x ∈ p0, x.block < W.heap.size := by obtain ⟨m, hm⟩ := k0; exact DataW.trod_lt m _ _ _ hm
  obtain ⟨s0, ms0, a0, cap0, rfl, hv0, hn0, hat0⟩ := (by obtain ⟨fuel, hf⟩ := h0; exact grid_view sz0 hf : ∃ (s : Int) (ms : List Mk) (a : Option Addr) (c : Nat), cs0 = #[.int .i64 s, .slice a ms.length c] ∧ MView W a ms ∧ ms.length ≤ maxLen ∧ ∀ i, (mat ms i).length ≤ maxLen)
  obtain ⟨a1, len1, cap1, rfl⟩ := okWide_slice Try.underlying24 (hval 1 24 v1 rfl rfl)
  have k1 := h1
  have lt1 : ∀ x ∈ p1, x.block < W.heap.size := by obtain ⟨m, hm⟩ := k1; exact DataW.trod_lt m _ _ _ hm
  obtain ⟨xs1, rfl, hv1, hn1⟩ := (by obtain ⟨fuel, hf⟩ := h1; exact row_view1 hf : ∃ xs : List Int, len1 = xs.length ∧ View W a1 xs ∧ xs.length ≤ maxLen)
  obtain ⟨a2, rfl, rfl, rfl, w2⟩ := open_int Try.underlying2 (hval 2 2 v2 rfl rfl) h2
  clear hA0 hval0
  refine (walk a0 cap0 s0 ms0 a1 cap1 xs1 a2 W hv0 hn0 hat0 hv1 hn1).mono fun e W' ⟨he, bel⟩ => ?_
  subst he
  exact ⟨_, rfl, _, _, _, [], _, [], hW', trodAll_mk1 (shut_bool Try.underlying4 _), (trodAll_cons_mk (Below.trod laidOut (by kernel_rfl) (of_decide_eq_true (by kernel_rfl)) k0 bel lt0) (trodAll_cons_mk (Below.trod laidOut (by kernel_rfl) (of_decide_eq_true (by kernel_rfl)) k1 bel lt1) (trodAll_cons_mk (shut_int Try.underlying2 w2) trodAll_mk0))), rfl, bel.frame _, fun h => by cases h⟩

theorem over : Rows.fnExactNearRow.holds Try.pinned (OpenSpec.ofChange Rows.fnExactNearSpec) :=
  OpenClaim.holds_of_wide 7 Try.f7 rfl rfl rfl rfl rfl rfl rfl ⟨rfl, rfl, rfl, rfl, rfl⟩ rfl rfl rfl rfl rfl (by kernel_rfl) Try.func7 (by kernel_rfl)
    (of_decide_eq_true (by kernel_rfl)) (by unfold Func.isWrapper; first | (rw [if_pos (by decide +kernel)]; kernel_rfl) | (rw [if_neg (by decide +kernel)]; exact ⟨rfl, rfl⟩))
    (fun os started H enc _ => lifted os started H enc)

end Go.Proofs.Ytodielfilhodeaa.fnExactNear
namespace Go.Proofs.Ytodielfilhodeaa

theorem FnExactNear_holds : Rows.FnExactNearSaid := fnExactNear.over

end Go.Proofs.Ytodielfilhodeaa
