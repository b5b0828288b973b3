/-
  At every list of marks the program's Balls answers as the given one, changes nothing that came in, and owns its answer; no condition.
-/
import Derived.Test.YthddhblmnfjciaaMArgsZz
import Derived.Test.YthddhblmnfjciaaVHalvIZz
namespace Go.Proofs.Ythddhblmnfjciaa.fnExactBalls
open Go.ChangeShapes Go.WideShapes Go.ChangeAt Go.RowKit
set_option linter.unusedVariables false

theorem own : ownKnob Try.prog.godebug = none := by kernel_rfl
theorem laidOut : laidOutB Try.prog = true := by kernel_rfl

set_option maxRecDepth 100000 in
set_option maxHeartbeats 4000000 in
theorem walk (ao0 : Option Addr) (cap0 : Nat) (ms0 : List Mk) (w : World) (hv0 : MView w ao0 ms0) (hn0 : ms0.length ≤ maxLen) (hat0 : ∀ i, (mat ms0 i).length ≤ maxLen) :
    Calls Try.prog 5 #[.slice ao0 ms0.length cap0] w fun e w' => e = .returned (.bool true) ∧ Below w.heap.size w w' := by
  have hsmK := balls_small ms0
  have hlenK := balls_len ms0
  have hatK := balls_at ms0
  have HKK := hidP (And.intro hsmK (And.intro hlenK hatK))
  clear hsmK hlenK hatK
  go_enter Try.func5, Try.ntmps5
  go_wp2_with fail
  refine (szMS ao0 cap0 ms0 _ hv0 hn0 hat0).mono ?_
  rintro e w1 ⟨r, rfl, hr, L1⟩
  by_cases hneg : r < 0
  · go_wp2_with fail
    go_ret
    exact ⟨rfl, L1⟩
  · have hsm : MSmall ms0 := by rcases hr with h | h; exact absurd h hneg; exact h
    clear hr
    go_wp2_with fail
    refine (toMS ao0 cap0 ms0 _ (hv0.next L1) hsm).mono ?_
    rintro e w2 ⟨b2, rfl, p2, hb2, L2⟩
    replace L2 := chain L1 L2
    clear L1 hb2
    go_wp2_with fail
    refine (sBalls (some ⟨b2, 0, none⟩) ms0.length ms0 w2 (Nat.le_refl _) p2.view hsm).mono ?_
    rintro e w3 ⟨v0, rfl, q0, L3⟩
    replace L3 := chain L2 L3
    have S3 := hidP q0.see
    clear L2 q0 p2
    generalize hks : ballsV ms0 = ks at *
    have HKS := hidP hks
    clear hks
    go_wp2_with fail
    refine (toMS ao0 cap0 ms0 w3 (hv0.next L3) hsm).mono ?_
    rintro e w5 ⟨bx, rfl, px, hbx, L5⟩
    have hwx : w.heap.size ≤ bx := Nat.le_trans L3.size hbx
    have B5 := L5
    replace L5 := chain L3 L5
    have P5 := hidP (And.intro px px.over)
    have HI : Hid (∀ (b : Nat) (w' : World), MPart w' b ms0.length ms0.length ms0 → Calls Try.prog 24 #[.slice (some ⟨b, 0, none⟩) ms0.length ms0.length] w' fun e w'' => ∃ v, e = .returned v ∧ BGot w'.heap.size w'' v ks ∧ Below w'.heap.size w' w'') := fun b w' h => by
      have := iBalls (some ⟨b, 0, none⟩) ms0.length ms0 w' (Nat.le_refl _) h.view hsm
      rw [HKS.out] at this
      exact this
    have h35 := B5.size
    have T5s := hidP L5.size
    have HB5 := hidP B5
    clear px B5 L3
    go_wp2_with fail
    refine (HI.out bx w5 P5.out.1).mono ?_
    rintro e w6 ⟨g0, rfl, q6, L6⟩
    have T6 : Hid (MPart w6 bx ms0.length ms0.length ms0 ∧ MOver w6 bx w5.heap.size ms0 ∧ BGot w5.heap.size w6 g0 ks ∧ Below w3.heap.size w3 w6 ∧ Below w.heap.size w w6 ∧ w5.heap.size ≤ w6.heap.size) :=
      ⟨P5.out.1.below (Nat.le_refl _) L6, P5.out.2.below (Nat.le_refl _) L6, q6, chain HB5.out L6, chain L5 L6, L6.size⟩
    have STP : Hid (∀ wa wb, Below wa.heap.size wa wb → (MPart wa bx ms0.length ms0.length ms0 ∧ MOver wa bx w5.heap.size ms0 ∧ BGot w5.heap.size wa g0 ks ∧ Below w3.heap.size w3 wa ∧ Below w.heap.size w wa ∧ w5.heap.size ≤ wa.heap.size) → (MPart wb bx ms0.length ms0.length ms0 ∧ MOver wb bx w5.heap.size ms0 ∧ BGot w5.heap.size wb g0 ks ∧ Below w3.heap.size w3 wb ∧ Below w.heap.size w wb ∧ w5.heap.size ≤ wb.heap.size)) :=
      fun wa wb hb ⟨t1, t2, t3, t4, t5, t6⟩ => ⟨t1.below (Nat.le_refl _) hb, t2.below t6 hb, t3.below hb, chain t4 hb, chain t5 hb, Nat.le_trans t6 hb.size⟩
    clear q6 L6 P5 HB5 L5
    go_wp2_with fail
    refine (eqGV g0 v0 ks w6 T6.out.2.2.1.see (S3.out.next T6.out.2.2.2.1) HKK.out.1).mono ?_
    rintro e w7 ⟨rfl, L7⟩
    have T7 := hidP (STP.out _ _ L7 T6.out)
    clear T6 L7
    go_wp2_with fail
    refine (toMS ao0 cap0 ms0 w7 (hv0.next T7.out.2.2.2.2.1) hsm).mono ?_
    rintro e w8 ⟨b8, rfl, p8, hb8, L8⟩
    have T8 := hidP (STP.out _ _ L8 T7.out)
    clear T7 L8 hb8
    go_wp2_with fail
    refine (eqMS _ _ _ _ ms0 ms0 w8 T8.out.1.view p8.view hsm).mono ?_
    rintro e w9 ⟨rfl, L9⟩
    have T9 := hidP (STP.out _ _ L9 T8.out)
    have ht0 : decide (ms0 = ms0) = true := by simp
    clear T8 L9 p8
    go_wp2_with fail
    refine (markMS bx w5.heap.size ms0.length 1 ms0 w9 T9.out.2.1 hsm (by omega) (by omega)).mono ?_
    rintro e wa ⟨⟨k1, hk1, hk2, rfl⟩, ga⟩
    have Ta : Hid (BGot w5.heap.size wa g0 ks ∧ Below w3.heap.size w3 wa ∧ Below w.heap.size w wa) :=
      ⟨T9.out.2.2.1.gin ga (Nat.le_refl _), below_gin T9.out.2.2.2.1 ga hbx, below_gin T9.out.2.2.2.2.1 ga hwx⟩
    clear T9 ga STP
    go_wp2_with fail
    refine (eqGV g0 v0 ks wa Ta.out.1.see (S3.out.next Ta.out.2.1) HKK.out.1).mono ?_
    rintro e wb ⟨rfl, Lb⟩
    have Tb : Hid (BGot w5.heap.size wb g0 ks ∧ Below w3.heap.size w3 wb ∧ Below w.heap.size w wb) := ⟨Ta.out.1.below Lb, chain Ta.out.2.1 Lb, chain Ta.out.2.2 Lb⟩
    clear Ta Lb
    go_wp2_with fail
    refine (markGV w5.heap.size g0 ks wb Tb.out.1 HKK.out.2.2 HKK.out.2.1).mono ?_
    rintro e wc ⟨N, rfl, hN1, hN2, hmk, hchg⟩
    have Tc : Hid (BMk w5.heap.size wc g0 N ∧ Below w3.heap.size w3 wc ∧ Below w.heap.size w wc) := ⟨hmk, hchg.below Tb.out.2.1 h35, hchg.below Tb.out.2.2 (by have := hwx; have := T5s.out; omega)⟩
    clear Tb hmk hchg
    have d1 : ¬ (N < 0) := by omega
    have d2 : (N != N) = false := by simp
    go_wp2_with fail
    refine (heldGV w5.heap.size g0 N wc Tc.out.1).mono ?_
    rintro e wd ⟨rfl, hwd⟩
    rw [hwd]
    clear hwd wd
    go_wp2_with fail
    refine (toMS ao0 cap0 ms0 wc (hv0.next Tc.out.2.2) hsm).mono ?_
    rintro e we ⟨be, rfl, pe, hbe, Le⟩
    have Te : Hid (BMk w5.heap.size we g0 N ∧ Below w3.heap.size w3 we ∧ Below w.heap.size w we) := ⟨Tc.out.1.below Le, chain Tc.out.2.1 Le, chain Tc.out.2.2 Le⟩
    have HIe := hidP (HI.out be we pe)
    clear Tc Le hbe pe
    go_wp2_with fail
    refine HIe.out.mono ?_
    rintro e wf ⟨h0, rfl, qf, Lf⟩
    have Tf : Hid (BMk w5.heap.size wf g0 N ∧ Below w3.heap.size w3 wf ∧ Below w.heap.size w wf ∧ KSee wf h0 ks) := ⟨Te.out.1.below Lf, chain Te.out.2.1 Lf, chain Te.out.2.2 Lf, qf.see⟩
    clear Te qf Lf HIe
    go_wp2_with fail
    refine (eqGV h0 v0 ks wf Tf.out.2.2.2 (S3.out.next Tf.out.2.1) HKK.out.1).mono ?_
    rintro e wg ⟨rfl, Lg⟩
    have Tg : Hid (BMk w5.heap.size wg g0 N ∧ Below w.heap.size w wg) := ⟨Tf.out.1.below Lg, chain Tf.out.2.2.1 Lg⟩
    clear Tf Lg
    go_wp2_with fail
    refine (heldGV w5.heap.size g0 N wg Tg.out.1).mono ?_
    rintro e wh ⟨rfl, hwh⟩
    rw [hwh]
    clear hwh wh
    go_wp2_with fail
    go_ret
    exact ⟨rfl, Tg.out.2⟩

set_option maxRecDepth 100000 in
theorem lifted (os : Os) (started : os.Started) (H : Type) (enc : TypeId × Value → H) :
    ReturnsInHanded {} Try.checked os 5 .any (Rows.fnExactBallsSpec.pre6 enc Try.prog Try.f5 Rows.fnExactBallsRow.domain false) (Rows.fnExactBallsSpec.post enc Try.prog Try.f5 false true false false) := by
  refine returnsInHanded_of_change (C := Try.checked) own started (by kernel_rfl) Try.func5
    (ChangeSpec.witness6 (enc := enc) (C := Try.checked) false ⟨#[], #[.slice none 0 0], []⟩ 8 (by kernel_rfl) (by kernel_rfl) (by kernel_rfl) (by kernel_rfl)) ?_
  intro W base args ds gs before hval0 hW hcnd _
  have hval : ∀ (j : Nat) t v, Try.f5.params[j]? = some t → args[j]? = some v → Value.okWide Try.prog W .any base t v := hval0
  have hW' := hW
  obtain ⟨p, q, hA0, hV, rfl, hfz, hnd⟩ := hW
  have hA : DataW.TrodAll enc Try.prog W 0 (fun _ => true) true Try.f5.params.toList args.toList ds p := hA0
  rw [Try.params5] at hA hval
  obtain ⟨v0, vs0, d0, ds0, p0, q0, hargs, rfl, rfl, h0, r0⟩ := trodAll_cons hA
  obtain ⟨rfl, rfl, rfl⟩ := trodAll_nil r0
  obtain rfl : args = #[v0] := by cases args; simp_all
  obtain ⟨rfl, rfl⟩ := trodVars_none hV
  obtain ⟨a0, len0, cap0, rfl⟩ := okWide_slice Try.underlying30 (hval 0 30 v0 rfl rfl)
  have k0 := h0
  have lt0 : ∀ x ∈ p0, x.block < W.heap.size := by obtain ⟨m, hm⟩ := k0; exact DataW.trod_lt m _ _ _ hm
  obtain ⟨ms0, rfl, hv0, hn0, hat0⟩ := (by obtain ⟨fuel, hf⟩ := h0; exact marks_view hf : ∃ ms : List Mk, len0 = ms.length ∧ MView W a0 ms ∧ ms.length ≤ maxLen ∧ ∀ i, (mat ms i).length ≤ maxLen)
  clear hA0 hval0
  refine (walk a0 cap0 ms0 W hv0 hn0 hat0).mono fun e W' ⟨he, bel⟩ => ?_
  subst he
  exact ⟨_, rfl, _, _, _, [], _, [], hW', trodAll_mk1 (shut_bool Try.underlying4 _), (trodAll_cons_mk (Below.trod laidOut (by kernel_rfl) (of_decide_eq_true (by kernel_rfl)) k0 bel lt0) trodAll_mk0), rfl, bel.frame _, fun h => by cases h⟩

theorem over : Rows.fnExactBallsRow.holds Try.pinned (OpenSpec.ofChange Rows.fnExactBallsSpec) :=
  OpenClaim.holds_of_wide 5 Try.f5 rfl rfl rfl rfl rfl rfl rfl ⟨rfl, rfl, rfl, rfl, rfl⟩ rfl rfl rfl rfl rfl (by kernel_rfl) Try.func5 (by kernel_rfl)
    (of_decide_eq_true (by kernel_rfl)) (by unfold Func.isWrapper; first | (rw [if_pos (by decide +kernel)]; kernel_rfl) | (rw [if_neg (by decide +kernel)]; exact ⟨rfl, rfl⟩))
    (fun os started H enc _ => lifted os started H enc)

end Go.Proofs.Ythddhblmnfjciaa.fnExactBalls
namespace Go.Proofs.Ythddhblmnfjciaa

theorem FnExactBalls_holds : Rows.FnExactBallsSaid := fnExactBalls.over

end Go.Proofs.Ythddhblmnfjciaa
