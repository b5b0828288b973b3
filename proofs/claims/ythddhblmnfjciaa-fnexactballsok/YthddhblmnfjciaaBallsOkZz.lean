/-
  FnExactBallsOk holds: for every slice of balls the program's BallsOk answers as the given one and leaves its argument alone; no condition.
-/
import Derived.Test.YthddhblmnfjciaaVOkSZz
import Derived.Test.YthddhblmnfjciaaVCopyZz
namespace Go.Proofs.Ythddhblmnfjciaa.fnExactBallsOk
open Go.ChangeShapes Go.WideShapes Go.ChangeAt Go.RowKit
set_option linter.unusedVariables false

theorem own : ownKnob Try.prog.godebug = none := by kernel_rfl
theorem laidOut : laidOutB Try.prog = true := by kernel_rfl

set_option maxRecDepth 100000 in
set_option maxHeartbeats 4000000 in
theorem walk (ao0 : Option Addr) (cap0 : Nat) (ks0 : List Kn) (w : World) (hv0 : KView w ao0 ks0) (hn0 : ks0.length ≤ maxLen) (hat0 : ∀ i, (knth ks0 i).1.2.length ≤ maxLen) :
    Calls Try.prog 6 #[.slice ao0 ks0.length cap0] w fun e w' => e = .returned (.bool true) ∧ Below w.heap.size w w' := by
  go_enter Try.func6, Try.ntmps6
  go_wp2_with fail
  refine (szVS ao0 cap0 ks0 _ hv0 hn0 hat0).mono ?_
  rintro e w1 ⟨r, rfl, hr, L1⟩
  by_cases hneg : r < 0
  · go_wp2_with fail
    go_ret
    exact ⟨rfl, L1⟩
  · have hsm : KSmall ks0 := by rcases hr with h | h; exact absurd h hneg; exact h
    clear hr
    go_wp2_with fail
    refine (toVS ao0 cap0 ks0 _ (hv0.next L1) hsm).mono ?_
    rintro e w2 ⟨b2, rfl, p2, hb2, L2⟩
    replace L2 := chain L1 L2
    clear L1
    go_wp2_with fail
    refine (sBallsOk _ _ ks0 _ p2.view hsm).mono ?_
    rintro e w3 ⟨rfl, L3⟩
    replace L2 := chain L2 L3
    clear L3
    go_wp2_with fail
    refine (toVS ao0 cap0 ks0 _ (hv0.next L2) hsm).mono ?_
    rintro e w4 ⟨b4, rfl, p4, hb4, L4⟩
    replace L4 := chain L2 L4
    clear L2 p2
    go_wp2_with fail
    refine (iBallsOk _ _ ks0 _ p4.view hsm).mono ?_
    rintro e w5 ⟨rfl, L5⟩
    replace p4 := p4.below L5
    replace L5 := chain L4 L5
    clear L4
    have hbb : (ballsB ks0 != ballsB ks0) = false := by simp
    generalize ballsB ks0 = vv at *
    go_wp2_with fail
    refine (toVS ao0 cap0 ks0 _ (hv0.next L5) hsm).mono ?_
    rintro e w6 ⟨b6, rfl, p6, hb6, L6⟩
    replace p4 := p4.below L6
    replace L6 := chain L5 L6
    clear L5
    go_wp2_with fail
    refine (eqVS _ _ _ _ ks0 _ p4.view p6.view hsm).mono ?_
    rintro e w7 ⟨rfl, L7⟩
    replace L7 := chain L6 L7
    go_wp2_with fail
    go_ret
    exact ⟨rfl, L7⟩

set_option maxRecDepth 100000 in
theorem lifted (os : Os) (started : os.Started) (H : Type) (enc : TypeId × Value → H) :
    ReturnsInHanded {} Try.checked os 6 .any (Rows.fnExactBallsOkSpec.pre6 enc Try.prog Try.f6 Rows.fnExactBallsOkRow.domain false) (Rows.fnExactBallsOkSpec.post enc Try.prog Try.f6 false true false false) := by
  refine returnsInHanded_of_change (C := Try.checked) own started (by kernel_rfl) Try.func6
    (ChangeSpec.witness6 (enc := enc) (C := Try.checked) false ⟨#[], #[.slice none 0 0], []⟩ 8 (by kernel_rfl) (by kernel_rfl) (by kernel_rfl) (by kernel_rfl)) ?_
  intro W base args ds gs before hval0 hW hcnd _
  have hval : ∀ (j : Nat) t v, Try.f6.params[j]? = some t → args[j]? = some v → Value.okWide Try.prog W .any base t v := hval0
  have hW' := hW
  obtain ⟨p, q, hA0, hV, rfl, hfz, hnd⟩ := hW
  have hA : DataW.TrodAll enc Try.prog W 0 (fun _ => true) true Try.f6.params.toList args.toList ds p := hA0
  rw [Try.params6] at hA hval
  obtain ⟨v0, vs0, d0, ds0, p0, q0, hargs, rfl, rfl, h0, r0⟩ := trodAll_cons hA
  obtain ⟨rfl, rfl, rfl⟩ := trodAll_nil r0
  obtain rfl : args = #[v0] := by cases args; simp_all
  obtain ⟨rfl, rfl⟩ := trodVars_none hV
  obtain ⟨a0, len0, cap0, rfl⟩ := okWide_slice Try.underlying41 (hval 0 41 v0 rfl rfl)
  have k0 := h0
  have lt0 : ∀ x ∈ p0, x.block < W.heap.size := by obtain ⟨m, hm⟩ := k0; exact DataW.trod_lt m _ _ _ hm
  obtain ⟨ks0, rfl, hv0, hn0, hat0⟩ := (by obtain ⟨fuel, hf⟩ := h0; exact balls_view hf : ∃ ks : List Kn, len0 = ks.length ∧ KView W a0 ks ∧ ks.length ≤ maxLen ∧ ∀ i, (knth ks i).1.2.length ≤ maxLen)
  clear hA0 hval0
  refine (walk a0 cap0 ks0 W hv0 hn0 hat0).mono fun e W' ⟨he, bel⟩ => ?_
  subst he
  exact ⟨_, rfl, _, _, _, [], _, [], hW', trodAll_mk1 (shut_bool Try.underlying4 _), (trodAll_cons_mk (Below.trod laidOut (by kernel_rfl) (of_decide_eq_true (by kernel_rfl)) k0 bel lt0) trodAll_mk0), rfl, bel.frame _, fun h => by cases h⟩

theorem over : Rows.fnExactBallsOkRow.holds Try.pinned (OpenSpec.ofChange Rows.fnExactBallsOkSpec) :=
  OpenClaim.holds_of_wide 6 Try.f6 rfl rfl rfl rfl rfl rfl rfl ⟨rfl, rfl, rfl, rfl, rfl⟩ rfl rfl rfl rfl rfl (by kernel_rfl) Try.func6 (by kernel_rfl)
    (of_decide_eq_true (by kernel_rfl)) (by unfold Func.isWrapper; first | (rw [if_pos (by decide +kernel)]; kernel_rfl) | (rw [if_neg (by decide +kernel)]; exact ⟨rfl, rfl⟩))
    (fun os started H enc _ => lifted os started H enc)

end Go.Proofs.Ythddhblmnfjciaa.fnExactBallsOk
namespace Go.Proofs.Ythddhblmnfjciaa

theorem FnExactBallsOk_holds : Rows.FnExactBallsOkSaid := fnExactBallsOk.over

end Go.Proofs.Ythddhblmnfjciaa
