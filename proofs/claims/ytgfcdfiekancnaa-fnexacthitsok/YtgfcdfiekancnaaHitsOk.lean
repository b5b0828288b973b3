/-
  At every list of hits the program's HitsOk answers as the given one, and changes nothing.
-/
import Derived.Test.YtgfcdfiekancnaaHArgs
import Derived.Test.YtgfcdfiekancnaaHMB
namespace Go.Proofs.Ytgfcdfiekancnaa.fnExactHitsOk
open Go.ChangeShapes Go.WideShapes Go.ChangeAt Go.RowKit
set_option linter.unusedVariables false

theorem own : ownKnob Try.prog.godebug = none := by kernel_rfl
theorem laidOut : laidOutB Try.prog = true := by kernel_rfl

set_option maxRecDepth 100000 in
set_option maxHeartbeats 4000000 in
theorem walk (ao0 : Option Addr) (cap0 : Nat) (hs0 : List Ht) (w : World) (hv0 : HView w ao0 hs0) (hn0 : hs0.length ≤ maxLen) (hwf0 : HWf hs0) :
    Calls Try.prog 7 #[.slice ao0 hs0.length cap0] w fun e w' => e = .returned (.bool true) ∧ Below w.heap.size w w' := by
  go_enter Try.func7, Try.ntmps7
  go_wp2_with fail
  refine (szHS ao0 hs0.length cap0 _ _ hn0 (by omega) (by omega)).mono ?_
  rintro e w1 ⟨rfl, rfl⟩
  by_cases hbig : cutV 1048576 hs0.length < 0
  · go_wp2_with fail
    go_ret
    exact ⟨rfl, Below.refl _ _⟩
  · have hsm : hs0.length ≤ 1048576 := by unfold cutV at hbig; split at hbig <;> omega
    go_wp2_with fail
    refine (toHS ao0 cap0 hs0 _ hv0 hsm).mono ?_
    rintro e w2 ⟨b2, rfl, p2, L2⟩
    go_wp2_with fail
    refine (sHitsOk _ _ hs0 _ p2.view hsm).mono ?_
    rintro e w3 ⟨rfl, L3⟩
    replace L3 := chain L2 L3
    clear L2 p2
    go_wp2_with fail
    refine (toHS ao0 cap0 hs0 _ (hv0.next L3) hsm).mono ?_
    rintro e w4 ⟨b4, rfl, p4, L4⟩
    replace L4 := chain L3 L4
    clear L3
    go_wp2_with fail
    refine (iHitsOk _ _ hs0 _ p4.view hsm).mono ?_
    rintro e w5 ⟨rfl, L5⟩
    replace p4 := p4.below (Nat.le_refl _) L5
    replace L5 := chain L4 L5
    clear L4
    have hbb : (hitsB hs0 != hitsB hs0) = false := by simp
    go_wp2_with fail
    refine (toHS ao0 cap0 hs0 _ (hv0.next L5) hsm).mono ?_
    rintro e w6 ⟨b6, rfl, p6, L6⟩
    replace p4 := p4.below (Nat.le_refl _) L6
    replace L6 := chain L5 L6
    clear L5
    go_wp2_with fail
    refine (eqHS _ _ _ _ hs0 hs0 _ p4.view p6.view (by omega)).mono ?_
    rintro e w7 ⟨rfl, L7⟩
    replace L7 := chain L6 L7
    have ht : decide (hs0 = hs0) = true := by simp
    go_wp2_with fail
    go_ret
    exact ⟨rfl, L7⟩

set_option maxRecDepth 100000 in
theorem lifted (os : Os) (started : os.Started) (H : Type) (enc : TypeId × Value → H) :
    ReturnsInHanded {} Try.checked os 7 .any (Rows.fnExactHitsOkSpec.pre6 enc Try.prog Try.f7 Rows.fnExactHitsOkRow.domain false) (Rows.fnExactHitsOkSpec.post enc Try.prog Try.f7 false true false false) := by
  refine returnsInHanded_of_change (C := Try.checked) own started (by kernel_rfl) Try.func7
    (ChangeSpec.witness6 (enc := enc) (C := Try.checked) false ⟨#[], #[.slice none 0 0], []⟩ 8 (by kernel_rfl) (by kernel_rfl) (by kernel_rfl) (by kernel_rfl)) ?_
  intro W base args ds gs before hval0 hW hcnd _
  have hval : ∀ (j : Nat) t v, Try.f7.params[j]? = some t → args[j]? = some v → Value.okWide Try.prog W .any base t v := hval0
  have hW' := hW
  obtain ⟨p, q, hA0, hV, rfl, hfz, hnd⟩ := hW
  have hA : DataW.TrodAll enc Try.prog W 0 (fun _ => true) true Try.f7.params.toList args.toList ds p := hA0
  rw [Try.params7] at hA hval
  obtain ⟨v0, vs0, d0, ds0, p0, q0, hargs, rfl, rfl, h0, r0⟩ := trodAll_cons hA
  obtain ⟨rfl, rfl, rfl⟩ := trodAll_nil r0
  obtain rfl : args = #[v0] := by cases args; simp_all
  obtain ⟨rfl, rfl⟩ := trodVars_none hV
  obtain ⟨a0, len0, cap0, rfl⟩ := okWide_slice Try.underlying47 (hval 0 47 v0 rfl rfl)
  have k0 := h0
  have lt0 : ∀ x ∈ p0, x.block < W.heap.size := by obtain ⟨m, hm⟩ := k0; exact DataW.trod_lt m _ _ _ hm
  obtain ⟨hs0, rfl, hv0, hn0, hwf0⟩ := (by obtain ⟨fuel, hf⟩ := h0; exact hits_view hf : ∃ hs : List Ht, len0 = hs.length ∧ HView W a0 hs ∧ hs.length ≤ maxLen ∧ HWf hs)
  clear hA0 hval0
  refine (walk a0 cap0 hs0 W hv0 hn0 hwf0).mono fun e W' ⟨he, bel⟩ => ?_
  subst he
  exact ⟨_, rfl, _, _, _, [], _, [], hW', trodAll_mk1 (shut_bool Try.underlying4 _), (trodAll_cons_mk (Below.trod laidOut (by kernel_rfl) (of_decide_eq_true (by kernel_rfl)) k0 bel lt0) trodAll_mk0), rfl, bel.frame _, fun h => by cases h⟩

theorem over : Rows.fnExactHitsOkRow.holds Try.pinned (OpenSpec.ofChange Rows.fnExactHitsOkSpec) :=
  OpenClaim.holds_of_wide 7 Try.f7 rfl rfl rfl rfl rfl rfl rfl ⟨rfl, rfl, rfl, rfl, rfl⟩ rfl rfl rfl rfl rfl (by kernel_rfl) Try.func7 (by kernel_rfl)
    (of_decide_eq_true (by kernel_rfl)) (by unfold Func.isWrapper; first | (rw [if_pos (by decide +kernel)]; kernel_rfl) | (rw [if_neg (by decide +kernel)]; exact ⟨rfl, rfl⟩))
    (fun os started H enc _ => lifted os started H enc)

end Go.Proofs.Ytgfcdfiekancnaa.fnExactHitsOk
namespace Go.Proofs.Ytgfcdfiekancnaa

theorem FnExactHitsOk_holds : Rows.FnExactHitsOkSaid := fnExactHitsOk.over

end Go.Proofs.Ytgfcdfiekancnaa
