/-
  FnExactWeave holds: for every slice the program's Weave answers as the given one and leaves its argument alone; no condition.
-/
import Derived.Test.YtibkfdefoaimiaaMArgs
import Derived.Test.YtibkfdefoaimiaaOWeaI
namespace Go.Proofs.Ytibkfdefoaimiaa.fnExactWeave
open Go.ChangeShapes Go.WideShapes Go.ChangeAt Go.RowKit
set_option linter.unusedVariables false

theorem own : ownKnob Try.prog.godebug = none := by kernel_rfl
theorem laidOut : laidOutB Try.prog = true := by kernel_rfl

set_option maxRecDepth 100000 in
set_option maxHeartbeats 4000000 in
theorem walk (ao0 : Option Addr) (cap0 : Nat) (xs0 : List Int) (w : World) (hv0 : View w ao0 xs0) (hn0 : xs0.length ≤ maxLen) :
    Calls Try.prog 5 #[.slice ao0 xs0.length cap0] w fun e w' => e = .returned (.bool true) ∧ Below w.heap.size w w' := by
  unfold maxLen at hn0
  by_cases hbig : 1048576 < xs0.length
  · go_enter Try.func5, Try.ntmps5
    go_wp2
    go_ret
    exact ⟨rfl, Below.refl _ _⟩
  have hs0 : xs0.length ≤ 1048576 := by omega
  go_enter Try.func5, Try.ntmps5
  go_wp2_with fail
  refine (toS ao0 cap0 xs0 _ hv0 hs0).mono ?_
  rintro e w1 ⟨b1, rfl, o1, hb1, L1⟩
  go_wp2_with fail
  refine (sWeave _ _ xs0 _ o1.view hs0).mono ?_
  rintro e w3 ⟨rfl, rfl⟩
  clear o1
  go_wp2_with fail
  refine (toS ao0 cap0 xs0 _ (hv0.next L1) hs0).mono ?_
  rintro e w4 ⟨b4, rfl, o4, hb4, L4⟩
  replace L4 := chain L1 L4
  clear L1
  go_wp2_with fail
  refine (iWeave _ _ xs0 _ o4.view hs0).mono ?_
  rintro e w6 ⟨rfl, L6⟩
  replace o4 := o4.below o4.lt L6
  replace L6 := chain L4 L6
  clear L4
  have hbb : (weaveV xs0 != weaveV xs0) = false := by simp
  go_wp2_with fail
  refine (toS ao0 cap0 xs0 _ (hv0.next L6) hs0).mono ?_
  rintro e w7 ⟨b7, rfl, o7, hb7, L7⟩
  replace o4 := o4.below o4.lt L7
  replace L7 := chain L6 L7
  clear L6
  go_wp2_with fail
  refine (eqS _ _ _ _ xs0 xs0 _ o4.view o7.view hs0).mono ?_
  rintro e w8 ⟨rfl, n8, rfl⟩
  replace L7 := below_drewN L7 n8
  have ht : decide (xs0 = xs0) = true := by simp
  clear o4 o7
  go_wp2_with fail
  go_ret
  exact ⟨rfl, L7⟩

set_option maxRecDepth 100000 in
theorem lifted (os : Os) (started : os.Started) (H : Type) (enc : TypeId × Value → H) :
    ReturnsInHanded {} Try.checked os 5 .any (Rows.fnExactWeaveSpec.pre6 enc Try.prog Try.f5 Rows.fnExactWeaveRow.domain false) (Rows.fnExactWeaveSpec.post enc Try.prog Try.f5 false true false false) := by
  refine returnsInHanded_of_change (C := Try.checked) own started (by kernel_rfl) Try.func5
    (ChangeSpec.witness6 (enc := enc) (C := Try.checked) false ⟨#[], #[.slice none 0 0], []⟩ 8 (by kernel_rfl) (by kernel_rfl) (by kernel_rfl) (by kernel_rfl)) ?_
  intro W base args ds gs before hval0 hW hcnd _
  have hval : ∀ (j : Nat) t v, Try.f5.params[j]? = some t → args[j]? = some v → Value.okWide Try.prog W .any base t v := hval0
  have hW' := hW
  obtain ⟨p, q, hA0, hV, rfl, hfz, hnd⟩ := hW
  have hA : DataW.TrodAll enc Try.prog W 0 (fun _ => true) true Try.f5.params.toList args.toList ds p := hA0
  rw [Try.params5] at hA hval
  obtain ⟨v0, vs0, d0, ds0, p0, q0, hargs, rfl, rfl, h0, r0⟩ := trodAll_cons hA
  obtain ⟨rfl, rfl, rfl⟩ := trodAll_nil r0
  obtain rfl : args = #[v0] := by cases args; simp_all
  obtain ⟨rfl, rfl⟩ := trodVars_none hV
  obtain ⟨a0, len0, cap0, rfl⟩ := okWide_slice Try.underlying24 (hval 0 24 v0 rfl rfl)
  have k0 := h0
  have lt0 : ∀ x ∈ p0, x.block < W.heap.size := by obtain ⟨m, hm⟩ := k0; exact DataW.trod_lt m _ _ _ hm
  obtain ⟨xs0, rfl, hv0, hn0⟩ := (by obtain ⟨fuel, hf⟩ := h0; exact row_view1 hf : ∃ xs : List Int, len0 = xs.length ∧ View W a0 xs ∧ xs.length ≤ maxLen)
  clear hA0 hval0
  refine (walk a0 cap0 xs0 W hv0 hn0).mono fun e W' ⟨he, bel⟩ => ?_
  subst he
  exact ⟨_, rfl, _, _, _, [], _, [], hW', trodAll_mk1 (shut_bool Try.underlying4 _), (trodAll_cons_mk (Below.trod laidOut (by kernel_rfl) (of_decide_eq_true (by kernel_rfl)) k0 bel lt0) trodAll_mk0), rfl, bel.frame _, fun h => by cases h⟩

theorem over : Rows.fnExactWeaveRow.holds Try.pinned (OpenSpec.ofChange Rows.fnExactWeaveSpec) :=
  OpenClaim.holds_of_wide 5 Try.f5 rfl rfl rfl rfl rfl rfl rfl ⟨rfl, rfl, rfl, rfl, rfl⟩ rfl rfl rfl rfl rfl (by kernel_rfl) Try.func5 (by kernel_rfl)
    (of_decide_eq_true (by kernel_rfl)) (by unfold Func.isWrapper; first | (rw [if_pos (by decide +kernel)]; kernel_rfl) | (rw [if_neg (by decide +kernel)]; exact ⟨rfl, rfl⟩))
    (fun os started H enc _ => lifted os started H enc)

end Go.Proofs.Ytibkfdefoaimiaa.fnExactWeave
namespace Go.Proofs.Ytibkfdefoaimiaa

theorem FnExactWeave_holds : Rows.FnExactWeaveSaid := fnExactWeave.over

end Go.Proofs.Ytibkfdefoaimiaa
