/-
  FnExactBetween holds: for all slices and every kind the program's Between answers as the given one and leaves its arguments alone; no condition.
-/
import Derived.Test.YtjoffjmnflmnmaaMArgs
import Derived.Test.YtjoffjmnflmnmaaBet
namespace Go.Proofs.Ytjoffjmnflmnmaa.fnExactBetween
open Go.ChangeShapes Go.WideShapes Go.ChangeAt Go.RowKit
set_option linter.unusedVariables false

theorem own : ownKnob Try.prog.godebug = none := by kernel_rfl
theorem laidOut : laidOutB Try.prog = true := by kernel_rfl

set_option maxRecDepth 100000 in
set_option maxHeartbeats 4000000 in
theorem walk (ao0 : Option Addr) (cap0 : Nat) (xs0 : List Int) (ao1 : Option Addr) (cap1 : Nat) (xs1 : List Int) (x2 : Int) (w : World) (hv0 : View w ao0 xs0) (hn0 : xs0.length ≤ maxLen) (hv1 : View w ao1 xs1) (hn1 : xs1.length ≤ maxLen) (hx2 : (Lit.int .i64 x2).wf = true) :
    Calls Try.prog 4 #[.slice ao0 xs0.length cap0, .slice ao1 xs1.length cap1, .int .i64 x2] w fun e w' => e = .returned (.bool true) ∧ Below w.heap.size w w' := by
  unfold maxLen at hn0 hn1
  by_cases hbig : 1048576 < xs0.length
  · go_enter Try.func4, Try.ntmps4
    go_wp2
    go_ret
    exact ⟨rfl, Below.refl _ _⟩
  by_cases hbig' : 1048576 < xs1.length
  · go_enter Try.func4, Try.ntmps4
    go_wp2
    go_ret
    exact ⟨rfl, Below.refl _ _⟩
  have hs0 : xs0.length ≤ 1048576 := by omega
  have hs1 : xs1.length ≤ 1048576 := by omega
  go_enter Try.func4, Try.ntmps4
  go_wp2_with fail
  refine (toS ao0 cap0 xs0 _ hv0 hs0).mono ?_
  rintro e w1 ⟨b1, rfl, o1, hb1, L1⟩
  go_wp2_with fail
  refine (toS ao1 cap1 xs1 _ (hv1.next L1) hs1).mono ?_
  rintro e w2 ⟨b2, rfl, o2, hb2, L2⟩
  replace o1 := o1.below o1.lt L2
  replace L2 := chain L1 L2
  clear L1
  go_wp2_with fail
  refine (sBet _ _ _ _ xs0 xs1 x2 _ o1.view o2.view hs0 hs1).mono ?_
  rintro e w3 ⟨rfl, n3, rfl⟩
  replace L2 := below_drewN L2 n3
  clear o1 o2
  go_wp2_with fail
  refine (toS ao0 cap0 xs0 _ (hv0.next L2) hs0).mono ?_
  rintro e w4 ⟨b4, rfl, o4, hb4, L4⟩
  replace L4 := chain L2 L4
  clear L2
  go_wp2_with fail
  refine (toS ao1 cap1 xs1 _ (hv1.next L4) hs1).mono ?_
  rintro e w5 ⟨b5, rfl, o5, hb5, L5⟩
  replace o4 := o4.below o4.lt L5
  replace L5 := chain L4 L5
  clear L4
  go_wp2_with fail
  refine (iBet _ _ _ _ xs0 xs1 x2 _ o4.view o5.view hs0 hs1).mono ?_
  rintro e w6 ⟨rfl, L6⟩
  replace o4 := o4.below o4.lt L6
  replace o5 := o5.below o5.lt L6
  replace L6 := chain L5 L6
  clear L5
  have hbb : (betV xs0 xs1 x2 != betV xs0 xs1 x2) = false := by simp
  go_wp2_with fail
  refine (toS ao0 cap0 xs0 _ (hv0.next L6) hs0).mono ?_
  rintro e w7 ⟨b7, rfl, o7, hb7, L7⟩
  replace o4 := o4.below o4.lt L7
  replace o5 := o5.below o5.lt L7
  replace L7 := chain L6 L7
  clear L6
  go_wp2_with fail
  refine (eqS _ _ _ _ xs0 xs0 _ o4.view o7.view hs0).mono ?_
  rintro e w8 ⟨rfl, n8, rfl⟩
  replace o5 := o5.drewN n8
  replace L7 := below_drewN L7 n8
  have ht : decide (xs0 = xs0) = true := by simp
  clear o4 o7
  go_wp2_with fail
  refine (toS ao1 cap1 xs1 _ (hv1.next L7) hs1).mono ?_
  rintro e w9 ⟨b9, rfl, o9, hb9, L9⟩
  replace o5 := o5.below o5.lt L9
  replace L9 := chain L7 L9
  clear L7
  go_wp2_with fail
  refine (eqS _ _ _ _ xs1 xs1 _ o5.view o9.view hs1).mono ?_
  rintro e w10 ⟨rfl, n10, rfl⟩
  replace L9 := below_drewN L9 n10
  have ht1 : decide (xs1 = xs1) = true := by simp
  go_wp2_with fail
  go_ret
  exact ⟨rfl, L9⟩

set_option maxRecDepth 100000 in
theorem lifted (os : Os) (started : os.Started) (H : Type) (enc : TypeId × Value → H) :
    ReturnsInHanded {} Try.checked os 4 .any (Rows.fnExactBetweenSpec.pre6 enc Try.prog Try.f4 Rows.fnExactBetweenRow.domain false) (Rows.fnExactBetweenSpec.post enc Try.prog Try.f4 false true false false) := by
  refine returnsInHanded_of_change (C := Try.checked) own started (by kernel_rfl) Try.func4
    (ChangeSpec.witness6 (enc := enc) (C := Try.checked) false ⟨#[], #[.slice none 0 0, .slice none 0 0, .int .i64 0], []⟩ 8 (by kernel_rfl) (by kernel_rfl) (by kernel_rfl) (by kernel_rfl)) ?_
  intro W base args ds gs before hval0 hW hcnd _
  have hval : ∀ (j : Nat) t v, Try.f4.params[j]? = some t → args[j]? = some v → Value.okWide Try.prog W .any base t v := hval0
  have hW' := hW
  obtain ⟨p, q, hA0, hV, rfl, hfz, hnd⟩ := hW
  have hA : DataW.TrodAll enc Try.prog W 0 (fun _ => true) true Try.f4.params.toList args.toList ds p := hA0
  rw [Try.params4] at hA hval
  obtain ⟨v0, vs0, d0, ds0, p0, q0, hargs, rfl, rfl, h0, r0⟩ := trodAll_cons hA
  obtain ⟨v1, vs1, d1, ds1, p1, q1, rfl, rfl, rfl, h1, r1⟩ := trodAll_cons r0
  obtain ⟨v2, vs2, d2, ds2, p2, q2, rfl, rfl, rfl, h2, r2⟩ := trodAll_cons r1
  obtain ⟨rfl, rfl, rfl⟩ := trodAll_nil r2
  obtain rfl : args = #[v0, v1, v2] := by cases args; simp_all
  obtain ⟨rfl, rfl⟩ := trodVars_none hV
  obtain ⟨a0, len0, cap0, rfl⟩ := okWide_slice Try.underlying29 (hval 0 29 v0 rfl rfl)
  have k0 := h0
  have lt0 : ∀ x ∈ p0, x.block < W.heap.size := by obtain ⟨m, hm⟩ := k0; exact DataW.trod_lt m _ _ _ hm
  obtain ⟨xs0, rfl, hv0, hn0⟩ := (by obtain ⟨fuel, hf⟩ := h0; exact row_view1 hf : ∃ xs : List Int, len0 = xs.length ∧ View W a0 xs ∧ xs.length ≤ maxLen)
  obtain ⟨a1, len1, cap1, rfl⟩ := okWide_slice Try.underlying29 (hval 1 29 v1 rfl rfl)
  have k1 := h1
  have lt1 : ∀ x ∈ p1, x.block < W.heap.size := by obtain ⟨m, hm⟩ := k1; exact DataW.trod_lt m _ _ _ hm
  obtain ⟨xs1, rfl, hv1, hn1⟩ := (by obtain ⟨fuel, hf⟩ := h1; exact row_view1 hf : ∃ xs : List Int, len1 = xs.length ∧ View W a1 xs ∧ xs.length ≤ maxLen)
  obtain ⟨a2, rfl, rfl, rfl, w2⟩ := open_int Try.underlying2 (hval 2 2 v2 rfl rfl) h2
  clear hA0 hval0
  refine (walk a0 cap0 xs0 a1 cap1 xs1 a2 W hv0 hn0 hv1 hn1 w2).mono fun e W' ⟨he, bel⟩ => ?_
  subst he
  exact ⟨_, rfl, _, _, _, [], _, [], hW', trodAll_mk1 (shut_bool Try.underlying4 _), (trodAll_cons_mk (Below.trod laidOut (by kernel_rfl) (of_decide_eq_true (by kernel_rfl)) k0 bel lt0) (trodAll_cons_mk (Below.trod laidOut (by kernel_rfl) (of_decide_eq_true (by kernel_rfl)) k1 bel lt1) (trodAll_cons_mk (shut_int Try.underlying2 w2) trodAll_mk0))), rfl, bel.frame _, fun h => by cases h⟩

theorem over : Rows.fnExactBetweenRow.holds Try.pinned (OpenSpec.ofChange Rows.fnExactBetweenSpec) :=
  OpenClaim.holds_of_wide 4 Try.f4 rfl rfl rfl rfl rfl rfl rfl ⟨rfl, rfl, rfl, rfl, rfl⟩ rfl rfl rfl rfl rfl (by kernel_rfl) Try.func4 (by kernel_rfl)
    (of_decide_eq_true (by kernel_rfl)) (by unfold Func.isWrapper; first | (rw [if_pos (by decide +kernel)]; kernel_rfl) | (rw [if_neg (by decide +kernel)]; exact ⟨rfl, rfl⟩))
    (fun os started H enc _ => lifted os started H enc)

end Go.Proofs.Ytjoffjmnflmnmaa.fnExactBetween
namespace Go.Proofs.Ytjoffjmnflmnmaa

theorem FnExactBetween_holds : Rows.FnExactBetweenSaid := fnExactBetween.over

end Go.Proofs.Ytjoffjmnflmnmaa
