/-
  FnExactBestRadius holds: for every slice of marks, every count and every kind the program's BestRadius answers as the given one and leaves its argument alone; no condition.
-/
import Derived.Test.YtpcclaehcmnngaaMArgsZz
import Derived.Test.YtpcclaehcmnngaaZBRZz
namespace Go.Proofs.Ytpcclaehcmnngaa.fnExactBestRadius
open Go.ChangeShapes Go.WideShapes Go.ChangeAt Go.RowKit
set_option linter.unusedVariables false

theorem own : ownKnob Try.prog.godebug = none := by kernel_rfl
theorem laidOut : laidOutB Try.prog = true := by kernel_rfl

set_option maxRecDepth 100000 in
set_option maxHeartbeats 4000000 in
theorem walk (ao0 : Option Addr) (cap0 : Nat) (ms0 : List Mk) (x1 : Int) (x2 : Int) (w : World) (hv0 : MView w ao0 ms0) (hn0 : ms0.length ≤ maxLen) (hat0 : ∀ i, (mat ms0 i).length ≤ maxLen) (hx1 : (Lit.int .i64 x1).wf = true) (hx2 : (Lit.int .i64 x2).wf = true) :
    Calls Try.prog 6 #[.slice ao0 ms0.length cap0, .int .i64 x1, .int .i64 x2] w fun e w' => e = .returned (.bool true) ∧ Below w.heap.size w w' := by
  go_enter Try.func6, Try.ntmps6
  go_wp2_with fail
  refine (szMS ao0 cap0 ms0 _ hv0 hn0 hat0).mono ?_
  rintro e w1 ⟨r, rfl, hr, L1⟩
  by_cases hneg : r < 0
  · go_wp2_with fail
    go_ret
    exact ⟨rfl, L1⟩
  · have hsm : MSmall ms0 := by rcases hr with h | h; exact absurd h hneg; exact h
    clear hr
    go_wp2_with fail
    refine (toMS ao0 cap0 ms0 _ (hv0.next L1) hsm).mono ?_
    rintro e w2 ⟨b2, rfl, p2, hb2, L2⟩
    replace L2 := chain L1 L2
    clear L1
    go_wp2_with fail
    refine (sBestR _ _ ms0 x1 x2 _ p2.view hsm).mono ?_
    rintro e w3 ⟨rfl, L3⟩
    replace L2 := chain L2 L3
    clear L3
    go_wp2_with fail
    refine (toMS ao0 cap0 ms0 _ (hv0.next L2) hsm).mono ?_
    rintro e w4 ⟨b4, rfl, p4, hb4, L4⟩
    replace L4 := chain L2 L4
    clear L2 p2
    go_wp2_with fail
    refine (iBestR _ _ ms0 x1 x2 _ p4.view hsm).mono ?_
    rintro e w5 ⟨rfl, L5⟩
    replace p4 := p4.below (Nat.le_refl _) L5
    replace L5 := chain L4 L5
    clear L4
    have hbb : (bradI ms0 x1 x2 != bradI ms0 x1 x2) = false := by simp
    go_wp2_with fail
    refine (toMS ao0 cap0 ms0 _ (hv0.next L5) hsm).mono ?_
    rintro e w6 ⟨b6, rfl, p6, hb6, L6⟩
    replace p4 := p4.below (Nat.le_refl _) L6
    replace L6 := chain L5 L6
    clear L5
    go_wp2_with fail
    refine (eqMS _ _ _ _ ms0 ms0 _ p4.view p6.view hsm).mono ?_
    rintro e w7 ⟨rfl, L7⟩
    replace L7 := chain L6 L7
    have ht : decide (ms0 = ms0) = true := by simp
    go_wp2_with fail
    go_ret
    exact ⟨rfl, L7⟩

set_option maxRecDepth 100000 in
theorem lifted (os : Os) (started : os.Started) (H : Type) (enc : TypeId × Value → H) :
    ReturnsInHanded {} Try.checked os 6 .any (Rows.fnExactBestRadiusSpec.pre6 enc Try.prog Try.f6 Rows.fnExactBestRadiusRow.domain false) (Rows.fnExactBestRadiusSpec.post enc Try.prog Try.f6 false true false false) := by
  refine returnsInHanded_of_change (C := Try.checked) own started (by kernel_rfl) Try.func6
    (ChangeSpec.witness6 (enc := enc) (C := Try.checked) false ⟨#[], #[.slice none 0 0, .int .i64 0, .int .i64 0], []⟩ 8 (by kernel_rfl) (by kernel_rfl) (by kernel_rfl) (by kernel_rfl)) ?_
  intro W base args ds gs before hval0 hW hcnd _
  have hval : ∀ (j : Nat) t v, Try.f6.params[j]? = some t → args[j]? = some v → Value.okWide Try.prog W .any base t v := hval0
  have hW' := hW
  obtain ⟨p, q, hA0, hV, rfl, hfz, hnd⟩ := hW
  have hA : DataW.TrodAll enc Try.prog W 0 (fun _ => true) true Try.f6.params.toList args.toList ds p := hA0
  rw [Try.params6] at hA hval
  obtain ⟨v0, vs0, d0, ds0, p0, q0, hargs, rfl, rfl, h0, r0⟩ := trodAll_cons hA
  obtain ⟨v1, vs1, d1, ds1, p1, q1, rfl, rfl, rfl, h1, r1⟩ := trodAll_cons r0
  obtain ⟨v2, vs2, d2, ds2, p2, q2, rfl, rfl, rfl, h2, r2⟩ := trodAll_cons r1
  obtain ⟨rfl, rfl, rfl⟩ := trodAll_nil r2
  obtain rfl : args = #[v0, v1, v2] := by cases args; simp_all
  obtain ⟨rfl, rfl⟩ := trodVars_none hV
  obtain ⟨a0, len0, cap0, rfl⟩ := okWide_slice Try.underlying35 (hval 0 35 v0 rfl rfl)
  have k0 := h0
  have lt0 : ∀ x ∈ p0, x.block < W.heap.size := by obtain ⟨m, hm⟩ := k0; exact DataW.trod_lt m _ _ _ hm
  obtain ⟨ms0, rfl, hv0, hn0, hat0⟩ := (by obtain ⟨fuel, hf⟩ := h0; exact marks_view hf : ∃ ms : List Mk, len0 = ms.length ∧ MView W a0 ms ∧ ms.length ≤ maxLen ∧ ∀ i, (mat ms i).length ≤ maxLen)
  obtain ⟨a1, rfl, rfl, rfl, w1⟩ := open_int Try.underlying2 (hval 1 2 v1 rfl rfl) h1
  obtain ⟨a2, rfl, rfl, rfl, w2⟩ := open_int Try.underlying2 (hval 2 2 v2 rfl rfl) h2
  clear hA0 hval0
  refine (walk a0 cap0 ms0 a1 a2 W hv0 hn0 hat0 w1 w2).mono fun e W' ⟨he, bel⟩ => ?_
  subst he
  exact ⟨_, rfl, _, _, _, [], _, [], hW', trodAll_mk1 (shut_bool Try.underlying4 _), (trodAll_cons_mk (Below.trod laidOut (by kernel_rfl) (of_decide_eq_true (by kernel_rfl)) k0 bel lt0) (trodAll_cons_mk (shut_int Try.underlying2 w1) (trodAll_cons_mk (shut_int Try.underlying2 w2) trodAll_mk0))), rfl, bel.frame _, fun h => by cases h⟩

theorem over : Rows.fnExactBestRadiusRow.holds Try.pinned (OpenSpec.ofChange Rows.fnExactBestRadiusSpec) :=
  OpenClaim.holds_of_wide 6 Try.f6 rfl rfl rfl rfl rfl rfl rfl ⟨rfl, rfl, rfl, rfl, rfl⟩ rfl rfl rfl rfl rfl (by kernel_rfl) Try.func6 (by kernel_rfl)
    (of_decide_eq_true (by kernel_rfl)) (by unfold Func.isWrapper; first | (rw [if_pos (by decide +kernel)]; kernel_rfl) | (rw [if_neg (by decide +kernel)]; exact ⟨rfl, rfl⟩))
    (fun os started H enc _ => lifted os started H enc)

end Go.Proofs.Ytpcclaehcmnngaa.fnExactBestRadius
namespace Go.Proofs.Ytpcclaehcmnngaa

theorem FnExactBestRadius_holds : Rows.FnExactBestRadiusSaid := fnExactBestRadius.over

end Go.Proofs.Ytpcclaehcmnngaa
