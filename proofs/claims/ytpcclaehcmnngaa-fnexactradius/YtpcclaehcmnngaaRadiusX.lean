/-
  FnExactRadius holds: for every slice of marks, every slice of numbers and every kind the program's Radius answers as the given one and leaves its arguments alone; no condition.
-/
import Derived.Test.YtpcclaehcmnngaaMArgs
import Derived.Test.YtpcclaehcmnngaaZImp
namespace Go.Proofs.Ytpcclaehcmnngaa.fnExactRadius
open Go.ChangeShapes Go.WideShapes Go.ChangeAt Go.RowKit
set_option linter.unusedVariables false

theorem own : ownKnob Try.prog.godebug = none := by kernel_rfl
theorem laidOut : laidOutB Try.prog = true := by kernel_rfl

set_option maxRecDepth 100000 in
set_option maxHeartbeats 4000000 in
theorem walk (ao0 : Option Addr) (cap0 : Nat) (ms0 : List Mk) (ao1 : Option Addr) (cap1 : Nat) (xs1 : List Int) (x2 : Int) (w : World) (hv0 : MView w ao0 ms0) (hn0 : ms0.length ≤ maxLen) (hat0 : ∀ i, (mat ms0 i).length ≤ maxLen) (hv1 : View w ao1 xs1) (hn1 : xs1.length ≤ maxLen) (hx2 : (Lit.int .i64 x2).wf = true) :
    Calls Try.prog 5 #[.slice ao0 ms0.length cap0, .slice ao1 xs1.length cap1, .int .i64 x2] w fun e w' => e = .returned (.bool true) ∧ Below w.heap.size w w' := by
  by_cases hq : xs1.length ≤ 1048576
  case neg =>
    have hq2 : (xs1.length : Int) > 1048576 := by omega
    go_enter Try.func5, Try.ntmps5
    go_wp2_with fail
    go_ret
    exact ⟨rfl, Below.refl _ _⟩
  case pos =>
    have hq2 : ¬ ((xs1.length : Int) > 1048576) := by omega
    go_enter Try.func5, Try.ntmps5
    go_wp2_with fail
    refine (szMS ao0 cap0 ms0 _ hv0 hn0 hat0).mono ?_
    rintro e w1 ⟨r, rfl, hr, L1⟩
    by_cases hneg : r < 0
    · go_wp2_with fail
      go_ret
      exact ⟨rfl, L1⟩
    · have hsm : MSmall ms0 := by rcases hr with h | h; exact absurd h hneg; exact h
      clear hr
      have HV0 := hidP hv0
      have HV1 := hidP hv1
      clear hv0 hv1
      go_wp2_with fail
      refine (toMS ao0 cap0 ms0 _ (HV0.out.next L1) hsm).mono ?_
      rintro e w2 ⟨b2, rfl, p2, hb2, M2⟩
      have L2 := chain L1 M2
      go_wp2_with fail
      refine (toS ao1 cap1 xs1 _ (View.next HV1.out L2) hq).mono ?_
      rintro e w3 ⟨b3, rfl, p3, hb3, M3⟩
      have L3 := chain L2 M3
      have HC := hidP (sRadius (some ⟨b2, 0, none⟩) (some ⟨b3, 0, none⟩) ms0.length xs1.length ms0 xs1 x2 w3 (p2.view.next M3) p3.view hsm hq)
      clear p2 p3 M2 M3 hb2 hb3 L1 L2
      go_wp2_with fail
      refine HC.out.mono ?_
      rintro e w4 ⟨rfl, n4, hw4⟩
      have L4 : Below w.heap.size w w4 := by rw [hw4]; exact below_drewN L3 n4
      clear hw4 L3 HC
      go_wp2_with fail
      refine (toMS ao0 cap0 ms0 _ (HV0.out.next L4) hsm).mono ?_
      rintro e w5 ⟨b5, rfl, p5, hb5, M5⟩
      have L5 := chain L4 M5
      go_wp2_with fail
      refine (toS ao1 cap1 xs1 _ (View.next HV1.out L5) hq).mono ?_
      rintro e w6 ⟨b6, rfl, p6, hb6, M6⟩
      have L6 := chain L5 M6
      have v5 := p5.view.next M6
      have v6 := p6.view
      have HC := hidP (iRadius (some ⟨b5, 0, none⟩) (some ⟨b6, 0, none⟩) ms0.length xs1.length ms0 xs1 x2 w6 v5 v6 hsm hq)
      clear p5 p6 M5 M6 hb5 hb6 L4 L5
      go_wp2_with fail
      refine HC.out.mono ?_
      rintro e w7 ⟨rfl, M7⟩
      have L7 := chain L6 M7
      have v5' := v5.next M7
      have v6' := View.next v6 M7
      have hbb : (radI ms0 xs1 x2 != radI ms0 xs1 x2) = false := by simp
      clear HC M7 v5 v6 L6
      go_wp2_with fail
      refine (toMS ao0 cap0 ms0 _ (HV0.out.next L7) hsm).mono ?_
      rintro e w8 ⟨b8, rfl, p8, hb8, M8⟩
      have L8 := chain L7 M8
      have u5 := v5'.next M8
      have u6 := View.next v6' M8
      clear v5' v6' M8 hb8 L7
      go_wp2_with fail
      refine (eqMS _ _ _ _ ms0 ms0 _ u5 p8.view hsm).mono ?_
      rintro e w9 ⟨rfl, M9⟩
      have L9 := chain L8 M9
      have t6 := View.next u6 M9
      have ht : decide (ms0 = ms0) = true := by simp
      clear u5 u6 p8 M9 L8
      go_wp2_with fail
      refine (toS ao1 cap1 xs1 _ (View.next HV1.out L9) hq).mono ?_
      rintro e wa ⟨ba, rfl, pa, hba, Ma⟩
      have La := chain L9 Ma
      have s6 := View.next t6 Ma
      clear t6 Ma hba L9
      go_wp2_with fail
      refine (eqS _ _ _ _ xs1 xs1 _ s6 pa.view hq).mono ?_
      rintro e wb ⟨rfl, nb, hwb⟩
      have Lb : Below w.heap.size w wb := by rw [hwb]; exact below_drewN La nb
      have ht2 : decide (xs1 = xs1) = true := by simp
      clear hwb La
      go_wp2_with fail
      go_ret
      exact ⟨rfl, Lb⟩

set_option maxRecDepth 100000 in
theorem lifted (os : Os) (started : os.Started) (H : Type) (enc : TypeId × Value → H) :
    ReturnsInHanded {} Try.checked os 5 .any (Rows.fnExactRadiusSpec.pre6 enc Try.prog Try.f5 Rows.fnExactRadiusRow.domain false) (Rows.fnExactRadiusSpec.post enc Try.prog Try.f5 false true false false) := by
  refine returnsInHanded_of_change (C := Try.checked) own started (by kernel_rfl) Try.func5
    (ChangeSpec.witness6 (enc := enc) (C := Try.checked) false ⟨#[], #[.slice none 0 0, .slice none 0 0, .int .i64 0], []⟩ 8 (by kernel_rfl) (by kernel_rfl) (by kernel_rfl) (by kernel_rfl)) ?_
  intro W base args ds gs before hval0 hW hcnd _
  have hval : ∀ (j : Nat) t v, Try.f5.params[j]? = some t → args[j]? = some v → Value.okWide Try.prog W .any base t v := hval0
  have hW' := hW
  obtain ⟨p, q, hA0, hV, rfl, hfz, hnd⟩ := hW
  have hA : DataW.TrodAll enc Try.prog W 0 (fun _ => true) true Try.f5.params.toList args.toList ds p := hA0
  rw [Try.params5] at hA hval
  obtain ⟨v0, vs0, d0, ds0, p0, q0, hargs, rfl, rfl, h0, r0⟩ := trodAll_cons hA
  obtain ⟨v1, vs1, d1, ds1, p1, q1, rfl, rfl, rfl, h1, r1⟩ := trodAll_cons r0
  obtain ⟨v2, vs2, d2, ds2, p2, q2, rfl, rfl, rfl, h2, r2⟩ := trodAll_cons r1
  obtain ⟨rfl, rfl, rfl⟩ := trodAll_nil r2
  obtain rfl : args = #[v0, v1, v2] := by cases args; simp_all
  obtain ⟨rfl, rfl⟩ := trodVars_none hV
  obtain ⟨a0, len0, cap0, rfl⟩ := okWide_slice Try.underlying35 (hval 0 35 v0 rfl rfl)
  have k0 := h0
  have lt0 : ∀ x ∈ p0, x.block < W.heap.size := by obtain ⟨m, hm⟩ := k0; exact DataW.trod_lt m _ _ _ hm
  obtain ⟨ms0, rfl, hv0, hn0, hat0⟩ := (by obtain ⟨fuel, hf⟩ := h0; exact marks_view hf : ∃ ms : List Mk, len0 = ms.length ∧ MView W a0 ms ∧ ms.length ≤ maxLen ∧ ∀ i, (mat ms i).length ≤ maxLen)
  obtain ⟨a1, len1, cap1, rfl⟩ := okWide_slice Try.underlying28 (hval 1 28 v1 rfl rfl)
  have k1 := h1
  have lt1 : ∀ x ∈ p1, x.block < W.heap.size := by obtain ⟨m, hm⟩ := k1; exact DataW.trod_lt m _ _ _ hm
  obtain ⟨xs1, rfl, hv1, hn1⟩ := (by obtain ⟨fuel, hf⟩ := h1; exact row_view1 hf : ∃ xs : List Int, len1 = xs.length ∧ View W a1 xs ∧ xs.length ≤ maxLen)
  obtain ⟨a2, rfl, rfl, rfl, w2⟩ := open_int Try.underlying2 (hval 2 2 v2 rfl rfl) h2
  clear hA0 hval0
  refine (walk a0 cap0 ms0 a1 cap1 xs1 a2 W hv0 hn0 hat0 hv1 hn1 w2).mono fun e W' ⟨he, bel⟩ => ?_
  subst he
  exact ⟨_, rfl, _, _, _, [], _, [], hW', trodAll_mk1 (shut_bool Try.underlying4 _), (trodAll_cons_mk (Below.trod laidOut (by kernel_rfl) (of_decide_eq_true (by kernel_rfl)) k0 bel lt0) (trodAll_cons_mk (Below.trod laidOut (by kernel_rfl) (of_decide_eq_true (by kernel_rfl)) k1 bel lt1) (trodAll_cons_mk (shut_int Try.underlying2 w2) trodAll_mk0))), rfl, bel.frame _, fun h => by cases h⟩

theorem over : Rows.fnExactRadiusRow.holds Try.pinned (OpenSpec.ofChange Rows.fnExactRadiusSpec) :=
  OpenClaim.holds_of_wide 5 Try.f5 rfl rfl rfl rfl rfl rfl rfl ⟨rfl, rfl, rfl, rfl, rfl⟩ rfl rfl rfl rfl rfl (by kernel_rfl) Try.func5 (by kernel_rfl)
    (of_decide_eq_true (by kernel_rfl)) (by unfold Func.isWrapper; first | (rw [if_pos (by decide +kernel)]; kernel_rfl) | (rw [if_neg (by decide +kernel)]; exact ⟨rfl, rfl⟩))
    (fun os started H enc _ => lifted os started H enc)

end Go.Proofs.Ytpcclaehcmnngaa.fnExactRadius
namespace Go.Proofs.Ytpcclaehcmnngaa

theorem FnExactRadius_holds : Rows.FnExactRadiusSaid := fnExactRadius.over

end Go.Proofs.Ytpcclaehcmnngaa
