/-
  FnExactSpared holds: for every slice of balls and every slice of numbers the program's Spared answers as the given one and leaves its arguments alone; no condition.
-/
import Derived.Test.YthddhblmnfjciaaVLeadZz
import Derived.Test.YthddhblmnfjciaaVCopyZz
import Derived.Test.YthddhblmnfjciaaMArgsZz
namespace Go.Proofs.Ythddhblmnfjciaa.fnExactSpared
open Go.ChangeShapes Go.WideShapes Go.ChangeAt Go.RowKit
set_option linter.unusedVariables false

theorem own : ownKnob Try.prog.godebug = none := by kernel_rfl
theorem laidOut : laidOutB Try.prog = true := by kernel_rfl

set_option maxRecDepth 100000 in
set_option maxHeartbeats 4000000 in
theorem walk (ao0 : Option Addr) (cap0 : Nat) (ks0 : List Kn) (ao1 : Option Addr) (cap1 : Nat) (xs1 : List Int) (w : World) (hv0 : KView w ao0 ks0) (hn0 : ks0.length ≤ maxLen) (hat0 : ∀ i, (knth ks0 i).1.2.length ≤ maxLen) (hv1 : View w ao1 xs1) (hn1 : xs1.length ≤ maxLen) :
    Calls Try.prog 8 #[.slice ao0 ks0.length cap0, .slice ao1 xs1.length cap1] w fun e w' => e = .returned (.bool true) ∧ Below w.heap.size w w' := by
  by_cases hq : xs1.length ≤ 1048576
  case neg =>
    have hq2 : (xs1.length : Int) > 1048576 := by omega
    go_enter Try.func8, Try.ntmps8
    go_wp2_with fail
    go_ret
    exact ⟨rfl, Below.refl _ _⟩
  case pos =>
    have hq2 : ¬ ((xs1.length : Int) > 1048576) := by omega
    go_enter Try.func8, Try.ntmps8
    go_wp2_with fail
    refine (szVS ao0 cap0 ks0 _ hv0 hn0 hat0).mono ?_
    rintro e w1 ⟨r, rfl, hr, L1⟩
    by_cases hneg : r < 0
    · go_wp2_with fail
      go_ret
      exact ⟨rfl, L1⟩
    · have hsm : KSmall ks0 := by rcases hr with h | h; exact absurd h hneg; exact h
      clear hr
      go_wp2_with fail
      refine (toVS ao0 cap0 ks0 _ (hv0.next L1) hsm).mono ?_
      rintro e w2 ⟨b2, rfl, p2, hb2, L2⟩
      replace L2 := chain L1 L2
      clear L1
      go_wp2_with fail
      refine (toS ao1 cap1 xs1 _ (hv1.next L2) hq).mono ?_
      rintro e w3 ⟨b3, rfl, p3, hb3, L3⟩
      replace p2 := p2.below L3
      replace L3 := chain L2 L3
      clear L2
      have HC := hidP (sSpared (some ⟨b2, 0, none⟩) (some ⟨b3, 0, none⟩) ks0.length xs1.length ks0 xs1 w3 p2.view hsm p3.view hq)
      go_wp2_with fail
      refine HC.out.mono ?_
      rintro e w4 ⟨rfl, L4⟩
      replace L4 := chain L3 L4
      clear L3 p2 p3 HC
      go_wp2_with fail
      refine (toVS ao0 cap0 ks0 _ (hv0.next L4) hsm).mono ?_
      rintro e w5 ⟨bx, rfl, px, hbx, L5⟩
      replace L5 := chain L4 L5
      clear L4
      go_wp2_with fail
      refine (toS ao1 cap1 xs1 _ (hv1.next L5) hq).mono ?_
      rintro e w6 ⟨bz, rfl, pz, hbz, L6⟩
      replace px := px.below L6
      replace L6 := chain L5 L6
      clear L5
      have HC := hidP (iSpared (some ⟨bx, 0, none⟩) (some ⟨bz, 0, none⟩) ks0.length xs1.length ks0 xs1 w6 px.view hsm pz.view hq)
      go_wp2_with fail
      refine HC.out.mono ?_
      rintro e w7 ⟨rfl, L7⟩
      replace px := px.below L7
      have pv := View.next pz.view L7
      replace L7 := chain L6 L7
      clear L6 HC pz
      have hbb : (sparedV ks0 xs1 != sparedV ks0 xs1) = false := by simp
      generalize sparedV ks0 xs1 = vv at *
      go_wp2_with fail
      refine (toVS ao0 cap0 ks0 _ (hv0.next L7) hsm).mono ?_
      rintro e w8 ⟨b8, rfl, p8, hb8, L8⟩
      replace px := px.below L8
      replace pv := pv.next L8
      replace L8 := chain L7 L8
      clear L7
      go_wp2_with fail
      refine (eqVS _ _ _ _ ks0 _ px.view p8.view hsm).mono ?_
      rintro e w9 ⟨rfl, L9⟩
      replace pv := pv.next L9
      replace L9 := chain L8 L9
      clear L8 px p8
      go_wp2_with fail
      refine (toS ao1 cap1 xs1 _ (hv1.next L9) hq).mono ?_
      rintro e wa ⟨ba, rfl, pa, hba, La⟩
      replace pv := pv.next La
      replace La := chain L9 La
      clear L9
      have HE := hidP (eqS (some ⟨bz, 0, none⟩) (some ⟨ba, 0, none⟩) xs1.length xs1.length xs1 xs1 wa pv pa.view hq)
      have hself : decide (xs1 = xs1) = true := by simp
      rw [hself] at HE
      clear pv pa
      go_wp2_with fail
      refine HE.out.mono ?_
      rintro e wb ⟨rfl, nb, rfl⟩
      go_wp2_with fail
      go_ret
      exact ⟨rfl, below_drewN La nb⟩

set_option maxRecDepth 100000 in
theorem lifted (os : Os) (started : os.Started) (H : Type) (enc : TypeId × Value → H) :
    ReturnsInHanded {} Try.checked os 8 .any (Rows.fnExactSparedSpec.pre6 enc Try.prog Try.f8 Rows.fnExactSparedRow.domain false) (Rows.fnExactSparedSpec.post enc Try.prog Try.f8 false true false false) := by
  refine returnsInHanded_of_change (C := Try.checked) own started (by kernel_rfl) Try.func8
    (ChangeSpec.witness6 (enc := enc) (C := Try.checked) false ⟨#[], #[.slice none 0 0, .slice none 0 0], []⟩ 8 (by kernel_rfl) (by kernel_rfl) (by kernel_rfl) (by kernel_rfl)) ?_
  intro W base args ds gs before hval0 hW hcnd _
  have hval : ∀ (j : Nat) t v, Try.f8.params[j]? = some t → args[j]? = some v → Value.okWide Try.prog W .any base t v := hval0
  have hW' := hW
  obtain ⟨p, q, hA0, hV, rfl, hfz, hnd⟩ := hW
  have hA : DataW.TrodAll enc Try.prog W 0 (fun _ => true) true Try.f8.params.toList args.toList ds p := hA0
  rw [Try.params8] at hA hval
  obtain ⟨v0, vs0, d0, ds0, p0, q0, hargs, rfl, rfl, h0, r0⟩ := trodAll_cons hA
  obtain ⟨v1, vs1, d1, ds1, p1, q1, rfl, rfl, rfl, h1, r1⟩ := trodAll_cons r0
  obtain ⟨rfl, rfl, rfl⟩ := trodAll_nil r1
  obtain rfl : args = #[v0, v1] := by cases args; simp_all
  obtain ⟨rfl, rfl⟩ := trodVars_none hV
  obtain ⟨a0, len0, cap0, rfl⟩ := okWide_slice Try.underlying41 (hval 0 41 v0 rfl rfl)
  have k0 := h0
  have lt0 : ∀ x ∈ p0, x.block < W.heap.size := by obtain ⟨m, hm⟩ := k0; exact DataW.trod_lt m _ _ _ hm
  obtain ⟨ks0, rfl, hv0, hn0, hat0⟩ := (by obtain ⟨fuel, hf⟩ := h0; exact balls_view hf : ∃ ks : List Kn, len0 = ks.length ∧ KView W a0 ks ∧ ks.length ≤ maxLen ∧ ∀ i, (knth ks i).1.2.length ≤ maxLen)
  obtain ⟨a1, len1, cap1, rfl⟩ := okWide_slice Try.underlying46 (hval 1 46 v1 rfl rfl)
  have k1 := h1
  have lt1 : ∀ x ∈ p1, x.block < W.heap.size := by obtain ⟨m, hm⟩ := k1; exact DataW.trod_lt m _ _ _ hm
  obtain ⟨xs1, rfl, hv1, hn1⟩ := (by obtain ⟨fuel, hf⟩ := h1; exact row_view1 hf : ∃ xs : List Int, len1 = xs.length ∧ View W a1 xs ∧ xs.length ≤ maxLen)
  clear hA0 hval0
  refine (walk a0 cap0 ks0 a1 cap1 xs1 W hv0 hn0 hat0 hv1 hn1).mono fun e W' ⟨he, bel⟩ => ?_
  subst he
  exact ⟨_, rfl, _, _, _, [], _, [], hW', trodAll_mk1 (shut_bool Try.underlying4 _), (trodAll_cons_mk (Below.trod laidOut (by kernel_rfl) (of_decide_eq_true (by kernel_rfl)) k0 bel lt0) (trodAll_cons_mk (Below.trod laidOut (by kernel_rfl) (of_decide_eq_true (by kernel_rfl)) k1 bel lt1) trodAll_mk0)), rfl, bel.frame _, fun h => by cases h⟩

theorem over : Rows.fnExactSparedRow.holds Try.pinned (OpenSpec.ofChange Rows.fnExactSparedSpec) :=
  OpenClaim.holds_of_wide 8 Try.f8 rfl rfl rfl rfl rfl rfl rfl ⟨rfl, rfl, rfl, rfl, rfl⟩ rfl rfl rfl rfl rfl (by kernel_rfl) Try.func8 (by kernel_rfl)
    (of_decide_eq_true (by kernel_rfl)) (by unfold Func.isWrapper; first | (rw [if_pos (by decide +kernel)]; kernel_rfl) | (rw [if_neg (by decide +kernel)]; exact ⟨rfl, rfl⟩))
    (fun os started H enc _ => lifted os started H enc)

end Go.Proofs.Ythddhblmnfjciaa.fnExactSpared
namespace Go.Proofs.Ythddhblmnfjciaa

theorem FnExactSpared_holds : Rows.FnExactSparedSaid := fnExactSpared.over

end Go.Proofs.Ythddhblmnfjciaa
