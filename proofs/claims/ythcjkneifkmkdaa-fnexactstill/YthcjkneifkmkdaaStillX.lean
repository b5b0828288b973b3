/-
  FnExactStill holds: at every list of marks and every list of centers the program answers Still as the given one and leaves its arguments alone; no condition.
-/
import Derived.Test.YthcjkneifkmkdaaJSize
import Derived.Test.YthcjkneifkmkdaaJSpS
import Derived.Test.YthcjkneifkmkdaaJSft
namespace Go.Proofs.Ythcjkneifkmkdaa.fnExactStill
open Go.ChangeShapes Go.WideShapes Go.ChangeAt Go.RowKit
set_option linter.unusedVariables false

theorem own : ownKnob Try.prog.godebug = none := by kernel_rfl
theorem laidOut : laidOutB Try.prog = true := by kernel_rfl

set_option maxRecDepth 100000 in
set_option maxHeartbeats 4000000 in
theorem walk (ao0 : Option Addr) (cap0 : Nat) (ms0 : List Mk) (ao1 : Option Addr) (cap1 : Nat) (ls1 : List (List Int)) (w : World) (hv0 : MView w ao0 ms0) (hn0 : ms0.length ≤ maxLen) (hat0 : ∀ i, (mat ms0 i).length ≤ maxLen) (hv1 : CView w ao1 ls1) (hn1 : ls1.length ≤ maxLen) (hat1 : ∀ i, (cn ls1 i).length ≤ maxLen) :
    Calls Try.prog 7 #[.slice ao0 ms0.length cap0, .slice ao1 ls1.length cap1] w fun e w' => e = .returned (.bool true) ∧ Below w.heap.size w w' := by
  go_enter Try.func7, Try.ntmps7
  go_wp2_with fail
  refine (szMS2 ao0 cap0 ms0 _ hv0 hn0 hat0).mono ?_
  rintro e w1 ⟨r, rfl, hr1, hr, L1⟩
  by_cases hneg : r < 0
  · go_wp2_with fail
    go_ret
    exact ⟨rfl, L1⟩
  have hsm : MSmall ms0 := by rcases hr with h | h; exact absurd h hneg; exact h
  clear hr
  go_wp2_with fail
  refine (szCS ao1 cap1 ls1 r _ (hv1.next L1) (by omega) hr1 hn1 hat1).mono ?_
  rintro e w2 ⟨r2, rfl, hr2, hw2⟩
  subst w2
  by_cases hneg2 : r2 < 0
  · go_wp2_with fail
    go_ret
    exact ⟨rfl, L1⟩
  have hcm : CSmall ls1 := by rcases hr2 with h | h; exact absurd h hneg2; exact h
  clear hr2
  have HV0 := hidP hv0
  have HV1 := hidP hv1
  clear hv0 hv1
  go_wp2_with fail
  refine (toMS ao0 cap0 ms0 _ (HV0.out.next L1) hsm).mono ?_
  rintro e w3 ⟨b3, rfl, p3, hb3, M3⟩
  have L3 := chain L1 M3
  go_wp2_with fail
  refine (toCS ao1 cap1 ls1 _ (HV1.out.next L3) hcm).mono ?_
  rintro e w4 ⟨b4, rfl, p4, hb4, M4⟩
  have L4 := chain L3 M4
  have HC := hidP (sStill (some ⟨b3, 0, none⟩) (some ⟨b4, 0, none⟩) ms0.length ls1.length ms0 ls1 w4 (p3.view.next M4) p4.view hsm hcm)
  obtain ⟨R, hR⟩ : ∃ R, stillB ms0 ls1 = R := ⟨_, rfl⟩
  rw [hR] at HC
  have HR := hidP hR
  clear hR p3 p4 M3 M4 hb3 hb4
  go_wp2_with fail
  refine HC.out.mono ?_
  rintro e w5 ⟨rfl, M5⟩
  have L5 : Below w.heap.size w w5 := chain L4 M5
  clear M5
  clear HC
  go_wp2_with fail
  refine (toMS ao0 cap0 ms0 _ (HV0.out.next L5) hsm).mono ?_
  rintro e w6 ⟨b6, rfl, p6, hb6, M6⟩
  have L6 := chain L5 M6
  go_wp2_with fail
  refine (toCS ao1 cap1 ls1 _ (HV1.out.next L6) hcm).mono ?_
  rintro e w7 ⟨b7, rfl, p7, hb7, M7⟩
  have L7 := chain L6 M7
  have HC := hidP (iStill (some ⟨b6, 0, none⟩) (some ⟨b7, 0, none⟩) ms0.length ls1.length ms0 ls1 w7 (p6.view.next M7) p7.view hsm hcm)
  rw [HR.out] at HC
  have v6 := p6.view.next M7
  have v7 := p7.view
  clear p6 p7 M6 M7 hb6 hb7
  go_wp2_with fail
  refine HC.out.mono ?_
  rintro e w8 ⟨rfl, M8⟩
  have L8 := chain L7 M8
  have v6' := v6.next M8
  have v7' := v7.next M8
  have ht : ((R : Bool) != R) = false := by simp
  clear HC M8 v6 v7
  go_wp2_with fail
  refine (toMS ao0 cap0 ms0 _ (HV0.out.next L8) hsm).mono ?_
  rintro e w9 ⟨b9, rfl, p9, hb9, M9⟩
  have L9 := chain L8 M9
  have u6 := v6'.next M9
  have u7 := v7'.next M9
  clear v6' v7' M9 hb9
  go_wp2_with fail
  refine (eqMS _ _ _ _ ms0 ms0 _ u6 p9.view hsm).mono ?_
  rintro e wa ⟨rfl, Ma⟩
  have La := chain L9 Ma
  have t7 := u7.next Ma
  have ht2 : decide (ms0 = ms0) = true := by simp
  clear u6 u7 p9 Ma
  go_wp2_with fail
  refine (toCS ao1 cap1 ls1 _ (HV1.out.next La) hcm).mono ?_
  rintro e wb ⟨bb, rfl, pb, hbb, Mb⟩
  have Lb := chain La Mb
  have s7 := t7.next Mb
  clear t7 Mb hbb
  go_wp2_with fail
  refine (eqCS _ _ _ _ ls1 _ s7 pb.view hcm).mono ?_
  rintro e wc ⟨rfl, nc, rfl⟩
  go_wp2_with fail
  go_ret
  exact ⟨rfl, below_drewN Lb nc⟩

set_option maxRecDepth 100000 in
theorem lifted (os : Os) (started : os.Started) (H : Type) (enc : TypeId × Value → H) :
    ReturnsInHanded {} Try.checked os 7 .any (Rows.fnExactStillSpec.pre6 enc Try.prog Try.f7 Rows.fnExactStillRow.domain false) (Rows.fnExactStillSpec.post enc Try.prog Try.f7 false true false false) := by
  refine returnsInHanded_of_change (C := Try.checked) own started (by kernel_rfl) Try.func7
    (ChangeSpec.witness6 (enc := enc) (C := Try.checked) false ⟨#[], #[.slice none 0 0, .slice none 0 0], []⟩ 8 (by kernel_rfl) (by kernel_rfl) (by kernel_rfl) (by kernel_rfl)) ?_
  intro W base args ds gs before hval0 hW hcnd _
  have hval : ∀ (j : Nat) t v, Try.f7.params[j]? = some t → args[j]? = some v → Value.okWide Try.prog W .any base t v := hval0
  have hW' := hW
  obtain ⟨p, q, hA0, hV, rfl, hfz, hnd⟩ := hW
  have hA : DataW.TrodAll enc Try.prog W 0 (fun _ => true) true Try.f7.params.toList args.toList ds p := hA0
  rw [Try.params7] at hA hval
  obtain ⟨v0, vs0, d0, ds0, p0, q0, hargs, rfl, rfl, h0, r0⟩ := trodAll_cons hA
  obtain ⟨v1, vs1, d1, ds1, p1, q1, rfl, rfl, rfl, h1, r1⟩ := trodAll_cons r0
  obtain ⟨rfl, rfl, rfl⟩ := trodAll_nil r1
  obtain rfl : args = #[v0, v1] := by cases args; simp_all
  obtain ⟨rfl, rfl⟩ := trodVars_none hV
  obtain ⟨a0, len0, cap0, rfl⟩ := okWide_slice Try.underlying38 (hval 0 38 v0 rfl rfl)
  have k0 := h0
  have lt0 : ∀ x ∈ p0, x.block < W.heap.size := by obtain ⟨m, hm⟩ := k0; exact DataW.trod_lt m _ _ _ hm
  obtain ⟨ms0, rfl, hv0, hn0, hat0⟩ := (by obtain ⟨fuel, hf⟩ := h0; exact marks_view hf : ∃ ms : List Mk, len0 = ms.length ∧ MView W a0 ms ∧ ms.length ≤ maxLen ∧ ∀ i, (mat ms i).length ≤ maxLen)
  obtain ⟨a1, len1, cap1, rfl⟩ := okWide_slice Try.underlying25 (hval 1 25 v1 rfl rfl)
  have k1 := h1
  have lt1 : ∀ x ∈ p1, x.block < W.heap.size := by obtain ⟨m, hm⟩ := k1; exact DataW.trod_lt m _ _ _ hm
  obtain ⟨ls1, rfl, hv1, hn1, hat1⟩ := (by obtain ⟨fuel, hf⟩ := h1; exact rows_view hf : ∃ ls : List (List Int), len1 = ls.length ∧ CView W a1 ls ∧ ls.length ≤ maxLen ∧ ∀ i, (cn ls i).length ≤ maxLen)
  clear hA0 hval0
  refine (walk a0 cap0 ms0 a1 cap1 ls1 W hv0 hn0 hat0 hv1 hn1 hat1).mono fun e W' ⟨he, bel⟩ => ?_
  subst he
  exact ⟨_, rfl, _, _, _, [], _, [], hW', trodAll_mk1 (shut_bool Try.underlying4 _), (trodAll_cons_mk (Below.trod laidOut (by kernel_rfl) (of_decide_eq_true (by kernel_rfl)) k0 bel lt0) (trodAll_cons_mk (Below.trod laidOut (by kernel_rfl) (of_decide_eq_true (by kernel_rfl)) k1 bel lt1) trodAll_mk0)), rfl, bel.frame _, fun h => by cases h⟩

theorem over : Rows.fnExactStillRow.holds Try.pinned (OpenSpec.ofChange Rows.fnExactStillSpec) :=
  OpenClaim.holds_of_wide 7 Try.f7 rfl rfl rfl rfl rfl rfl rfl ⟨rfl, rfl, rfl, rfl, rfl⟩ rfl rfl rfl rfl rfl (by kernel_rfl) Try.func7 (by kernel_rfl)
    (of_decide_eq_true (by kernel_rfl)) (by unfold Func.isWrapper; first | (rw [if_pos (by decide +kernel)]; kernel_rfl) | (rw [if_neg (by decide +kernel)]; exact ⟨rfl, rfl⟩))
    (fun os started H enc _ => lifted os started H enc)

end Go.Proofs.Ythcjkneifkmkdaa.fnExactStill
namespace Go.Proofs.Ythcjkneifkmkdaa

theorem FnExactStill_holds : Rows.FnExactStillSaid := fnExactStill.over

end Go.Proofs.Ythcjkneifkmkdaa
