/-
  FnExactCoded is true at every argument: the program's Coded answers as its model, writes into no argument, and its answer owns its memory. No condition.
-/
import Derived.Test.YthkaiienfkihmaaLvImp3
import Derived.Test.YthkaiienfkihmaaLvWlk2
import Derived.Test.YthkaiienfkihmaaMArgs
namespace Go.Proofs.Ythkaiienfkihmaa.fnExactCoded
open Go.ChangeShapes Go.WideShapes Go.ChangeAt Go.RowKit
set_option linter.unusedVariables false

theorem own : ownKnob Try.prog.godebug = none := by kernel_rfl
theorem laidOut : laidOutB Try.prog = true := by kernel_rfl

set_option maxRecDepth 100000 in
set_option maxHeartbeats 4000000 in
theorem walk (ao0 : Option Addr) (cap0 : Nat) (xs0 : List Int) (ao1 : Option Addr) (cap1 : Nat) (ls1 : List (List Int)) (w : World) (hv0 : View w ao0 xs0) (hn0 : xs0.length ≤ maxLen) (hv1 : CView w ao1 ls1) (hn1 : ls1.length ≤ maxLen) (hat1 : ∀ i, (cn ls1 i).length ≤ maxLen) :
    Calls Try.prog 5 #[.slice ao0 xs0.length cap0, .slice ao1 ls1.length cap1] w fun e w' => e = .returned (.bool true) ∧ Below w.heap.size w w' := by
  exact walkCoded iCoded13 ao0 cap0 xs0 ao1 cap1 ls1 w hv0 hn0 hv1 hn1 hat1

set_option maxRecDepth 100000 in
theorem lifted (os : Os) (started : os.Started) (H : Type) (enc : TypeId × Value → H) :
    ReturnsInHanded {} Try.checked os 5 .any (Rows.fnExactCodedSpec.pre6 enc Try.prog Try.f5 Rows.fnExactCodedRow.domain false) (Rows.fnExactCodedSpec.post enc Try.prog Try.f5 false true false false) := by
  refine returnsInHanded_of_change (C := Try.checked) own started (by kernel_rfl) Try.func5
    (ChangeSpec.witness6 (enc := enc) (C := Try.checked) false ⟨#[], #[.slice none 0 0, .slice none 0 0], []⟩ 8 (by kernel_rfl) (by kernel_rfl) (by kernel_rfl) (by kernel_rfl)) ?_
  intro W base args ds gs before hval0 hW hcnd _
  have hval : ∀ (j : Nat) t v, Try.f5.params[j]? = some t → args[j]? = some v → Value.okWide Try.prog W .any base t v := hval0
  have hW' := hW
  obtain ⟨p, q, hA0, hV, rfl, hfz, hnd⟩ := hW
  have hA : DataW.TrodAll enc Try.prog W 0 (fun _ => true) true Try.f5.params.toList args.toList ds p := hA0
  rw [Try.params5] at hA hval
  obtain ⟨v0, vs0, d0, ds0, p0, q0, hargs, rfl, rfl, h0, r0⟩ := trodAll_cons hA
  obtain ⟨v1, vs1, d1, ds1, p1, q1, rfl, rfl, rfl, h1, r1⟩ := trodAll_cons r0
  obtain ⟨rfl, rfl, rfl⟩ := trodAll_nil r1
  obtain rfl : args = #[v0, v1] := by cases args; simp_all
  obtain ⟨rfl, rfl⟩ := trodVars_none hV
  obtain ⟨a0, len0, cap0, rfl⟩ := okWide_slice Try.underlying24 (hval 0 24 v0 rfl rfl)
  have k0 := h0
  have lt0 : ∀ x ∈ p0, x.block < W.heap.size := by obtain ⟨m, hm⟩ := k0; exact DataW.trod_lt m _ _ _ hm
  obtain ⟨xs0, rfl, hv0, hn0⟩ := (by obtain ⟨fuel, hf⟩ := h0; exact row_view1 hf : ∃ xs : List Int, len0 = xs.length ∧ View W a0 xs ∧ xs.length ≤ maxLen)
  obtain ⟨a1, len1, cap1, rfl⟩ := okWide_slice Try.underlying25 (hval 1 25 v1 rfl rfl)
  have k1 := h1
  have lt1 : ∀ x ∈ p1, x.block < W.heap.size := by obtain ⟨m, hm⟩ := k1; exact DataW.trod_lt m _ _ _ hm
  obtain ⟨ls1, rfl, hv1, hn1, hat1⟩ := (by obtain ⟨fuel, hf⟩ := h1; exact rows_view hf : ∃ ls : List (List Int), len1 = ls.length ∧ CView W a1 ls ∧ ls.length ≤ maxLen ∧ ∀ i, (cn ls i).length ≤ maxLen)
  clear hA0 hval0
  refine (walk a0 cap0 xs0 a1 cap1 ls1 W hv0 hn0 hv1 hn1 hat1).mono fun e W' ⟨he, bel⟩ => ?_
  subst he
  exact ⟨_, rfl, _, _, _, [], _, [], hW', trodAll_mk1 (shut_bool Try.underlying4 _), (trodAll_cons_mk (Below.trod laidOut (by kernel_rfl) (of_decide_eq_true (by kernel_rfl)) k0 bel lt0) (trodAll_cons_mk (Below.trod laidOut (by kernel_rfl) (of_decide_eq_true (by kernel_rfl)) k1 bel lt1) trodAll_mk0)), rfl, bel.frame _, fun h => by cases h⟩

theorem over : Rows.fnExactCodedRow.holds Try.pinned (OpenSpec.ofChange Rows.fnExactCodedSpec) :=
  OpenClaim.holds_of_wide 5 Try.f5 rfl rfl rfl rfl rfl rfl rfl ⟨rfl, rfl, rfl, rfl, rfl⟩ rfl rfl rfl rfl rfl (by kernel_rfl) Try.func5 (by kernel_rfl)
    (of_decide_eq_true (by kernel_rfl)) (by unfold Func.isWrapper; first | (rw [if_pos (by decide +kernel)]; kernel_rfl) | (rw [if_neg (by decide +kernel)]; exact ⟨rfl, rfl⟩))
    (fun os started H enc _ => lifted os started H enc)

end Go.Proofs.Ythkaiienfkihmaa.fnExactCoded
namespace Go.Proofs.Ythkaiienfkihmaa

theorem FnExactCoded_holds : Rows.FnExactCodedSaid := fnExactCoded.over

end Go.Proofs.Ythkaiienfkihmaa
