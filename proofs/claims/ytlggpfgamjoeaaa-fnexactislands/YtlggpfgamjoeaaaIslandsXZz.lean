/-
  The program's Islands answers as its model does, at every argument, and writes into none.
-/
import Derived.Test.YtlggpfgamjoeaaaFgAZz
import Derived.Test.YtlggpfgamjoeaaaJRwZz
namespace Go.Proofs.Ytlggpfgamjoeaaa.fnExactIslands
open Go.ChangeShapes Go.WideShapes Go.ChangeAt Go.RowKit
set_option linter.unusedVariables false

theorem own : ownKnob Try.prog.godebug = none := by kernel_rfl
theorem laidOut : laidOutB Try.prog = true := by kernel_rfl

set_option maxRecDepth 100000 in
set_option maxHeartbeats 4000000 in
theorem walk (am0 al0 : Option Addr) (cm0 cl0 : Nat) (ms0 : List Mk) (ls0 : List (List Int)) (w : World) (hm0 : MView w am0 ms0) (hl0 : CView w al0 ls0) (nm0 : ms0.length ≤ maxLen) (tm0 : ∀ i, (mat ms0 i).length ≤ maxLen) (nl0 : ls0.length ≤ maxLen) (tl0 : ∀ i, (cn ls0 i).length ≤ maxLen) :
    Calls Try.prog 8 #[.agg #[.slice am0 ms0.length cm0, .slice al0 ls0.length cl0]] w fun e w' => e = .returned (.bool true) ∧ Below w.heap.size w w' := by
  exact walkIslands iIslands14 am0 al0 cm0 cl0 ms0 ls0 w hm0 hl0 nm0 tm0 nl0 tl0

set_option maxRecDepth 100000 in
theorem lifted (os : Os) (started : os.Started) (H : Type) (enc : TypeId × Value → H) :
    ReturnsInHanded {} Try.checked os 8 .any (Rows.fnExactIslandsSpec.pre6 enc Try.prog Try.f8 Rows.fnExactIslandsRow.domain false) (Rows.fnExactIslandsSpec.post enc Try.prog Try.f8 false true false false) := by
  refine returnsInHanded_of_change (C := Try.checked) own started (by kernel_rfl) Try.func8
    (ChangeSpec.witness6 (enc := enc) (C := Try.checked) false ⟨#[], #[.agg #[.slice none 0 0, .slice none 0 0]], []⟩ 8 (by kernel_rfl) (by kernel_rfl) (by kernel_rfl) (by kernel_rfl)) ?_
  intro W base args ds gs before hval0 hW hcnd _
  have hval : ∀ (j : Nat) t v, Try.f8.params[j]? = some t → args[j]? = some v → Value.okWide Try.prog W .any base t v := hval0
  have hW' := hW
  obtain ⟨p, q, hA0, hV, rfl, hfz, hnd⟩ := hW
  have hA : DataW.TrodAll enc Try.prog W 0 (fun _ => true) true Try.f8.params.toList args.toList ds p := hA0
  rw [Try.params8] at hA hval
  obtain ⟨v0, vs0, d0, ds0, p0, q0, hargs, rfl, rfl, h0, r0⟩ := trodAll_cons hA
  obtain ⟨rfl, rfl, rfl⟩ := trodAll_nil r0
  obtain rfl : args = #[v0] := by cases args; simp_all
  obtain ⟨rfl, rfl⟩ := trodVars_none hV
  obtain ⟨cs0, rfl, sz0⟩ := okWide_web (hval 0 50 v0 rfl rfl)
  have k0 := h0
  have lt0 : ∀ x ∈ p0, x.block < W.heap.size := by obtain ⟨m, hm⟩ := k0; exact DataW.trod_lt m _ _ _ hm
  obtain ⟨ms0, ls0, am0, cm0, al0, cl0, rfl, hm0, hl0, nm0, tm0, nl0, tl0⟩ := (by obtain ⟨fuel, hf⟩ := h0; exact web_view sz0 hf : ∃ (ms : List Mk) (ls : List (List Int)) (a1 : Option Addr) (c1 : Nat) (a2 : Option Addr) (c2 : Nat), cs0 = #[.slice a1 ms.length c1, .slice a2 ls.length c2] ∧ MView W a1 ms ∧ CView W a2 ls ∧ ms.length ≤ maxLen ∧ (∀ i, (mat ms i).length ≤ maxLen) ∧ ls.length ≤ maxLen ∧ ∀ i, (cn ls i).length ≤ maxLen)
  clear hA0 hval0
  refine (walk am0 al0 cm0 cl0 ms0 ls0 W hm0 hl0 nm0 tm0 nl0 tl0).mono fun e W' ⟨he, bel⟩ => ?_
  subst he
  exact ⟨_, rfl, _, _, _, [], _, [], hW', trodAll_mk1 (shut_bool Try.underlying4 _), (trodAll_cons_mk (Below.trod laidOut (by kernel_rfl) (of_decide_eq_true (by kernel_rfl)) k0 bel lt0) trodAll_mk0), rfl, bel.frame _, fun h => by cases h⟩

theorem over : Rows.fnExactIslandsRow.holds Try.pinned (OpenSpec.ofChange Rows.fnExactIslandsSpec) :=
  OpenClaim.holds_of_wide 8 Try.f8 rfl rfl rfl rfl rfl rfl rfl ⟨rfl, rfl, rfl, rfl, rfl⟩ rfl rfl rfl rfl rfl (by kernel_rfl) Try.func8 (by kernel_rfl)
    (of_decide_eq_true (by kernel_rfl)) (by unfold Func.isWrapper; first | (rw [if_pos (by decide +kernel)]; kernel_rfl) | (rw [if_neg (by decide +kernel)]; exact ⟨rfl, rfl⟩))
    (fun os started H enc _ => lifted os started H enc)

end Go.Proofs.Ytlggpfgamjoeaaa.fnExactIslands
namespace Go.Proofs.Ytlggpfgamjoeaaa

theorem FnExactIslands_holds : Rows.FnExactIslandsSaid := fnExactIslands.over

end Go.Proofs.Ytlggpfgamjoeaaa
