/-
  The program's Beam answers as its model does, at every argument; it writes into none, and its answer owns its memory.
-/
import Derived.Test.YtlggpfgamjoeaaaFgAZz
import Derived.Test.YtlggpfgamjoeaaaJRwZz
namespace Go.Proofs.Ytlggpfgamjoeaaa.fnExactBeam
open Go.ChangeShapes Go.WideShapes Go.ChangeAt Go.RowKit
set_option linter.unusedVariables false

theorem own : ownKnob Try.prog.godebug = none := by kernel_rfl
theorem laidOut : laidOutB Try.prog = true := by kernel_rfl

set_option maxRecDepth 100000 in
set_option maxHeartbeats 4000000 in
theorem walk (am0 al0 : Option Addr) (cm0 cl0 : Nat) (ms0 : List Mk) (ls0 : List (List Int)) (x1 : Int) (ao2 : Option Addr) (cap2 : Nat) (xs2 : List Int) (x3 : Int) (w : World) (hm0 : MView w am0 ms0) (hl0 : CView w al0 ls0) (nm0 : ms0.length ≤ maxLen) (tm0 : ∀ i, (mat ms0 i).length ≤ maxLen) (nl0 : ls0.length ≤ maxLen) (tl0 : ∀ i, (cn ls0 i).length ≤ maxLen) (hx1 : (Lit.int .i64 x1).wf = true) (hv2 : View w ao2 xs2) (hn2 : xs2.length ≤ maxLen) (hx3 : (Lit.int .i64 x3).wf = true) :
    Calls Try.prog 7 #[.agg #[.slice am0 ms0.length cm0, .slice al0 ls0.length cl0], .int .i64 x1, .slice ao2 xs2.length cap2, .int .i64 x3] w fun e w' => e = .returned (.bool true) ∧ Below w.heap.size w w' := by
  exact walkBeam iBeam14 am0 al0 ao2 cm0 cl0 cap2 ms0 ls0 xs2 x1 x3 w hm0 hl0 hv2 nm0 tm0 nl0 tl0 hn2

set_option maxRecDepth 100000 in
theorem lifted (os : Os) (started : os.Started) (H : Type) (enc : TypeId × Value → H) :
    ReturnsInHanded {} Try.checked os 7 .any (Rows.fnExactBeamSpec.pre6 enc Try.prog Try.f7 Rows.fnExactBeamRow.domain false) (Rows.fnExactBeamSpec.post enc Try.prog Try.f7 false true false false) := by
  refine returnsInHanded_of_change (C := Try.checked) own started (by kernel_rfl) Try.func7
    (ChangeSpec.witness6 (enc := enc) (C := Try.checked) false ⟨#[], #[.agg #[.slice none 0 0, .slice none 0 0], .int .i64 0, .slice none 0 0, .int .i64 0], []⟩ 8 (by kernel_rfl) (by kernel_rfl) (by kernel_rfl) (by kernel_rfl)) ?_
  intro W base args ds gs before hval0 hW hcnd _
  have hval : ∀ (j : Nat) t v, Try.f7.params[j]? = some t → args[j]? = some v → Value.okWide Try.prog W .any base t v := hval0
  have hW' := hW
  obtain ⟨p, q, hA0, hV, rfl, hfz, hnd⟩ := hW
  have hA : DataW.TrodAll enc Try.prog W 0 (fun _ => true) true Try.f7.params.toList args.toList ds p := hA0
  rw [Try.params7] at hA hval
  obtain ⟨v0, vs0, d0, ds0, p0, q0, hargs, rfl, rfl, h0, r0⟩ := trodAll_cons hA
  obtain ⟨v1, vs1, d1, ds1, p1, q1, rfl, rfl, rfl, h1, r1⟩ := trodAll_cons r0
  obtain ⟨v2, vs2, d2, ds2, p2, q2, rfl, rfl, rfl, h2, r2⟩ := trodAll_cons r1
  obtain ⟨v3, vs3, d3, ds3, p3, q3, rfl, rfl, rfl, h3, r3⟩ := trodAll_cons r2
  obtain ⟨rfl, rfl, rfl⟩ := trodAll_nil r3
  obtain rfl : args = #[v0, v1, v2, v3] := by cases args; simp_all
  obtain ⟨rfl, rfl⟩ := trodVars_none hV
  obtain ⟨cs0, rfl, sz0⟩ := okWide_web (hval 0 50 v0 rfl rfl)
  have k0 := h0
  have lt0 : ∀ x ∈ p0, x.block < W.heap.size := by obtain ⟨m, hm⟩ := k0; exact DataW.trod_lt m _ _ _ hm
  obtain ⟨ms0, ls0, am0, cm0, al0, cl0, rfl, hm0, hl0, nm0, tm0, nl0, tl0⟩ := (by obtain ⟨fuel, hf⟩ := h0; exact web_view sz0 hf : ∃ (ms : List Mk) (ls : List (List Int)) (a1 : Option Addr) (c1 : Nat) (a2 : Option Addr) (c2 : Nat), cs0 = #[.slice a1 ms.length c1, .slice a2 ls.length c2] ∧ MView W a1 ms ∧ CView W a2 ls ∧ ms.length ≤ maxLen ∧ (∀ i, (mat ms i).length ≤ maxLen) ∧ ls.length ≤ maxLen ∧ ∀ i, (cn ls i).length ≤ maxLen)
  obtain ⟨a1, rfl, rfl, rfl, w1⟩ := open_int Try.underlying2 (hval 1 2 v1 rfl rfl) h1
  obtain ⟨a2, len2, cap2, rfl⟩ := okWide_slice Try.underlying28 (hval 2 28 v2 rfl rfl)
  have k2 := h2
  have lt2 : ∀ x ∈ p2, x.block < W.heap.size := by obtain ⟨m, hm⟩ := k2; exact DataW.trod_lt m _ _ _ hm
  obtain ⟨xs2, rfl, hv2, hn2⟩ := (by obtain ⟨fuel, hf⟩ := h2; exact row_view1 hf : ∃ xs : List Int, len2 = xs.length ∧ View W a2 xs ∧ xs.length ≤ maxLen)
  obtain ⟨a3, rfl, rfl, rfl, w3⟩ := open_int Try.underlying2 (hval 3 2 v3 rfl rfl) h3
  clear hA0 hval0
  refine (walk am0 al0 cm0 cl0 ms0 ls0 a1 a2 cap2 xs2 a3 W hm0 hl0 nm0 tm0 nl0 tl0 w1 hv2 hn2 w3).mono fun e W' ⟨he, bel⟩ => ?_
  subst he
  exact ⟨_, rfl, _, _, _, [], _, [], hW', trodAll_mk1 (shut_bool Try.underlying4 _), (trodAll_cons_mk (Below.trod laidOut (by kernel_rfl) (of_decide_eq_true (by kernel_rfl)) k0 bel lt0) (trodAll_cons_mk (shut_int Try.underlying2 w1) (trodAll_cons_mk (Below.trod laidOut (by kernel_rfl) (of_decide_eq_true (by kernel_rfl)) k2 bel lt2) (trodAll_cons_mk (shut_int Try.underlying2 w3) trodAll_mk0)))), rfl, bel.frame _, fun h => by cases h⟩

theorem over : Rows.fnExactBeamRow.holds Try.pinned (OpenSpec.ofChange Rows.fnExactBeamSpec) :=
  OpenClaim.holds_of_wide 7 Try.f7 rfl rfl rfl rfl rfl rfl rfl ⟨rfl, rfl, rfl, rfl, rfl⟩ rfl rfl rfl rfl rfl (by kernel_rfl) Try.func7 (by kernel_rfl)
    (of_decide_eq_true (by kernel_rfl)) (by unfold Func.isWrapper; first | (rw [if_pos (by decide +kernel)]; kernel_rfl) | (rw [if_neg (by decide +kernel)]; exact ⟨rfl, rfl⟩))
    (fun os started H enc _ => lifted os started H enc)

end Go.Proofs.Ytlggpfgamjoeaaa.fnExactBeam
namespace Go.Proofs.Ytlggpfgamjoeaaa

theorem FnExactBeam_holds : Rows.FnExactBeamSaid := fnExactBeam.over

end Go.Proofs.Ytlggpfgamjoeaaa
