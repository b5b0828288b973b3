/-
  FnExactGone: both Gone hand out the same state and answer at every state and Id, in memory of its own, and the state that came in stays.
-/
import Derived.Test.YtbmljcpeonopmaaFeCwZz
import Derived.Test.YtbmljcpeonopmaaTwArgsZz
namespace Go.Proofs.Ytbmljcpeonopmaa.fnExactGone
open Go.ChangeShapes Go.WideShapes Go.ChangeAt Go.RowKit
set_option linter.unusedVariables false

theorem own : ownKnob Try.prog.godebug = none := by kernel_rfl
theorem laidOut : laidOutB Try.prog = true := by kernel_rfl

set_option maxRecDepth 100000 in
set_option maxHeartbeats 4000000 in
theorem walk (am0 aw0 : Option Addr) (cm0 cw0 : Nat) (wd0 : Int) (ms0 : List Mk) (d0 : Int) (ts0 : List Wb) (nx0 : Int) (x1 : Int) (w : World) (hm0 : MView w am0 ms0) (hw0 : WbView false w aw0 ts0) (hf0 : StFit ms0 ts0) (hx1 : (Lit.int .i64 x1).wf = true) :
    Calls Try.prog 3 #[.agg #[.int .i64 wd0, .slice am0 ms0.length cm0, .int .i64 d0, .slice aw0 ts0.length cw0, .int .i64 nx0], .int .i64 x1] w fun e w' => e = .returned (.bool true) ∧ Below w.heap.size w w' := by
  exact walkGone am0 aw0 cm0 cw0 wd0 ms0 d0 ts0 nx0 x1 w hm0 hw0 hf0

set_option maxRecDepth 100000 in
theorem lifted (os : Os) (started : os.Started) (H : Type) (enc : TypeId × Value → H) :
    ReturnsInHanded {} Try.checked os 3 .any (Rows.fnExactGoneSpec.pre6 enc Try.prog Try.f3 Rows.fnExactGoneRow.domain false) (Rows.fnExactGoneSpec.post enc Try.prog Try.f3 false true false false) := by
  refine returnsInHanded_of_change (C := Try.checked) own started (by kernel_rfl) Try.func3
    (ChangeSpec.witness6 (enc := enc) (C := Try.checked) false ⟨#[], #[.agg #[.int .i64 0, .slice none 0 0, .int .i64 0, .slice none 0 0, .int .i64 0], .int .i64 0], []⟩ 8 (by kernel_rfl) (by kernel_rfl) (by kernel_rfl) (by kernel_rfl)) ?_
  intro W base args ds gs before hval0 hW hcnd _
  have hval : ∀ (j : Nat) t v, Try.f3.params[j]? = some t → args[j]? = some v → Value.okWide Try.prog W .any base t v := hval0
  have hW' := hW
  obtain ⟨p, q, hA0, hV, rfl, hfz, hnd⟩ := hW
  have hA : DataW.TrodAll enc Try.prog W 0 (fun _ => true) true Try.f3.params.toList args.toList ds p := hA0
  rw [Try.params3] at hA hval
  obtain ⟨v0, vs0, d0, ds0, p0, q0, hargs, rfl, rfl, h0, r0⟩ := trodAll_cons hA
  obtain ⟨v1, vs1, d1, ds1, p1, q1, rfl, rfl, rfl, h1, r1⟩ := trodAll_cons r0
  obtain ⟨rfl, rfl, rfl⟩ := trodAll_nil r1
  obtain rfl : args = #[v0, v1] := by cases args; simp_all
  obtain ⟨rfl, rfl⟩ := trodVars_none hV
  obtain ⟨cs0, rfl, sz0⟩ := okWide_state (hval 0 27 v0 rfl rfl)
  have k0 := h0
  have lt0 : ∀ x ∈ p0, x.block < W.heap.size := by obtain ⟨m, hm⟩ := k0; exact DataW.trod_lt m _ _ _ hm
  obtain ⟨wd0, ms0, d0, ts0, nx0, am0, cm0, aw0, cw0, rfl, hm0, hw0, hf0⟩ := (by obtain ⟨fuel, hf⟩ := h0; exact state_view sz0 hf : ∃ (wd : Int) (ms : List Mk) (d : Int) (ts : List Wb) (nx : Int) (am : Option Addr) (cm : Nat) (aw : Option Addr) (cw : Nat), cs0 = #[.int .i64 wd, .slice am ms.length cm, .int .i64 d, .slice aw ts.length cw, .int .i64 nx] ∧ MView W am ms ∧ WbView false W aw ts ∧ StFit ms ts)
  obtain ⟨a1, rfl, rfl, rfl, w1⟩ := open_int Try.underlying2 (hval 1 2 v1 rfl rfl) h1
  clear hA0 hval0
  refine (walk am0 aw0 cm0 cw0 wd0 ms0 d0 ts0 nx0 a1 W hm0 hw0 hf0 w1).mono fun e W' ⟨he, bel⟩ => ?_
  subst he
  exact ⟨_, rfl, _, _, _, [], _, [], hW', trodAll_mk1 (shut_bool Try.underlying4 _), (trodAll_cons_mk (Below.trod laidOut (by kernel_rfl) (of_decide_eq_true (by kernel_rfl)) k0 bel lt0) (trodAll_cons_mk (shut_int Try.underlying2 w1) trodAll_mk0)), rfl, bel.frame _, fun h => by cases h⟩

theorem over : Rows.fnExactGoneRow.holds Try.pinned (OpenSpec.ofChange Rows.fnExactGoneSpec) :=
  OpenClaim.holds_of_wide 3 Try.f3 rfl rfl rfl rfl rfl rfl rfl ⟨rfl, rfl, rfl, rfl, rfl⟩ rfl rfl rfl rfl rfl (by kernel_rfl) Try.func3 (by kernel_rfl)
    (of_decide_eq_true (by kernel_rfl)) (by unfold Func.isWrapper; first | (rw [if_pos (by decide +kernel)]; kernel_rfl) | (rw [if_neg (by decide +kernel)]; exact ⟨rfl, rfl⟩))
    (fun os started H enc _ => lifted os started H enc)

end Go.Proofs.Ytbmljcpeonopmaa.fnExactGone
namespace Go.Proofs.Ytbmljcpeonopmaa

theorem FnExactGone_holds : Rows.FnExactGoneSaid := fnExactGone.over

end Go.Proofs.Ytbmljcpeonopmaa
