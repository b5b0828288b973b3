/-
  FnExactDeskOk: both DeskOk tell the same of every desk, and it stays as it is.
-/
import Derived.Test.YtbmljcpeonopmaaDkWkZz
namespace Go.Proofs.Ytbmljcpeonopmaa.fnExactDeskOk
open Go.ChangeShapes Go.WideShapes Go.ChangeAt Go.RowKit
set_option linter.unusedVariables false

theorem own : ownKnob Try.prog.godebug = none := by kernel_rfl
theorem laidOut : laidOutB Try.prog = true := by kernel_rfl

set_option maxRecDepth 100000 in
set_option maxHeartbeats 4000000 in
theorem walk (am0 aw0 aq0 : Option Addr) (cm0 cw0 cq0 : Nat) (wd0 : Int) (ms0 : List Mk) (d0 : Int) (ts0 : List Wb) (nx0 : Int) (ss0 : List ThS7) (w : World) (hm0 : MView w am0 ms0) (hw0 : WbView false w aw0 ts0) (hs0 : TViewS7 w aq0 ss0) (hf0 : StFit ms0 ts0) (hn0 : ss0.length ≤ maxLen) :
    Calls Try.prog 5 #[.agg #[.int .i64 wd0, .slice am0 ms0.length cm0, .int .i64 d0, .slice aw0 ts0.length cw0, .int .i64 nx0, .slice aq0 ss0.length cq0]] w fun e w' => e = .returned (.bool true) ∧ Below w.heap.size w w' := by
  exact walkDeskOk am0 aw0 aq0 cm0 cw0 cq0 wd0 ms0 d0 ts0 nx0 ss0 w hm0 hw0 hs0 hf0 hn0

set_option maxRecDepth 100000 in
theorem lifted (os : Os) (started : os.Started) (H : Type) (enc : TypeId × Value → H) :
    ReturnsInHanded {} Try.checked os 5 .any (Rows.fnExactDeskOkSpec.pre6 enc Try.prog Try.f5 Rows.fnExactDeskOkRow.domain false) (Rows.fnExactDeskOkSpec.post enc Try.prog Try.f5 false true false false) := by
  refine returnsInHanded_of_change (C := Try.checked) own started (by kernel_rfl) Try.func5
    (ChangeSpec.witness6 (enc := enc) (C := Try.checked) false ⟨#[], #[.agg #[.int .i64 0, .slice none 0 0, .int .i64 0, .slice none 0 0, .int .i64 0, .slice none 0 0]], []⟩ 8 (by kernel_rfl) (by kernel_rfl) (by kernel_rfl) (by kernel_rfl)) ?_
  intro W base args ds gs before hval0 hW hcnd _
  have hval : ∀ (j : Nat) t v, Try.f5.params[j]? = some t → args[j]? = some v → Value.okWide Try.prog W .any base t v := hval0
  have hW' := hW
  obtain ⟨p, q, hA0, hV, rfl, hfz, hnd⟩ := hW
  have hA : DataW.TrodAll enc Try.prog W 0 (fun _ => true) true Try.f5.params.toList args.toList ds p := hA0
  rw [Try.params5] at hA hval
  obtain ⟨v0, vs0, d0, ds0, p0, q0, hargs, rfl, rfl, h0, r0⟩ := trodAll_cons hA
  obtain ⟨rfl, rfl, rfl⟩ := trodAll_nil r0
  obtain rfl : args = #[v0] := by cases args; simp_all
  obtain ⟨rfl, rfl⟩ := trodVars_none hV
  obtain ⟨cs0, rfl, sz0⟩ := okWide_desk (hval 0 52 v0 rfl rfl)
  have k0 := h0
  have lt0 : ∀ x ∈ p0, x.block < W.heap.size := by obtain ⟨m, hm⟩ := k0; exact DataW.trod_lt m _ _ _ hm
  obtain ⟨wd0, ms0, d0, ts0, nx0, ss0, am0, cm0, aw0, cw0, aq0, cq0, rfl, hm0, hw0, hs0, hf0, hn0⟩ := (by obtain ⟨fuel, hf⟩ := h0; exact desk_view sz0 hf : ∃ (wd : Int) (ms : List Mk) (d : Int) (ts : List Wb) (nx : Int) (ss : List ThS7) (am : Option Addr) (cm : Nat) (aw : Option Addr) (cw : Nat) (aq : Option Addr) (cq : Nat), cs0 = #[.int .i64 wd, .slice am ms.length cm, .int .i64 d, .slice aw ts.length cw, .int .i64 nx, .slice aq ss.length cq] ∧ MView W am ms ∧ WbView false W aw ts ∧ TViewS7 W aq ss ∧ StFit ms ts ∧ ss.length ≤ maxLen)
  clear hA0 hval0
  refine (walk am0 aw0 aq0 cm0 cw0 cq0 wd0 ms0 d0 ts0 nx0 ss0 W hm0 hw0 hs0 hf0 hn0).mono fun e W' ⟨he, bel⟩ => ?_
  subst he
  exact ⟨_, rfl, _, _, _, [], _, [], hW', trodAll_mk1 (shut_bool Try.underlying4 _), (trodAll_cons_mk (Below.trod laidOut (by kernel_rfl) (of_decide_eq_true (by kernel_rfl)) k0 bel lt0) trodAll_mk0), rfl, bel.frame _, fun h => by cases h⟩

theorem over : Rows.fnExactDeskOkRow.holds Try.pinned (OpenSpec.ofChange Rows.fnExactDeskOkSpec) :=
  OpenClaim.holds_of_wide 5 Try.f5 rfl rfl rfl rfl rfl rfl rfl ⟨rfl, rfl, rfl, rfl, rfl⟩ rfl rfl rfl rfl rfl (by kernel_rfl) Try.func5 (by kernel_rfl)
    (of_decide_eq_true (by kernel_rfl)) (by unfold Func.isWrapper; first | (rw [if_pos (by decide +kernel)]; kernel_rfl) | (rw [if_neg (by decide +kernel)]; exact ⟨rfl, rfl⟩))
    (fun os started H enc _ => lifted os started H enc)

end Go.Proofs.Ytbmljcpeonopmaa.fnExactDeskOk
namespace Go.Proofs.Ytbmljcpeonopmaa

theorem FnExactDeskOk_holds : Rows.FnExactDeskOkSaid := fnExactDeskOk.over

end Go.Proofs.Ytbmljcpeonopmaa
