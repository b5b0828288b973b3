/-
  FnExactCommandOk: both CommandOk tell the same of every command.
-/
import Derived.Test.YtbmljcpeonopmaaCmWk
namespace Go.Proofs.Ytbmljcpeonopmaa.fnExactCommandOk
open Go.ChangeShapes Go.WideShapes Go.ChangeAt Go.RowKit
set_option linter.unusedVariables false

theorem own : ownKnob Try.prog.godebug = none := by kernel_rfl
theorem laidOut : laidOutB Try.prog = true := by kernel_rfl

set_option maxRecDepth 100000 in
set_option maxHeartbeats 4000000 in
theorem walk (ao0 : Option Addr) (cap0 : Nat) (cl0 sq0 kd0 id0 : Int) (p0 : List Int) (w : World) (hv0 : View w ao0 p0) (hn0 : p0.length ≤ maxLen) :
    Calls Try.prog 4 #[.agg #[.int .i64 cl0, .int .i64 sq0, .int .i64 kd0, .int .i64 id0, .slice ao0 p0.length cap0]] w fun e w' => e = .returned (.bool true) ∧ Below w.heap.size w w' := by
  exact walkCommandOk ao0 cap0 cl0 sq0 kd0 id0 p0 w hv0 hn0

set_option maxRecDepth 100000 in
theorem lifted (os : Os) (started : os.Started) (H : Type) (enc : TypeId × Value → H) :
    ReturnsInHanded {} Try.checked os 4 .any (Rows.fnExactCommandOkSpec.pre6 enc Try.prog Try.f4 Rows.fnExactCommandOkRow.domain false) (Rows.fnExactCommandOkSpec.post enc Try.prog Try.f4 false true false false) := by
  refine returnsInHanded_of_change (C := Try.checked) own started (by kernel_rfl) Try.func4
    (ChangeSpec.witness6 (enc := enc) (C := Try.checked) false ⟨#[], #[.agg #[.int .i64 0, .int .i64 0, .int .i64 0, .int .i64 0, .slice none 0 0]], []⟩ 8 (by kernel_rfl) (by kernel_rfl) (by kernel_rfl) (by kernel_rfl)) ?_
  intro W base args ds gs before hval0 hW hcnd _
  have hval : ∀ (j : Nat) t v, Try.f4.params[j]? = some t → args[j]? = some v → Value.okWide Try.prog W .any base t v := hval0
  have hW' := hW
  obtain ⟨p, q, hA0, hV, rfl, hfz, hnd⟩ := hW
  have hA : DataW.TrodAll enc Try.prog W 0 (fun _ => true) true Try.f4.params.toList args.toList ds p := hA0
  rw [Try.params4] at hA hval
  obtain ⟨v0, vs0, d0, ds0, p0, q0, hargs, rfl, rfl, h0, r0⟩ := trodAll_cons hA
  obtain ⟨rfl, rfl, rfl⟩ := trodAll_nil r0
  obtain rfl : args = #[v0] := by cases args; simp_all
  obtain ⟨rfl, rfl⟩ := trodVars_none hV
  obtain ⟨cs0, rfl, sz0⟩ := okWide_command (hval 0 43 v0 rfl rfl)
  have k0 := h0
  have lt0 : ∀ x ∈ p0, x.block < W.heap.size := by obtain ⟨m, hm⟩ := k0; exact DataW.trod_lt m _ _ _ hm
  obtain ⟨cl0, sq0, kd0, id0, pt0, a0, cap0, rfl, hv0, hn0⟩ := (by obtain ⟨fuel, hf⟩ := h0; exact command_view sz0 hf : ∃ (cl sq kd id : Int) (p : List Int) (a : Option Addr) (c : Nat), cs0 = #[.int .i64 cl, .int .i64 sq, .int .i64 kd, .int .i64 id, .slice a p.length c] ∧ View W a p ∧ p.length ≤ maxLen)
  clear hA0 hval0
  refine (walk a0 cap0 cl0 sq0 kd0 id0 pt0 W hv0 hn0).mono fun e W' ⟨he, bel⟩ => ?_
  subst he
  exact ⟨_, rfl, _, _, _, [], _, [], hW', trodAll_mk1 (shut_bool Try.underlying4 _), (trodAll_cons_mk (Below.trod laidOut (by kernel_rfl) (of_decide_eq_true (by kernel_rfl)) k0 bel lt0) trodAll_mk0), rfl, bel.frame _, fun h => by cases h⟩

theorem over : Rows.fnExactCommandOkRow.holds Try.pinned (OpenSpec.ofChange Rows.fnExactCommandOkSpec) :=
  OpenClaim.holds_of_wide 4 Try.f4 rfl rfl rfl rfl rfl rfl rfl ⟨rfl, rfl, rfl, rfl, rfl⟩ rfl rfl rfl rfl rfl (by kernel_rfl) Try.func4 (by kernel_rfl)
    (of_decide_eq_true (by kernel_rfl)) (by unfold Func.isWrapper; first | (rw [if_pos (by decide +kernel)]; kernel_rfl) | (rw [if_neg (by decide +kernel)]; exact ⟨rfl, rfl⟩))
    (fun os started H enc _ => lifted os started H enc)

end Go.Proofs.Ytbmljcpeonopmaa.fnExactCommandOk
namespace Go.Proofs.Ytbmljcpeonopmaa

theorem FnExactCommandOk_holds : Rows.FnExactCommandOkSaid := fnExactCommandOk.over

end Go.Proofs.Ytbmljcpeonopmaa
