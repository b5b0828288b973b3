/-
  FnExactTowerOk holds: at every tower the program's TowerOk answers as the given one and writes into no argument; no condition.
-/
import Derived.Test.YtmembegdbceooaaTwWkZz
import Derived.Test.YtmembegdbceooaaTwArgsZz
namespace Go.Proofs.Ytmembegdbceooaa.fnExactTowerOk
open Go.ChangeShapes Go.WideShapes Go.ChangeAt Go.RowKit
set_option linter.unusedVariables false

theorem own : ownKnob Try.prog.godebug = none := by kernel_rfl
theorem laidOut : laidOutB Try.prog = true := by kernel_rfl

set_option maxRecDepth 100000 in
set_option maxHeartbeats 4000000 in
theorem walk (ao0 : Option Addr) (cap0 : Nat) (d0 : Int) (ts0 : List Wb) (w : World) (hv0 : WbView false w ao0 ts0) (hf0 : WbFit ts0) :
    Calls Try.prog 7 #[.agg #[.int .i64 d0, .slice ao0 ts0.length cap0]] w fun e w' => e = .returned (.bool true) ∧ Below w.heap.size w w' := by
  exact walkTowerOk ao0 cap0 d0 ts0 w hv0 hf0

set_option maxRecDepth 100000 in
theorem lifted (os : Os) (started : os.Started) (H : Type) (enc : TypeId × Value → H) :
    ReturnsInHanded {} Try.checked os 7 .any (Rows.fnExactTowerOkSpec.pre6 enc Try.prog Try.f7 Rows.fnExactTowerOkRow.domain false) (Rows.fnExactTowerOkSpec.post enc Try.prog Try.f7 false true false false) := by
  refine returnsInHanded_of_change (C := Try.checked) own started (by kernel_rfl) Try.func7
    (ChangeSpec.witness6 (enc := enc) (C := Try.checked) false ⟨#[], #[.agg #[.int .i64 0, .slice none 0 0]], []⟩ 8 (by kernel_rfl) (by kernel_rfl) (by kernel_rfl) (by kernel_rfl)) ?_
  intro W base args ds gs before hval0 hW hcnd _
  have hval : ∀ (j : Nat) t v, Try.f7.params[j]? = some t → args[j]? = some v → Value.okWide Try.prog W .any base t v := hval0
  have hW' := hW
  obtain ⟨p, q, hA0, hV, rfl, hfz, hnd⟩ := hW
  have hA : DataW.TrodAll enc Try.prog W 0 (fun _ => true) true Try.f7.params.toList args.toList ds p := hA0
  rw [Try.params7] at hA hval
  obtain ⟨v0, vs0, d0, ds0, p0, q0, hargs, rfl, rfl, h0, r0⟩ := trodAll_cons hA
  obtain ⟨rfl, rfl, rfl⟩ := trodAll_nil r0
  obtain rfl : args = #[v0] := by cases args; simp_all
  obtain ⟨rfl, rfl⟩ := trodVars_none hV
  obtain ⟨cs0, rfl, sz0⟩ := okWide_tower (hval 0 48 v0 rfl rfl)
  have k0 := h0
  have lt0 : ∀ x ∈ p0, x.block < W.heap.size := by obtain ⟨m, hm⟩ := k0; exact DataW.trod_lt m _ _ _ hm
  obtain ⟨d0, ts0, a0, cap0, rfl, hv0, hf0⟩ := (by obtain ⟨fuel, hf⟩ := h0; exact tower_view sz0 hf : ∃ (d : Int) (ts : List Wb) (a : Option Addr) (c : Nat), cs0 = #[.int .i64 d, .slice a ts.length c] ∧ WbView false W a ts ∧ WbFit ts)
  clear hA0 hval0
  refine (walk a0 cap0 d0 ts0 W hv0 hf0).mono fun e W' ⟨he, bel⟩ => ?_
  subst he
  exact ⟨_, rfl, _, _, _, [], _, [], hW', trodAll_mk1 (shut_bool Try.underlying4 _), (trodAll_cons_mk (Below.trod laidOut (by kernel_rfl) (of_decide_eq_true (by kernel_rfl)) k0 bel lt0) trodAll_mk0), rfl, bel.frame _, fun h => by cases h⟩

theorem over : Rows.fnExactTowerOkRow.holds Try.pinned (OpenSpec.ofChange Rows.fnExactTowerOkSpec) :=
  OpenClaim.holds_of_wide 7 Try.f7 rfl rfl rfl rfl rfl rfl rfl ⟨rfl, rfl, rfl, rfl, rfl⟩ rfl rfl rfl rfl rfl (by kernel_rfl) Try.func7 (by kernel_rfl)
    (of_decide_eq_true (by kernel_rfl)) (by unfold Func.isWrapper; first | (rw [if_pos (by decide +kernel)]; kernel_rfl) | (rw [if_neg (by decide +kernel)]; exact ⟨rfl, rfl⟩))
    (fun os started H enc _ => lifted os started H enc)

end Go.Proofs.Ytmembegdbceooaa.fnExactTowerOk
namespace Go.Proofs.Ytmembegdbceooaa

theorem FnExactTowerOk_holds : Rows.FnExactTowerOkSaid := fnExactTowerOk.over

end Go.Proofs.Ytmembegdbceooaa
