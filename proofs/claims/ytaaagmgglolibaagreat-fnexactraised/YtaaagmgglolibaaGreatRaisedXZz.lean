/-
  FnExactRaised holds: for every tower and mark the program raises it as the given one does, writes into no argument, and what it hands out is its own; no condition.
-/
import Derived.Test.YtaaagmgglolibaaGreatRsIZz
import Derived.Test.YtaaagmgglolibaaGreatFeHelpZz
import Derived.Test.YtaaagmgglolibaaGreatJRwZz
import Derived.Test.YtaaagmgglolibaaGreatRaisedF
namespace Go.Proofs.YtaaagmgglolibaaGreat.fnExactRaised
open Go.ChangeShapes Go.WideShapes Go.ChangeAt Go.RowKit
set_option linter.unusedVariables false

theorem own : ownKnob Tryz.prog.godebug = none := by kernel_rfl
theorem laidOut : laidOutB Tryz.prog = true := by kernel_rfl

set_option maxRecDepth 100000 in
set_option maxHeartbeats 4000000 in
theorem walk (ao0 : Option Addr) (cap0 : Nat) (d0 : Int) (ts0 : List Wb) (ao1 : Option Addr) (cap1 : Nat) (m1 : Mk) (w : World) (hv0 : WbView false w ao0 ts0) (hf0 : WbFit ts0) (hv1 : View w ao1 m1.2) (hn1 : m1.2.length ≤ maxLen) :
    Calls Tryz.prog 8 #[.agg #[.int .i64 d0, .slice ao0 ts0.length cap0], .agg #[.int .i64 m1.1, .slice ao1 m1.2.length cap1]] w fun e w' => e = .returned (.bool true) ∧ Below w.heap.size w w' := by
  exact walkRaised ao0 ao1 cap0 cap1 d0 ts0 m1 w hv0 hf0 hv1 hn1

set_option maxRecDepth 100000 in
theorem lifted (os : Os) (started : os.Started) (H : Type) (enc : TypeId × Value → H) :
    ReturnsInHanded {} Tryz.checked os 8 .any (Rows.fnExactRaisedSpec.pre6 enc Tryz.prog Tryz.f8 Rows.fnExactRaisedRow.domain false) (Rows.fnExactRaisedSpec.post enc Tryz.prog Tryz.f8 false true false false) := by
  refine returnsInHanded_of_change (C := Tryz.checked) own started (by kernel_rfl) Tryz.func8
    (ChangeSpec.witness6 (enc := enc) (C := Tryz.checked) false ⟨#[], #[.agg #[.int .i64 0, .slice none 0 0], .agg #[.int .i64 0, .slice none 0 0]], []⟩ 8 (by kernel_rfl) (by kernel_rfl) (by kernel_rfl) (by kernel_rfl)) ?_
  intro W base args ds gs before hval0 hW hcnd _
  have hval : ∀ (j : Nat) t v, Tryz.f8.params[j]? = some t → args[j]? = some v → Value.okWide Tryz.prog W .any base t v := hval0
  have hW' := hW
  obtain ⟨p, q, hA0, hV, rfl, hfz, hnd⟩ := hW
  have hA : DataW.TrodAll enc Tryz.prog W 0 (fun _ => true) true Tryz.f8.params.toList args.toList ds p := hA0
  rw [Tryz.params8] at hA hval
  obtain ⟨v0, vs0, d0, ds0, p0, q0, hargs, rfl, rfl, h0, r0⟩ := trodAll_cons hA
  obtain ⟨v1, vs1, d1, ds1, p1, q1, rfl, rfl, rfl, h1, r1⟩ := trodAll_cons r0
  obtain ⟨rfl, rfl, rfl⟩ := trodAll_nil r1
  obtain rfl : args = #[v0, v1] := by cases args; simp_all
  obtain ⟨rfl, rfl⟩ := trodVars_none hV
  obtain ⟨cs0, rfl, sz0⟩ := okWide_tower (hval 0 92 v0 rfl rfl)
  have k0 := h0
  have lt0 : ∀ x ∈ p0, x.block < W.heap.size := by obtain ⟨m, hm⟩ := k0; exact DataW.trod_lt m _ _ _ hm
  obtain ⟨d0, ts0, a0, cap0, rfl, hv0, hf0⟩ := (by obtain ⟨fuel, hf⟩ := h0; exact tower_view sz0 hf : ∃ (d : Int) (ts : List Wb) (a : Option Addr) (c : Nat), cs0 = #[.int .i64 d, .slice a ts.length c] ∧ WbView false W a ts ∧ WbFit ts)
  obtain ⟨cs1, rfl, sz1⟩ := okWide_mark (hval 1 93 v1 rfl rfl)
  have k1 := h1
  have lt1 : ∀ x ∈ p1, x.block < W.heap.size := by obtain ⟨m, hm⟩ := k1; exact DataW.trod_lt m _ _ _ hm
  obtain ⟨m1, a1, cap1, rfl, hv1, hn1⟩ := (by obtain ⟨fuel, hf⟩ := h1; exact mark_view sz1 hf : ∃ (m : Mk) (a : Option Addr) (c : Nat), cs1 = #[.int .i64 m.1, .slice a m.2.length c] ∧ View W a m.2 ∧ m.2.length ≤ maxLen)
  clear hA0 hval0
  refine (walk a0 cap0 d0 ts0 a1 cap1 m1 W hv0 hf0 hv1 hn1).mono fun e W' ⟨he, bel⟩ => ?_
  subst he
  exact ⟨_, rfl, _, _, _, [], _, [], hW', trodAll_mk1 (shut_bool Tryz.underlying4 _), (trodAll_cons_mk (Below.trod laidOut (by kernel_rfl) (of_decide_eq_true (by kernel_rfl)) k0 bel lt0) (trodAll_cons_mk (Below.trod laidOut (by kernel_rfl) (of_decide_eq_true (by kernel_rfl)) k1 bel lt1) trodAll_mk0)), rfl, bel.frame _, fun h => by cases h⟩

theorem over : Rows.fnExactRaisedRow.holds Tryz.pinned (OpenSpec.ofChange Rows.fnExactRaisedSpec) :=
  OpenClaim.holds_of_wide 8 Tryz.f8 rfl rfl rfl rfl rfl rfl rfl ⟨rfl, rfl, rfl, rfl, rfl⟩ rfl rfl rfl rfl rfl (by kernel_rfl) Tryz.func8 closed
    (of_decide_eq_true (by kernel_rfl)) (by unfold Func.isWrapper; first | (rw [if_pos (by decide +kernel)]; kernel_rfl) | (rw [if_neg (by decide +kernel)]; exact ⟨rfl, rfl⟩))
    (fun os started H enc _ => lifted os started H enc)

end Go.Proofs.YtaaagmgglolibaaGreat.fnExactRaised
namespace Go.Proofs.YtaaagmgglolibaaGreat

theorem FnExactRaised_holds : Rows.FnExactRaisedSaid := fnExactRaised.over

end Go.Proofs.YtaaagmgglolibaaGreat
