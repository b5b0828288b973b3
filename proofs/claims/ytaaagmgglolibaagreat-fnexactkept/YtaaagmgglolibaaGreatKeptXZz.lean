/-
  FnExactKept: at every state and place the program's Kept answers as the given one, field by field, writes into no argument, and hands out memory of its own. No condition.
-/
import Derived.Test.YtaaagmgglolibaaGreatOwSZz
import Derived.Test.YtaaagmgglolibaaGreatTwArgsZz
import Derived.Test.YtaaagmgglolibaaGreatMArgsZz
import Derived.Test.YtaaagmgglolibaaGreatKeptF
namespace Go.Proofs.YtaaagmgglolibaaGreat.fnExactKept
open Go.ChangeShapes Go.WideShapes Go.ChangeAt Go.RowKit
set_option linter.unusedVariables false

theorem own : ownKnob Tryz.prog.godebug = none := by kernel_rfl
theorem laidOut : laidOutB Tryz.prog = true := by kernel_rfl

set_option maxRecDepth 100000 in
set_option maxHeartbeats 4000000 in
theorem walk (am0 aw0 : Option Addr) (cm0 cw0 : Nat) (wd0 : Int) (ms0 : List Mk) (d0 : Int) (ts0 : List Wb) (nx0 : Int) (ao1 : Option Addr) (cap1 : Nat) (xs1 : List Int) (w : World) (hm0 : MView w am0 ms0) (hw0 : WbView false w aw0 ts0) (hf0 : StFit ms0 ts0) (hv1 : View w ao1 xs1) (hn1 : xs1.length ≤ maxLen) :
    Calls Tryz.prog 9 #[.agg #[.int .i64 wd0, .slice am0 ms0.length cm0, .int .i64 d0, .slice aw0 ts0.length cw0, .int .i64 nx0], .slice ao1 xs1.length cap1] w fun e w' => e = .returned (.bool true) ∧ Below w.heap.size w w' := by
  exact walkKept18 am0 aw0 ao1 cm0 cw0 cap1 wd0 ms0 d0 ts0 nx0 xs1 w hm0 hw0 hf0 hv1 hn1

set_option maxRecDepth 100000 in
theorem lifted (os : Os) (started : os.Started) (H : Type) (enc : TypeId × Value → H) :
    ReturnsInHanded {} Tryz.checked os 9 .any (Rows.fnExactKeptSpec.pre6 enc Tryz.prog Tryz.f9 Rows.fnExactKeptRow.domain false) (Rows.fnExactKeptSpec.post enc Tryz.prog Tryz.f9 false true false false) := by
  refine returnsInHanded_of_change (C := Tryz.checked) own started (by kernel_rfl) Tryz.func9
    (ChangeSpec.witness6 (enc := enc) (C := Tryz.checked) false ⟨#[], #[.agg #[.int .i64 0, .slice none 0 0, .int .i64 0, .slice none 0 0, .int .i64 0], .slice none 0 0], []⟩ 8 (by kernel_rfl) (by kernel_rfl) (by kernel_rfl) (by kernel_rfl)) ?_
  intro W base args ds gs before hval0 hW hcnd _
  have hval : ∀ (j : Nat) t v, Tryz.f9.params[j]? = some t → args[j]? = some v → Value.okWide Tryz.prog W .any base t v := hval0
  have hW' := hW
  obtain ⟨p, q, hA0, hV, rfl, hfz, hnd⟩ := hW
  have hA : DataW.TrodAll enc Tryz.prog W 0 (fun _ => true) true Tryz.f9.params.toList args.toList ds p := hA0
  rw [Tryz.params9] at hA hval
  obtain ⟨v0, vs0, d0, ds0, p0, q0, hargs, rfl, rfl, h0, r0⟩ := trodAll_cons hA
  obtain ⟨v1, vs1, d1, ds1, p1, q1, rfl, rfl, rfl, h1, r1⟩ := trodAll_cons r0
  obtain ⟨rfl, rfl, rfl⟩ := trodAll_nil r1
  obtain rfl : args = #[v0, v1] := by cases args; simp_all
  obtain ⟨rfl, rfl⟩ := trodVars_none hV
  obtain ⟨cs0, rfl, sz0⟩ := okWide_state (hval 0 104 v0 rfl rfl)
  have k0 := h0
  have lt0 : ∀ x ∈ p0, x.block < W.heap.size := by obtain ⟨m, hm⟩ := k0; exact DataW.trod_lt m _ _ _ hm
  obtain ⟨wd0, ms0, d0, ts0, nx0, am0, cm0, aw0, cw0, rfl, hm0, hw0, hf0⟩ := (by obtain ⟨fuel, hf⟩ := h0; exact state_view sz0 hf : ∃ (wd : Int) (ms : List Mk) (d : Int) (ts : List Wb) (nx : Int) (am : Option Addr) (cm : Nat) (aw : Option Addr) (cw : Nat), cs0 = #[.int .i64 wd, .slice am ms.length cm, .int .i64 d, .slice aw ts.length cw, .int .i64 nx] ∧ MView W am ms ∧ WbView false W aw ts ∧ StFit ms ts)
  obtain ⟨a1, len1, cap1, rfl⟩ := okWide_slice Tryz.underlying27 (hval 1 27 v1 rfl rfl)
  have k1 := h1
  have lt1 : ∀ x ∈ p1, x.block < W.heap.size := by obtain ⟨m, hm⟩ := k1; exact DataW.trod_lt m _ _ _ hm
  obtain ⟨xs1, rfl, hv1, hn1⟩ := (by obtain ⟨fuel, hf⟩ := h1; exact row_view1 hf : ∃ xs : List Int, len1 = xs.length ∧ View W a1 xs ∧ xs.length ≤ maxLen)
  clear hA0 hval0
  refine (walk am0 aw0 cm0 cw0 wd0 ms0 d0 ts0 nx0 a1 cap1 xs1 W hm0 hw0 hf0 hv1 hn1).mono fun e W' ⟨he, bel⟩ => ?_
  subst he
  exact ⟨_, rfl, _, _, _, [], _, [], hW', trodAll_mk1 (shut_bool Tryz.underlying4 _), (trodAll_cons_mk (Below.trod laidOut (by kernel_rfl) (of_decide_eq_true (by kernel_rfl)) k0 bel lt0) (trodAll_cons_mk (Below.trod laidOut (by kernel_rfl) (of_decide_eq_true (by kernel_rfl)) k1 bel lt1) trodAll_mk0)), rfl, bel.frame _, fun h => by cases h⟩

theorem over : Rows.fnExactKeptRow.holds Tryz.pinned (OpenSpec.ofChange Rows.fnExactKeptSpec) :=
  OpenClaim.holds_of_wide 9 Tryz.f9 rfl rfl rfl rfl rfl rfl rfl ⟨rfl, rfl, rfl, rfl, rfl⟩ rfl rfl rfl rfl rfl (by kernel_rfl) Tryz.func9 closed
    (of_decide_eq_true (by kernel_rfl)) (by unfold Func.isWrapper; first | (rw [if_pos (by decide +kernel)]; kernel_rfl) | (rw [if_neg (by decide +kernel)]; exact ⟨rfl, rfl⟩))
    (fun os started H enc _ => lifted os started H enc)

end Go.Proofs.YtaaagmgglolibaaGreat.fnExactKept
namespace Go.Proofs.YtaaagmgglolibaaGreat

theorem FnExactKept_holds : Rows.FnExactKeptSaid := fnExactKept.over

end Go.Proofs.YtaaagmgglolibaaGreat
