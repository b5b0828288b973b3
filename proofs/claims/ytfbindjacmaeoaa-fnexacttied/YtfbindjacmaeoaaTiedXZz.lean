/-
  FnExactTied is true at every argument: the program's Tied answers as its model and writes into no argument. No condition.
-/
import Derived.Test.YtfbindjacmaeoaaQTiedZz
import Derived.Test.YtfbindjacmaeoaaEWalkZz
import Derived.Test.YtfbindjacmaeoaaETArgsZz
import Derived.Test.YtfbindjacmaeoaaMArgsZz
namespace Go.Proofs.Ytfbindjacmaeoaa.fnExactTied
open Go.ChangeShapes Go.WideShapes Go.ChangeAt Go.RowKit
set_option linter.unusedVariables false

theorem own : ownKnob Try.prog.godebug = none := by kernel_rfl
theorem laidOut : laidOutB Try.prog = true := by kernel_rfl

set_option maxRecDepth 100000 in
set_option maxHeartbeats 4000000 in
theorem walk (ao0 : Option Addr) (cap0 : Nat) (ms0 : List Mk) (ao1 : Option Addr) (cap1 : Nat) (ts1 : List Th) (x2 : Int) (w : World) (hv0 : MView w ao0 ms0) (hn0 : ms0.length ≤ maxLen) (hat0 : ∀ i, (mat ms0 i).length ≤ maxLen) (hv1 : TView w ao1 ts1) (hn1 : ts1.length ≤ maxLen) (hx2 : (Lit.int .i64 x2).wf = true) :
    Calls Try.prog 6 #[.slice ao0 ms0.length cap0, .slice ao1 ts1.length cap1, .int .i64 x2] w fun e w' => e = .returned (.bool true) ∧ Below w.heap.size w w' := by
  exact walkTied iTied ao0 cap0 ms0 ao1 cap1 ts1 x2 w hv0 hn0 hat0 hv1 hn1

set_option maxRecDepth 100000 in
theorem lifted (os : Os) (started : os.Started) (H : Type) (enc : TypeId × Value → H) :
    ReturnsInHanded {} Try.checked os 6 .any (Rows.fnExactTiedSpec.pre6 enc Try.prog Try.f6 Rows.fnExactTiedRow.domain false) (Rows.fnExactTiedSpec.post enc Try.prog Try.f6 false true false false) := by
  refine returnsInHanded_of_change (C := Try.checked) own started (by kernel_rfl) Try.func6
    (ChangeSpec.witness6 (enc := enc) (C := Try.checked) false ⟨#[], #[.slice none 0 0, .slice none 0 0, .int .i64 0], []⟩ 8 (by kernel_rfl) (by kernel_rfl) (by kernel_rfl) (by kernel_rfl)) ?_
  intro W base args ds gs before hval0 hW hcnd _
  have hval : ∀ (j : Nat) t v, Try.f6.params[j]? = some t → args[j]? = some v → Value.okWide Try.prog W .any base t v := hval0
  have hW' := hW
  obtain ⟨p, q, hA0, hV, rfl, hfz, hnd⟩ := hW
  have hA : DataW.TrodAll enc Try.prog W 0 (fun _ => true) true Try.f6.params.toList args.toList ds p := hA0
  rw [Try.params6] at hA hval
  obtain ⟨v0, vs0, d0, ds0, p0, q0, hargs, rfl, rfl, h0, r0⟩ := trodAll_cons hA
  obtain ⟨v1, vs1, d1, ds1, p1, q1, rfl, rfl, rfl, h1, r1⟩ := trodAll_cons r0
  obtain ⟨v2, vs2, d2, ds2, p2, q2, rfl, rfl, rfl, h2, r2⟩ := trodAll_cons r1
  obtain ⟨rfl, rfl, rfl⟩ := trodAll_nil r2
  obtain rfl : args = #[v0, v1, v2] := by cases args; simp_all
  obtain ⟨rfl, rfl⟩ := trodVars_none hV
  obtain ⟨a0, len0, cap0, rfl⟩ := okWide_slice Try.underlying51 (hval 0 51 v0 rfl rfl)
  have k0 := h0
  have lt0 : ∀ x ∈ p0, x.block < W.heap.size := by obtain ⟨m, hm⟩ := k0; exact DataW.trod_lt m _ _ _ hm
  obtain ⟨ms0, rfl, hv0, hn0, hat0⟩ := (by obtain ⟨fuel, hf⟩ := h0; exact marks_view hf : ∃ ms : List Mk, len0 = ms.length ∧ MView W a0 ms ∧ ms.length ≤ maxLen ∧ ∀ i, (mat ms i).length ≤ maxLen)
  obtain ⟨a1, len1, cap1, rfl⟩ := okWide_slice Try.underlying58 (hval 1 58 v1 rfl rfl)
  have k1 := h1
  have lt1 : ∀ x ∈ p1, x.block < W.heap.size := by obtain ⟨m, hm⟩ := k1; exact DataW.trod_lt m _ _ _ hm
  obtain ⟨ts1, rfl, hv1, hn1⟩ := (by obtain ⟨fuel, hf⟩ := h1; exact threads_view hf : ∃ ts : List Th, len1 = ts.length ∧ TView W a1 ts ∧ ts.length ≤ maxLen)
  obtain ⟨a2, rfl, rfl, rfl, w2⟩ := open_int Try.underlying2 (hval 2 2 v2 rfl rfl) h2
  clear hA0 hval0
  refine (walk a0 cap0 ms0 a1 cap1 ts1 a2 W hv0 hn0 hat0 hv1 hn1 w2).mono fun e W' ⟨he, bel⟩ => ?_
  subst he
  exact ⟨_, rfl, _, _, _, [], _, [], hW', trodAll_mk1 (shut_bool Try.underlying4 _), (trodAll_cons_mk (Below.trod laidOut (by kernel_rfl) (of_decide_eq_true (by kernel_rfl)) k0 bel lt0) (trodAll_cons_mk (Below.trod laidOut (by kernel_rfl) (of_decide_eq_true (by kernel_rfl)) k1 bel lt1) (trodAll_cons_mk (shut_int Try.underlying2 w2) trodAll_mk0))), rfl, bel.frame _, fun h => by cases h⟩

theorem over : Rows.fnExactTiedRow.holds Try.pinned (OpenSpec.ofChange Rows.fnExactTiedSpec) :=
  OpenClaim.holds_of_wide 6 Try.f6 rfl rfl rfl rfl rfl rfl rfl ⟨rfl, rfl, rfl, rfl, rfl⟩ rfl rfl rfl rfl rfl (by kernel_rfl) Try.func6 (by kernel_rfl)
    (of_decide_eq_true (by kernel_rfl)) (by unfold Func.isWrapper; first | (rw [if_pos (by decide +kernel)]; kernel_rfl) | (rw [if_neg (by decide +kernel)]; exact ⟨rfl, rfl⟩))
    (fun os started H enc _ => lifted os started H enc)

end Go.Proofs.Ytfbindjacmaeoaa.fnExactTied
namespace Go.Proofs.Ytfbindjacmaeoaa

theorem FnExactTied_holds : Rows.FnExactTiedSaid := fnExactTied.over

end Go.Proofs.Ytfbindjacmaeoaa
