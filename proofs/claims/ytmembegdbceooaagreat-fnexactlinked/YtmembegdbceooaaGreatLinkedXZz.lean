/-
  FnExactLinked holds: at every web, mark and number the program's Linked answers as the given one, writes into no argument, and its answer owns its memory; no condition.
-/
import Derived.Test.YtmembegdbceooaaGreatLkMainZz
import Derived.Test.YtmembegdbceooaaGreatJRwZz
namespace Go.Proofs.YtmembegdbceooaaGreat.fnExactLinked
open Go.ChangeShapes Go.WideShapes Go.ChangeAt Go.RowKit
set_option linter.unusedVariables false

theorem own : ownKnob Tryz.prog.godebug = none := by kernel_rfl
theorem laidOut : laidOutB Tryz.prog = true := by kernel_rfl

set_option maxRecDepth 100000 in
set_option maxHeartbeats 4000000 in
theorem walk (am0 al0 : Option Addr) (cm0 cl0 : Nat) (ms0 : List Mk) (ls0 : List (List Int)) (ao1 : Option Addr) (cap1 : Nat) (m1 : Mk) (x2 : Int) (w : World) (hm0 : MView w am0 ms0) (hl0 : CView w al0 ls0) (nm0 : ms0.length ≤ maxLen) (tm0 : ∀ i, (mat ms0 i).length ≤ maxLen) (nl0 : ls0.length ≤ maxLen) (tl0 : ∀ i, (cn ls0 i).length ≤ maxLen) (hv1 : View w ao1 m1.2) (hn1 : m1.2.length ≤ maxLen) (hx2 : (Lit.int .i64 x2).wf = true) :
    Calls Tryz.prog 5 #[.agg #[.slice am0 ms0.length cm0, .slice al0 ls0.length cl0], .agg #[.int .i64 m1.1, .slice ao1 m1.2.length cap1], .int .i64 x2] w fun e w' => e = .returned (.bool true) ∧ Below w.heap.size w w' := by
  exact walkLinked am0 al0 ao1 cm0 cl0 cap1 ms0 ls0 m1 x2 w hm0 hl0 nm0 tm0 nl0 tl0 hv1 hn1

set_option maxRecDepth 100000 in
theorem lifted (os : Os) (started : os.Started) (H : Type) (enc : TypeId × Value → H) :
    ReturnsInHanded {} Tryz.checked os 5 .any (Rows.fnExactLinkedSpec.pre6 enc Tryz.prog Tryz.f5 Rows.fnExactLinkedRow.domain false) (Rows.fnExactLinkedSpec.post enc Tryz.prog Tryz.f5 false true false false) := by
  refine returnsInHanded_of_change (C := Tryz.checked) own started (by kernel_rfl) Tryz.func5
    (ChangeSpec.witness6 (enc := enc) (C := Tryz.checked) false ⟨#[], #[.agg #[.slice none 0 0, .slice none 0 0], .agg #[.int .i64 0, .slice none 0 0], .int .i64 0], []⟩ 8 (by kernel_rfl) (by kernel_rfl) (by kernel_rfl) (by kernel_rfl)) ?_
  intro W base args ds gs before hval0 hW hcnd _
  have hval : ∀ (j : Nat) t v, Tryz.f5.params[j]? = some t → args[j]? = some v → Value.okWide Tryz.prog W .any base t v := hval0
  have hW' := hW
  obtain ⟨p, q, hA0, hV, rfl, hfz, hnd⟩ := hW
  have hA : DataW.TrodAll enc Tryz.prog W 0 (fun _ => true) true Tryz.f5.params.toList args.toList ds p := hA0
  rw [Tryz.params5] at hA hval
  obtain ⟨v0, vs0, d0, ds0, p0, q0, hargs, rfl, rfl, h0, r0⟩ := trodAll_cons hA
  obtain ⟨v1, vs1, d1, ds1, p1, q1, rfl, rfl, rfl, h1, r1⟩ := trodAll_cons r0
  obtain ⟨v2, vs2, d2, ds2, p2, q2, rfl, rfl, rfl, h2, r2⟩ := trodAll_cons r1
  obtain ⟨rfl, rfl, rfl⟩ := trodAll_nil r2
  obtain rfl : args = #[v0, v1, v2] := by cases args; simp_all
  obtain ⟨rfl, rfl⟩ := trodVars_none hV
  obtain ⟨cs0, rfl, sz0⟩ := okWide_web (hval 0 65 v0 rfl rfl)
  have k0 := h0
  have lt0 : ∀ x ∈ p0, x.block < W.heap.size := by obtain ⟨m, hm⟩ := k0; exact DataW.trod_lt m _ _ _ hm
  obtain ⟨ms0, ls0, am0, cm0, al0, cl0, rfl, hm0, hl0, nm0, tm0, nl0, tl0⟩ := (by obtain ⟨fuel, hf⟩ := h0; exact web_view sz0 hf : ∃ (ms : List Mk) (ls : List (List Int)) (a1 : Option Addr) (c1 : Nat) (a2 : Option Addr) (c2 : Nat), cs0 = #[.slice a1 ms.length c1, .slice a2 ls.length c2] ∧ MView W a1 ms ∧ CView W a2 ls ∧ ms.length ≤ maxLen ∧ (∀ i, (mat ms i).length ≤ maxLen) ∧ ls.length ≤ maxLen ∧ ∀ i, (cn ls i).length ≤ maxLen)
  obtain ⟨cs1, rfl, sz1⟩ := okWide_mark (hval 1 66 v1 rfl rfl)
  have k1 := h1
  have lt1 : ∀ x ∈ p1, x.block < W.heap.size := by obtain ⟨m, hm⟩ := k1; exact DataW.trod_lt m _ _ _ hm
  obtain ⟨m1, a1, cap1, rfl, hv1, hn1⟩ := (by obtain ⟨fuel, hf⟩ := h1; exact mark_view sz1 hf : ∃ (m : Mk) (a : Option Addr) (c : Nat), cs1 = #[.int .i64 m.1, .slice a m.2.length c] ∧ View W a m.2 ∧ m.2.length ≤ maxLen)
  obtain ⟨a2, rfl, rfl, rfl, w2⟩ := open_int Tryz.underlying2 (hval 2 2 v2 rfl rfl) h2
  clear hA0 hval0
  refine (walk am0 al0 cm0 cl0 ms0 ls0 a1 cap1 m1 a2 W hm0 hl0 nm0 tm0 nl0 tl0 hv1 hn1 w2).mono fun e W' ⟨he, bel⟩ => ?_
  subst he
  exact ⟨_, rfl, _, _, _, [], _, [], hW', trodAll_mk1 (shut_bool Tryz.underlying4 _), (trodAll_cons_mk (Below.trod laidOut (by kernel_rfl) (of_decide_eq_true (by kernel_rfl)) k0 bel lt0) (trodAll_cons_mk (Below.trod laidOut (by kernel_rfl) (of_decide_eq_true (by kernel_rfl)) k1 bel lt1) (trodAll_cons_mk (shut_int Tryz.underlying2 w2) trodAll_mk0))), rfl, bel.frame _, fun h => by cases h⟩

theorem over : Rows.fnExactLinkedRow.holds Tryz.pinned (OpenSpec.ofChange Rows.fnExactLinkedSpec) :=
  OpenClaim.holds_of_wide 5 Tryz.f5 rfl rfl rfl rfl rfl rfl rfl ⟨rfl, rfl, rfl, rfl, rfl⟩ rfl rfl rfl rfl rfl (by kernel_rfl) Tryz.func5 (by kernel_rfl)
    (of_decide_eq_true (by kernel_rfl)) (by unfold Func.isWrapper; first | (rw [if_pos (by decide +kernel)]; kernel_rfl) | (rw [if_neg (by decide +kernel)]; exact ⟨rfl, rfl⟩))
    (fun os started H enc _ => lifted os started H enc)

end Go.Proofs.YtmembegdbceooaaGreat.fnExactLinked
namespace Go.Proofs.YtmembegdbceooaaGreat

theorem FnExactLinked_holds : Rows.FnExactLinkedSaid := fnExactLinked.over

end Go.Proofs.YtmembegdbceooaaGreat
