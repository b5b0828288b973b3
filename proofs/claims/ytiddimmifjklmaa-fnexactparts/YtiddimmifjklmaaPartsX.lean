/-
  FnExactParts holds: for any two numbers the program's Parts answers as the given one, and its answer is new memory; no condition.
-/
import Derived.Test.YtiddimmifjklmaaMArgs
import Derived.Test.YtiddimmifjklmaaWIm5
namespace Go.Proofs.Ytiddimmifjklmaa.fnExactParts
open Go.ChangeShapes Go.WideShapes Go.ChangeAt Go.RowKit
set_option linter.unusedVariables false

theorem own : ownKnob Try.prog.godebug = none := by kernel_rfl
theorem laidOut : laidOutB Try.prog = true := by kernel_rfl

set_option maxRecDepth 100000 in
set_option maxHeartbeats 4000000 in
theorem walk (x0 : Int) (x1 : Int) (w : World) (hx0 : (Lit.int .i64 x0).wf = true) (hx1 : (Lit.int .i64 x1).wf = true) :
    Calls Try.prog 6 #[.int .i64 x0, .int .i64 x1] w fun e w' => e = .returned (.bool true) ∧ Below w.heap.size w w' := by
  obtain ⟨L, hL⟩ : ∃ L, partsL x0 x1 = L := ⟨_, rfl⟩
  have HLe := hidP hL
  have hl8 : L.length ≤ 8 := by rw [← hL]; exact partsL_short x0 x1
  clear hL
  go_enter Try.func6, Try.ntmps6
  go_wp2_with fail
  refine (sParts x0 x1 _).mono ?_
  rw [HLe.out]
  rintro e u3 ⟨g3, c3, rfl, r3, M3⟩
  have s3 := r3.seg
  have hlt3 := r3.lt.2
  clear r3
  go_wp2_with fail
  refine (iParts x0 x1 _).mono ?_
  rw [HLe.out]
  rintro e u6 ⟨ag, rfl, hg6, L6⟩
  have hz6 := L6.size
  have s6 := s3.below hlt3 L6
  have M6 := chain M3 L6
  clear L6
  go_wp2_with fail
  refine (eqS _ _ _ _ L L _ hg6.view (Or.inr ⟨g3, 0, rfl, by omega, s6⟩) (by omega)).mono ?_
  rintro e u7 ⟨rfl, n7, hw7⟩
  have M7 : Below w.heap.size w u7 := by rw [hw7]; exact below_drewN M6 n7
  have s7 : Seg u7 g3 0 L := by rw [hw7]; exact s6
  have hg7 : OwnV u3.heap.size u7 ag L := by rw [hw7]; exact hg6
  have hz7 : u3.heap.size ≤ u7.heap.size := by rw [hw7]; exact hz6
  clear hw7 M6 s6 hg6
  have ht : decide (L = L) = true := by simp
  go_wp2_with fail
  refine (markV u3.heap.size ag 1 L _ hg7 hz7 (by omega) (by omega) (by omega)).mono ?_
  rintro e u15 ⟨rfl, hg15, L15⟩
  have M15 := M7.trans (L15.mono (by have := M3.size; omega))
  have s15 := s7.below hlt3 L15
  have hz15 := Nat.le_trans hz7 L15.size
  clear M7 s7 hg7 hz7 L15
  go_wp2_with fail
  refine (heldV u3.heap.size L.length ag 1 _ hg15 (by omega) (by omega) (by omega)).mono ?_
  rintro e u16 ⟨rfl, hw16⟩
  subst hw16
  have hq0 : ¬ ((1 : Int) + L.length < 0) := by omega
  have hq1 : (((1 : Int) + L.length) != (1 + L.length)) = false := by simp
  go_wp2_with fail
  refine (iParts x0 x1 _).mono ?_
  rw [HLe.out]
  rintro e u19 ⟨ah, rfl, hh19, L19⟩
  have M19 := chain M15 L19
  have s19 := s15.below (by omega) L19
  have hz19 := L19.size
  have hg19 := hg15.below (Nat.le_refl _) L19
  clear M15 s15 hg15 L19
  go_wp2_with fail
  refine (eqS _ _ _ _ L L _ hh19.view (Or.inr ⟨g3, 0, rfl, by omega, s19⟩) (by omega)).mono ?_
  rintro e u20 ⟨rfl, n20, hw20⟩
  have M20 : Below w.heap.size w u20 := by rw [hw20]; exact below_drewN M19 n20
  have hg20 : OwnV u3.heap.size u20 ag (tabL (fun i => 1 + i) L.length) := by rw [hw20]; exact hg19
  clear hw20 M19 s19 hg19 hh19
  go_wp2_with fail
  refine (heldV u3.heap.size L.length ag 1 _ hg20 (by omega) (by omega) (by omega)).mono ?_
  rintro e u21 ⟨rfl, hw21⟩
  subst hw21
  go_wp2_with fail
  go_ret
  exact ⟨rfl, M20⟩

set_option maxRecDepth 100000 in
theorem lifted (os : Os) (started : os.Started) (H : Type) (enc : TypeId × Value → H) :
    ReturnsInHanded {} Try.checked os 6 .any (Rows.fnExactPartsSpec.pre6 enc Try.prog Try.f6 Rows.fnExactPartsRow.domain false) (Rows.fnExactPartsSpec.post enc Try.prog Try.f6 false true false false) := by
  refine returnsInHanded_of_change (C := Try.checked) own started (by kernel_rfl) Try.func6
    (ChangeSpec.witness6 (enc := enc) (C := Try.checked) false ⟨#[], #[.int .i64 0, .int .i64 0], []⟩ 8 (by kernel_rfl) (by kernel_rfl) (by kernel_rfl) (by kernel_rfl)) ?_
  intro W base args ds gs before hval0 hW hcnd _
  have hval : ∀ (j : Nat) t v, Try.f6.params[j]? = some t → args[j]? = some v → Value.okWide Try.prog W .any base t v := hval0
  have hW' := hW
  obtain ⟨p, q, hA0, hV, rfl, hfz, hnd⟩ := hW
  have hA : DataW.TrodAll enc Try.prog W 0 (fun _ => true) true Try.f6.params.toList args.toList ds p := hA0
  rw [Try.params6] at hA hval
  obtain ⟨v0, vs0, d0, ds0, p0, q0, hargs, rfl, rfl, h0, r0⟩ := trodAll_cons hA
  obtain ⟨v1, vs1, d1, ds1, p1, q1, rfl, rfl, rfl, h1, r1⟩ := trodAll_cons r0
  obtain ⟨rfl, rfl, rfl⟩ := trodAll_nil r1
  obtain rfl : args = #[v0, v1] := by cases args; simp_all
  obtain ⟨rfl, rfl⟩ := trodVars_none hV
  obtain ⟨a0, rfl, rfl, rfl, w0⟩ := open_int Try.underlying2 (hval 0 2 v0 rfl rfl) h0
  obtain ⟨a1, rfl, rfl, rfl, w1⟩ := open_int Try.underlying2 (hval 1 2 v1 rfl rfl) h1
  clear hA0 hval0
  refine (walk a0 a1 W w0 w1).mono fun e W' ⟨he, bel⟩ => ?_
  subst he
  exact ⟨_, rfl, _, _, _, [], _, [], hW', trodAll_mk1 (shut_bool Try.underlying4 _), (trodAll_cons_mk (shut_int Try.underlying2 w0) (trodAll_cons_mk (shut_int Try.underlying2 w1) trodAll_mk0)), rfl, bel.frame _, fun h => by cases h⟩

theorem over : Rows.fnExactPartsRow.holds Try.pinned (OpenSpec.ofChange Rows.fnExactPartsSpec) :=
  OpenClaim.holds_of_wide 6 Try.f6 rfl rfl rfl rfl rfl rfl rfl ⟨rfl, rfl, rfl, rfl, rfl⟩ rfl rfl rfl rfl rfl (by kernel_rfl) Try.func6 (by kernel_rfl)
    (of_decide_eq_true (by kernel_rfl)) (by unfold Func.isWrapper; first | (rw [if_pos (by decide +kernel)]; kernel_rfl) | (rw [if_neg (by decide +kernel)]; exact ⟨rfl, rfl⟩))
    (fun os started H enc _ => lifted os started H enc)

end Go.Proofs.Ytiddimmifjklmaa.fnExactParts
namespace Go.Proofs.Ytiddimmifjklmaa

theorem FnExactParts_holds : Rows.FnExactPartsSaid := fnExactParts.over

end Go.Proofs.Ytiddimmifjklmaa
