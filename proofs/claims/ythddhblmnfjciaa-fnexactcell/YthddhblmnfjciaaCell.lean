/-
  FnExactCell holds: for every slice and every side the program's Cell answers as the given one, in new memory, and leaves its argument alone; no condition.
-/
import Derived.Test.YthddhblmnfjciaaGCellI
import Derived.Test.YthddhblmnfjciaaMArgs
namespace Go.Proofs.Ythddhblmnfjciaa.fnExactCell
open Go.ChangeShapes Go.WideShapes Go.ChangeAt Go.RowKit
set_option linter.unusedVariables false

theorem own : ownKnob Try.prog.godebug = none := by kernel_rfl
theorem laidOut : laidOutB Try.prog = true := by kernel_rfl

set_option maxRecDepth 100000 in
set_option maxHeartbeats 4000000 in
theorem walk (ao0 : Option Addr) (cap0 : Nat) (xs0 : List Int) (x1 : Int) (w : World) (hv0 : View w ao0 xs0) (hn0 : xs0.length ≤ maxLen) (hx1 : (Lit.int .i64 x1).wf = true) :
    Calls Try.prog 9 #[.slice ao0 xs0.length cap0, .int .i64 x1] w fun e w' => e = .returned (.bool true) ∧ Below w.heap.size w w' := by
  by_cases hq : xs0.length ≤ 1048576
  case neg =>
    have hq2 : (xs0.length : Int) > 1048576 := by omega
    go_enter Try.func9, Try.ntmps9
    go_wp2_with fail
    go_ret
    exact ⟨rfl, Below.refl _ _⟩
  case pos =>
    have hq2 : ¬ ((xs0.length : Int) > 1048576) := by omega
    have hx : decide (xs0 = xs0) = true := by simp
    obtain ⟨L, hLe⟩ : ∃ L, L = cellL xs0 x1 := ⟨_, rfl⟩
    have hL4 : L.length ≤ 4 := by rw [hLe]; exact cellL_short xs0 x1
    have hl : decide (L = L) = true := by simp
    have HS := hideP (fun ao cap w hv => sCell ao cap xs0 x1 w hv hq)
    have HI := hideP (fun ao cap w hv => iCell ao cap xs0 x1 w hv hq)
    rw [← hLe] at HS HI
    clear hLe
    go_enter Try.func9, Try.ntmps9
    go_wp2_with fail
    refine (toS ao0 cap0 xs0 _ hv0 hq).mono ?_
    rintro e u1 ⟨b1, rfl, o1, hb1, M1⟩
    have HC := hideP (HS.out _ xs0.length u1 o1.view)
    go_wp2_with fail
    refine HC.out.mono ?_
    rintro e u3 ⟨gS, cS, rfl, hos, L3⟩
    have M3 := chain M1 L3
    have hvs : View u3 (some ⟨gS, 0, none⟩) L := own_view hos
    clear M1 o1 hb1 L3 hos HC
    go_wp2_with fail
    refine (toS ao0 cap0 xs0 _ (hv0.next M3) hq).mono ?_
    rintro e u5 ⟨b4, rfl, o4, hb4, N5⟩
    have M5 := chain M3 N5
    have HC := hideP (HI.out _ xs0.length u5 o4.view)
    go_wp2_with fail
    refine HC.out.mono ?_
    rintro e u6 ⟨ag, rfl, hg6, L6⟩
    have hz6 := L6.size
    have M6 := chain M5 L6
    have N6 := chain N5 L6
    have o46 := o4.below o4.lt L6
    have hb45 : b4 < u5.heap.size := o4.lt
    have h35 : u3.heap.size ≤ u5.heap.size := N5.size
    clear o4 L6 M5 N5 HC
    go_wp2_with fail
    refine (eqS _ _ _ _ L L _ hg6.view (hvs.next N6) (by omega)).mono ?_
    rintro e u7 ⟨rfl, n7, hw7⟩
    have M7 : Below w.heap.size w u7 := by rw [hw7]; exact below_drewN M6 n7
    have N7 : Below u3.heap.size u3 u7 := by rw [hw7]; exact below_drewN N6 n7
    have o47 : Own u7 b4 xs0 := by rw [hw7]; exact o46
    have hg7 : OwnV u5.heap.size u7 ag L := by rw [hw7]; exact hg6
    have hz7 : u5.heap.size ≤ u7.heap.size := by rw [hw7]; exact hz6
    clear hw7 M6 N6 o46 hg6
    go_wp2_with fail
    refine (toS ao0 cap0 xs0 _ (hv0.next M7) hq).mono ?_
    rintro e u8 ⟨b8, rfl, o8, hb8, L8⟩
    have M8 := chain M7 L8
    have N8 := chain N7 L8
    have o48 := o47.below o47.lt L8
    have hg8 := hg7.below (Nat.le_refl _) L8
    have hz8 := Nat.le_trans hz7 L8.size
    clear M7 N7 o47 hg7 hz7 L8
    go_wp2_with fail
    refine (eqS _ _ _ _ xs0 xs0 _ o48.view o8.view hq).mono ?_
    rintro e u9 ⟨rfl, n9, hw9⟩
    have M11 : Below w.heap.size w u9 := by rw [hw9]; exact below_drewN M8 n9
    have N11 : Below u3.heap.size u3 u9 := by rw [hw9]; exact below_drewN N8 n9
    have o411 : Own u9 b4 xs0 := by rw [hw9]; exact o48
    have hg11 : OwnV u5.heap.size u9 ag L := by rw [hw9]; exact hg8
    have hz11 : u5.heap.size ≤ u9.heap.size := by rw [hw9]; exact hz8
    clear hw9 M8 N8 o48 hg8 hz8 o8 hb8
    go_wp2_with fail
    refine (mark_own b4 1 xs0 _ o411 hq (by omega) (by omega)).mono ?_
    rintro e u12 ⟨rfl, o412, g12⟩
    have M13 := M11.grown g12 M11.size (fun k hk => by cases hk; have := M3.size; omega)
    have N13 := N11.grown g12 N11.size (fun k hk => by cases hk; exact hb4)
    have hg13 := hg11.grown g12 (by omega)
    have hz13 := Nat.le_trans hz11 g12.size
    clear M11 N11 o411 hg11 hz11 g12 o412
    have hpos : ¬ ((1 : Int) + xs0.length < 0) := by omega
    go_wp2_with fail
    refine (eqS _ _ _ _ L L _ hg13.view (hvs.next N13) (by omega)).mono ?_
    rintro e u14 ⟨rfl, n14, hw14⟩
    have M14 : Below w.heap.size w u14 := by rw [hw14]; exact below_drewN M13 n14
    have N14 : Below u3.heap.size u3 u14 := by rw [hw14]; exact below_drewN N13 n14
    have hg14 : OwnV u5.heap.size u14 ag L := by rw [hw14]; exact hg13
    have hz14 : u5.heap.size ≤ u14.heap.size := by rw [hw14]; exact hz13
    clear hw14 M13 N13 hg13 hz13
    go_wp2_with fail
    refine (markV u5.heap.size ag 1 L _ hg14 hz14 (by omega) (by omega) (by omega)).mono ?_
    rintro e u15 ⟨rfl, hg15, L15⟩
    have M15 := M14.trans (L15.mono (by have := M3.size; omega))
    have N15 := N14.trans (L15.mono h35)
    have hz15 := Nat.le_trans hz14 L15.size
    clear M14 N14 hg14 hz14 L15
    go_wp2_with fail
    refine (heldV u5.heap.size L.length ag 1 _ hg15 (by omega) (by omega) (by omega)).mono ?_
    rintro e u16 ⟨rfl, hw16⟩
    subst hw16
    have hq0 : ¬ ((1 : Int) + L.length < 0) := by omega
    have hq1 : (((1 : Int) + L.length) != (1 + L.length)) = false := by simp
    go_wp2_with fail
    refine (toS ao0 cap0 xs0 _ (hv0.next M15) hq).mono ?_
    rintro e u18 ⟨b17, rfl, o18, hb17, L17⟩
    have M18 := chain M15 L17
    have N18 := chain N15 L17
    have hg18 := hg15.below (Nat.le_refl _) L17
    clear M15 N15 hg15 L17
    have HC := hideP (HI.out _ xs0.length u18 o18.view)
    go_wp2_with fail
    refine HC.out.mono ?_
    rintro e u19 ⟨ah, rfl, hh19, L19⟩
    have M19 := chain M18 L19
    have N19 := chain N18 L19
    have hg19 := hg18.below (Nat.le_refl _) L19
    clear M18 N18 hg18 L19 o18 HC
    go_wp2_with fail
    refine (eqS _ _ _ _ L L _ hh19.view (hvs.next N19) (by omega)).mono ?_
    rintro e u20 ⟨rfl, n20, hw20⟩
    have M20 : Below w.heap.size w u20 := by rw [hw20]; exact below_drewN M19 n20
    have hg20 : OwnV u5.heap.size u20 ag (tabL (fun i => 1 + (i : Int)) L.length) := by rw [hw20]; exact hg19
    clear hw20 M19 N19 hg19
    go_wp2_with fail
    refine (heldV u5.heap.size L.length ag 1 _ hg20 (by omega) (by omega) (by omega)).mono ?_
    rintro e u21 ⟨rfl, hw21⟩
    subst hw21
    go_wp2_with fail
    go_ret
    exact ⟨rfl, M20⟩

set_option maxRecDepth 100000 in
theorem lifted (os : Os) (started : os.Started) (H : Type) (enc : TypeId × Value → H) :
    ReturnsInHanded {} Try.checked os 9 .any (Rows.fnExactCellSpec.pre6 enc Try.prog Try.f9 Rows.fnExactCellRow.domain false) (Rows.fnExactCellSpec.post enc Try.prog Try.f9 false true false false) := by
  refine returnsInHanded_of_change (C := Try.checked) own started (by kernel_rfl) Try.func9
    (ChangeSpec.witness6 (enc := enc) (C := Try.checked) false ⟨#[], #[.slice none 0 0, .int .i64 0], []⟩ 8 (by kernel_rfl) (by kernel_rfl) (by kernel_rfl) (by kernel_rfl)) ?_
  intro W base args ds gs before hval0 hW hcnd _
  have hval : ∀ (j : Nat) t v, Try.f9.params[j]? = some t → args[j]? = some v → Value.okWide Try.prog W .any base t v := hval0
  have hW' := hW
  obtain ⟨p, q, hA0, hV, rfl, hfz, hnd⟩ := hW
  have hA : DataW.TrodAll enc Try.prog W 0 (fun _ => true) true Try.f9.params.toList args.toList ds p := hA0
  rw [Try.params9] at hA hval
  obtain ⟨v0, vs0, d0, ds0, p0, q0, hargs, rfl, rfl, h0, r0⟩ := trodAll_cons hA
  obtain ⟨v1, vs1, d1, ds1, p1, q1, rfl, rfl, rfl, h1, r1⟩ := trodAll_cons r0
  obtain ⟨rfl, rfl, rfl⟩ := trodAll_nil r1
  obtain rfl : args = #[v0, v1] := by cases args; simp_all
  obtain ⟨rfl, rfl⟩ := trodVars_none hV
  obtain ⟨a0, len0, cap0, rfl⟩ := okWide_slice Try.underlying46 (hval 0 46 v0 rfl rfl)
  have k0 := h0
  have lt0 : ∀ x ∈ p0, x.block < W.heap.size := by obtain ⟨m, hm⟩ := k0; exact DataW.trod_lt m _ _ _ hm
  obtain ⟨xs0, rfl, hv0, hn0⟩ := (by obtain ⟨fuel, hf⟩ := h0; exact row_view1 hf : ∃ xs : List Int, len0 = xs.length ∧ View W a0 xs ∧ xs.length ≤ maxLen)
  obtain ⟨a1, rfl, rfl, rfl, w1⟩ := open_int Try.underlying2 (hval 1 2 v1 rfl rfl) h1
  clear hA0 hval0
  refine (walk a0 cap0 xs0 a1 W hv0 hn0 w1).mono fun e W' ⟨he, bel⟩ => ?_
  subst he
  exact ⟨_, rfl, _, _, _, [], _, [], hW', trodAll_mk1 (shut_bool Try.underlying4 _), (trodAll_cons_mk (Below.trod laidOut (by kernel_rfl) (of_decide_eq_true (by kernel_rfl)) k0 bel lt0) (trodAll_cons_mk (shut_int Try.underlying2 w1) trodAll_mk0)), rfl, bel.frame _, fun h => by cases h⟩

theorem over : Rows.fnExactCellRow.holds Try.pinned (OpenSpec.ofChange Rows.fnExactCellSpec) :=
  OpenClaim.holds_of_wide 9 Try.f9 rfl rfl rfl rfl rfl rfl rfl ⟨rfl, rfl, rfl, rfl, rfl⟩ rfl rfl rfl rfl rfl (by kernel_rfl) Try.func9 (by kernel_rfl)
    (of_decide_eq_true (by kernel_rfl)) (by unfold Func.isWrapper; first | (rw [if_pos (by decide +kernel)]; kernel_rfl) | (rw [if_neg (by decide +kernel)]; exact ⟨rfl, rfl⟩))
    (fun os started H enc _ => lifted os started H enc)

end Go.Proofs.Ythddhblmnfjciaa.fnExactCell
namespace Go.Proofs.Ythddhblmnfjciaa

theorem FnExactCell_holds : Rows.FnExactCellSaid := fnExactCell.over

end Go.Proofs.Ythddhblmnfjciaa
