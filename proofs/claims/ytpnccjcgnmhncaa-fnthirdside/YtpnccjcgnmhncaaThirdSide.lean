/-
  FnThirdSide holds: for every list of bytes the law of the third side answers true and leaves its argument alone; no condition.
-/
import Derived.Test.YtpnccjcgnmhncaaBytes
import Derived.Test.YtpnccjcgnmhncaaLike
namespace Go.Proofs.Ytpnccjcgnmhncaa.fnThirdSide
open Go.ChangeShapes Go.WideShapes Go.ChangeAt Go.RowKit
open Go.ChangeMaps (open_string shut_string)
set_option linter.unusedVariables false

theorem own : ownKnob Try.prog.godebug = none := by kernel_rfl
theorem laidOut : laidOutB Try.prog = true := by kernel_rfl

/-! ### STEP 1: THE WALK: the Go text returns true, AND WRITES NOTHING THAT WAS THERE: 'Below w.heap.size w w'' (Derived/Below.lean: '.refl', '.alloc', '.drew', '.setCell' at a new block, '.trans'). Open each 'IsRow' by 'rcases' AHEAD of 'go_enter'; part every test ahead of the walk. -/
set_option maxRecDepth 100000 in
set_option maxHeartbeats 2000000 in
theorem walk (a0 : Option Addr) (len0 cap0 : Nat) (z0 : List Int) (w : World) (w0 : IsRow .u8 w a0 len0 cap0 z0) :
    Calls Try.prog 10 #[.slice a0 len0 cap0] w fun e w' => e = .returned (.bool true) ∧ Below w.heap.size w w' := by
  obtain ⟨hv, hmax⟩ := w0.code
  unfold maxLen at hmax
  clear w0
  by_cases hbig : 4096 < len0
  · go_enter Try.func10, Try.ntmps10
    go_wp2_with (go_at_call 28; refine (bigC _ _ _ _).mono ?_; rintro e w' ⟨rfl, rfl⟩)
    go_ret
    exact ⟨rfl, Below.refl _ _⟩
  have hn : len0 ≤ 4096 := by omega
  have hbb : decide (4096 < (len0 : Int)) = false := by simp; omega
  clear hmax hbig
  go_enter Try.func10, Try.ntmps10
  go_wp2_with fail
  refine (bigC _ _ _ _).mono ?_
  rintro e u0 ⟨rfl, hu0⟩
  subst hu0
  rw [hbb]
  go_wp2_with fail
  refine (cSteps a0 len0 cap0 _ hv hn).mono ?_
  rintro e u1 ⟨g, c, xs, g', c', ys, rfl, hl, hl', hx, hy, M1⟩
  have k1 : xs.length ≤ 1048576 := by omega
  have k2 : ys.length ≤ 1048576 := by omega
  go_wp2_with fail
  refine (iSteps _ _ _ _ xs ys _ hx hy k1 k2).mono ?_
  rintro e u2 ⟨rfl, L2⟩
  have M2 := chain M1 L2
  have hx2 := hx.below (Nat.le_refl _) L2
  have hy2 := hy.below (Nat.le_refl _) L2
  clear hx hy L2 M1
  go_wp2_with fail
  refine (iReach _ _ _ _ xs ys _ hx2 hy2 k1 k2).mono ?_
  rintro e u3 ⟨rfl, L3⟩
  have M3 := chain M2 L3
  have hx3 := hx2.below (Nat.le_refl _) L3
  have hy3 := hy2.below (Nat.le_refl _) L3
  clear hx2 hy2 L3 M2
  have q1 : (stepsV xs ys != stepsV xs ys) = false := by simp
  have q2 : (reachV xs ys != reachV xs ys) = false := by simp
  go_wp2_with fail
  refine (sSteps _ _ _ _ xs ys _ hx3 hy3 k1 k2).mono ?_
  rintro e u4 ⟨rfl, n4, hw4⟩
  have M4 : Below w.heap.size w u4 := by rw [hw4]; exact below_drewN M3 n4
  have hx4 : View u4 (some ⟨g, 0, none⟩) xs := by rw [hw4]; exact hx3
  have hy4 : View u4 (some ⟨g', 0, none⟩) ys := by rw [hw4]; exact hy3
  clear hw4 M3 hx3 hy3
  go_wp2_with fail
  refine (sReach _ _ _ _ xs ys _ hx4 hy4 k1 k2).mono ?_
  rintro e u5 ⟨rfl, n5, hw5⟩
  have M5 : Below w.heap.size w u5 := by rw [hw5]; exact below_drewN M4 n5
  have hx5 : View u5 (some ⟨g, 0, none⟩) xs := by rw [hw5]; exact hx4
  have hy5 : View u5 (some ⟨g', 0, none⟩) ys := by rw [hw5]; exact hy4
  clear hw5 M4 hx4 hy4
  rcases ht : twoB xs ys with _ | _
  · have e1 : stepsV xs ys = -1 := by simp [stepsV, ht]
    have e2 : reachV xs ys = -1 := by simp [reachV, ht]
    rw [e1, e2]
    clear q1 q2 e1 e2
    go_wp2_with fail
    go_ret
    exact ⟨rfl, M5⟩
  have h4 := okB_len (twoB_of ht).1
  have hcode5 := hv.below (Nat.le_refl _) M5
  have HT := hideP ht
  clear ht
  have hpos : ¬ stepsV xs ys < 0 := by have := sumTo_le (gapF xs ys) 0 2000 (gapF_bd (twoB_of HT.out).1 (twoB_of HT.out).2.1) xs.length; unfold stepsV; rw [if_pos HT.out]; omega
  go_wp2_with fail
  refine (pointC a0 len0 cap0 xs.length 3 _ hcode5 hn (by omega) (by omega) hl).mono ?_
  rintro e u6 ⟨gc, cc, zs, rfl, hlz, hzs, hz6, L6⟩
  have hok := ok_small (xs := zs) (by omega) (by omega) hzs
  have hac : twoB xs zs = true := twoB_true (twoB_of HT.out).1 hok hlz.symm
  have T := third HT.out hac
  have M6 := chain M5 L6
  have hx6 := hx5.below (Nat.le_refl _) L6
  have hy6 := hy5.below (Nat.le_refl _) L6
  have k3 : zs.length ≤ 1048576 := by omega
  clear hx5 hy5 L6 M5 hzs hok hac hlz
  obtain ⟨t1, t2, t3, t4, t5, t6, t7, t8, t9, t10, t11, t12, t13, t14, t15, t16, t17, t18, t19, t20, t21, t22⟩ := T
  have T15 := hideP t15
  have c1 : (stepsV ys xs == stepsV xs ys) = true := by rw [stepsV_comm]; simp
  have c2 : (reachV ys xs == reachV xs ys) = true := by rw [reachV_comm]; simp
  have c3 : ((stepsV xs ys == 0) == decide (xs = ys)) = true := by
    rw [Bool.beq_eq_decide_eq]
    by_cases h : xs = ys
    · have := T15.out.2 h
      rw [h] at this
      simp [h, this]
    · have : ¬ stepsV xs ys = 0 := fun e => h (T15.out.1 e)
      simp [h, this]
  clear t15 T15
  have p1 : 0 ≤ (xs.length : Int) * reachV xs ys ∧ (xs.length : Int) * reachV xs ys ≤ 8000 := ⟨by omega, by
    have := Int.mul_le_mul (show (xs.length : Int) ≤ 4 by omega) t4 t3 (by omega); omega⟩
  have p2 : 0 ≤ reachV xs ys * reachV xs ys ∧ reachV xs ys * reachV xs ys ≤ 4000000 := ⟨sq_nonneg _, by
    have := Int.mul_le_mul t4 t4 t3 (by omega : (0 : Int) ≤ 2000); omega⟩
  have p3 : 0 ≤ stepsV xs ys * stepsV xs ys ∧ stepsV xs ys * stepsV xs ys ≤ 64000000 := ⟨sq_nonneg _, by
    have := Int.mul_le_mul t2 t2 t1 (by omega : (0 : Int) ≤ 8000); omega⟩
  have p4 : 0 ≤ (xs.length : Int) * farV xs ys ∧ (xs.length : Int) * farV xs ys ≤ 64000000 := ⟨by omega, by
    have := Int.mul_le_mul (show (xs.length : Int) ≤ 4 by omega) t6 t5 (by omega); omega⟩
  clear q1 q2
  go_wp2_with fail
  refine (iFar _ _ _ _ xs ys _ hx6 hy6 k1 k2).mono ?_
  rintro e u7 ⟨rfl, L7⟩
  have M7 := chain M6 L7
  have hx7 := hx6.below (Nat.le_refl _) L7
  have hy7 := hy6.below (Nat.le_refl _) L7
  have hz7 := hz6.below (Nat.le_refl _) L7
  clear hx6 hy6 hz6 L7 M6
  go_wp2_with fail
  refine (iSteps _ _ _ _ ys xs _ hy7 hx7 k2 k1).mono ?_
  rintro e u8 ⟨rfl, L8⟩
  have M8 := chain M7 L8
  have hx8 := hx7.below (Nat.le_refl _) L8
  have hy8 := hy7.below (Nat.le_refl _) L8
  have hz8 := hz7.below (Nat.le_refl _) L8
  clear hx7 hy7 hz7 L8 M7
  go_wp2_with fail
  refine (iReach _ _ _ _ ys xs _ hy8 hx8 k2 k1).mono ?_
  rintro e u9 ⟨rfl, L9⟩
  have M9 := chain M8 L9
  have hx9 := hx8.below (Nat.le_refl _) L9
  have hy9 := hy8.below (Nat.le_refl _) L9
  have hz9 := hz8.below (Nat.le_refl _) L9
  clear hx8 hy8 hz8 L9 M8
  go_wp2_with fail
  refine (likeS _ _ _ _ xs ys _ hx9 hy9 k1).mono ?_
  rintro e u10 ⟨rfl, n10, hw10⟩
  have M10 : Below w.heap.size w u10 := by rw [hw10]; exact below_drewN M9 n10
  have hx10 : View u10 (some ⟨g, 0, none⟩) xs := by rw [hw10]; exact hx9
  have hy10 : View u10 (some ⟨g', 0, none⟩) ys := by rw [hw10]; exact hy9
  have hz10 : View u10 (some ⟨gc, 0, none⟩) zs := by rw [hw10]; exact hz9
  clear hw10 M9 hx9 hy9 hz9
  go_wp2_with fail
  refine (iSteps _ _ _ _ xs zs _ hx10 hz10 k1 k3).mono ?_
  rintro e u11 ⟨rfl, L11⟩
  have M11 := chain M10 L11
  have hx11 := hx10.below (Nat.le_refl _) L11
  have hy11 := hy10.below (Nat.le_refl _) L11
  have hz11 := hz10.below (Nat.le_refl _) L11
  clear hx10 hy10 hz10 L11 M10
  go_wp2_with fail
  refine (iSteps _ _ _ _ zs ys _ hz11 hy11 k3 k2).mono ?_
  rintro e u12 ⟨rfl, L12⟩
  have M12 := chain M11 L12
  have hx12 := hx11.below (Nat.le_refl _) L12
  have hy12 := hy11.below (Nat.le_refl _) L12
  have hz12 := hz11.below (Nat.le_refl _) L12
  clear hx11 hy11 hz11 L12 M11
  go_wp2_with fail
  refine (iReach _ _ _ _ xs zs _ hx12 hz12 k1 k3).mono ?_
  rintro e u13 ⟨rfl, L13⟩
  have M13 := chain M12 L13
  have hy13 := hy12.below (Nat.le_refl _) L13
  have hz13 := hz12.below (Nat.le_refl _) L13
  clear hx12 hy12 hz12 L13 M12
  go_wp2_with fail
  refine (iReach _ _ _ _ zs ys _ hz13 hy13 k3 k2).mono ?_
  rintro e u14 ⟨rfl, L14⟩
  have M14 := chain M13 L14
  clear hy13 hz13 L14 M13
  go_wp2_with fail
  go_ret
  exact ⟨ret_bool (by simp), M14⟩

/-! ### THE ROW's STEP: WRITTEN OUT: LEAVE IT -/
set_option maxRecDepth 100000 in
theorem lifted (os : Os) (started : os.Started) (H : Type) (enc : TypeId × Value → H) :
    ReturnsInHanded {} Try.checked os 10 .any (Rows.fnThirdSideSpec.pre6 enc Try.prog Try.f10 Rows.fnThirdSideRow.domain false) (Rows.fnThirdSideSpec.post enc Try.prog Try.f10 false true false false) := by
  refine returnsInHanded_of_change (C := Try.checked) own started (by kernel_rfl) Try.func10
    (ChangeSpec.witness6 (enc := enc) (C := Try.checked) false ⟨#[], #[.slice none 0 0], []⟩ 8 (by kernel_rfl) (by kernel_rfl) (by kernel_rfl) (by kernel_rfl)) ?_
  intro W base args ds gs before hval0 hW hcnd _
  have hval : ∀ (j : Nat) t v, Try.f10.params[j]? = some t → args[j]? = some v → Value.okWide Try.prog W .any base t v := hval0
  have hW' := hW
  obtain ⟨p, q, hA0, hV, rfl, hfz, hnd⟩ := hW
  have hA : DataW.TrodAll enc Try.prog W 0 (fun _ => true) true Try.f10.params.toList args.toList ds p := hA0
  rw [Try.params10] at hA hval
  obtain ⟨v0, vs0, d0, ds0, p0, q0, hargs, rfl, rfl, h0, r0⟩ := trodAll_cons hA
  obtain ⟨rfl, rfl, rfl⟩ := trodAll_nil r0
  obtain rfl : args = #[v0] := by cases args; simp_all
  obtain ⟨rfl, rfl⟩ := trodVars_none hV
  obtain ⟨a0, len0, cap0, rfl⟩ := okWide_slice Try.underlying29 (hval 0 29 v0 rfl rfl)
  have k0 := h0
  have lt0 : ∀ x ∈ p0, x.block < W.heap.size := by obtain ⟨m, hm⟩ := k0; exact DataW.trod_lt m _ _ _ hm
  obtain ⟨z0, w0⟩ : ∃ zs, IsRow .u8 W a0 len0 cap0 zs := by
    obtain ⟨fuel, hf⟩ := h0
    rcases open_ints Try.underlying29 Try.underlying5 (by kernel_rfl) hf with ⟨hcs, _⟩ | ⟨x, l, c, zs, hcs, _, hl, hm, hz, _, hcell, hwz⟩
    · simp [Value.cells] at hcs
      obtain ⟨rfl, rfl, rfl⟩ := hcs
      exact ⟨[], .inl ⟨rfl, rfl, rfl, rfl⟩⟩
    · simp [Value.cells] at hcs
      obtain ⟨rfl, rfl, rfl⟩ := hcs
      exact ⟨zs, .inr ⟨_, rfl, hl, hm, by simpa using hz, hcell, hwz⟩⟩
  clear hA0 hval0
  refine (walk a0 len0 cap0 z0 W w0).mono fun e W' ⟨he, bel⟩ => ?_
  subst he
  exact ⟨_, rfl, _, _, _, [], _, [], hW', trodAll_mk1 (shut_bool Try.underlying4 _), (trodAll_cons_mk (Below.trod laidOut (by kernel_rfl) (of_decide_eq_true (by kernel_rfl)) k0 bel lt0) trodAll_mk0), rfl, bel.frame _, fun h => by cases h⟩

theorem over : Rows.fnThirdSideRow.holds Try.pinned (OpenSpec.ofChange Rows.fnThirdSideSpec) :=
  OpenClaim.holds_of_wide 10 Try.f10 rfl rfl rfl rfl rfl rfl rfl ⟨rfl, rfl, rfl, rfl, rfl⟩ rfl rfl rfl rfl rfl (by kernel_rfl) Try.func10 (by kernel_rfl)
    (of_decide_eq_true (by kernel_rfl)) (by unfold Func.isWrapper; first | (rw [if_pos (by decide +kernel)]; kernel_rfl) | (rw [if_neg (by decide +kernel)]; exact ⟨rfl, rfl⟩))
    (fun os started H enc _ => lifted os started H enc)

end Go.Proofs.Ytpnccjcgnmhncaa.fnThirdSide
namespace Go.Proofs.Ytpnccjcgnmhncaa

theorem FnThirdSide_holds : Rows.FnThirdSideSaid := fnThirdSide.over

end Go.Proofs.Ytpnccjcgnmhncaa
