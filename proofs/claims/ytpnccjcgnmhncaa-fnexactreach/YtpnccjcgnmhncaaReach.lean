/-
  FnExactReach holds: for every two slices the program's Reach answers as the given one and leaves its arguments alone; no condition.
-/
import Derived.Test.YtpnccjcgnmhncaaImpl
import Derived.Test.YtpnccjcgnmhncaaArgs
namespace Go.Proofs.Ytpnccjcgnmhncaa.fnExactReach
open Go.ChangeShapes Go.WideShapes Go.ChangeAt Go.RowKit
open Go.ChangeMaps (open_string shut_string)
set_option linter.unusedVariables false

theorem own : ownKnob Try.prog.godebug = none := by kernel_rfl
theorem laidOut : laidOutB Try.prog = true := by kernel_rfl

/-! ### STEP 1: THE WALK: the Go text returns true, AND WRITES NOTHING THAT WAS THERE: 'Below w.heap.size w w'' (Derived/Below.lean: '.refl', '.alloc', '.drew', '.setCell' at a new block, '.trans'). Open each 'IsRow' by 'rcases' AHEAD of 'go_enter'; part every test ahead of the walk. -/
theorem walk (a0 : Option Addr) (len0 cap0 : Nat) (z0 : List Int) (a1 : Option Addr) (len1 cap1 : Nat) (z1 : List Int) (w : World) (w0 : IsRow .i64 w a0 len0 cap0 z0) (w1 : IsRow .i64 w a1 len1 cap1 z1) :
    Calls Try.prog 7 #[.slice a0 len0 cap0, .slice a1 len1 cap1] w fun e w' => e = .returned (.bool true) ∧ Below w.heap.size w w' := by
  obtain ⟨xs, rfl, hv, hmax⟩ := w0.view
  obtain ⟨ys, rfl, hv', hmax'⟩ := w1.view
  unfold maxLen at hmax hmax'
  by_cases hbig : 1048576 < xs.length
  · go_enter Try.func7, Try.ntmps7
    go_wp2
    go_ret
    exact ⟨rfl, Below.refl _ _⟩
  have hn : xs.length ≤ 1048576 := by omega
  by_cases hbig' : 1048576 < ys.length
  · go_enter Try.func7, Try.ntmps7
    go_wp2
    go_ret
    exact ⟨rfl, Below.refl _ _⟩
  have hn' : ys.length ≤ 1048576 := by omega
  clear hmax hmax' hbig hbig' w0 w1
  go_enter Try.func7, Try.ntmps7
  go_wp2_with fail
  refine (toS a0 cap0 xs _ hv hn).mono ?_
  rintro e u1 ⟨b1, rfl, o1, hb1, M1⟩
  go_wp2_with fail
  refine (toS a1 cap1 ys _ (hv'.below (Nat.le_refl _) M1) hn').mono ?_
  rintro e u2 ⟨b2, rfl, o2, hb2, L2⟩
  have M2 := chain M1 L2
  go_wp2_with fail
  refine (sReach _ _ _ _ xs ys _ (o1.below o1.lt L2).view o2.view hn hn').mono ?_
  rintro e u3 ⟨rfl, n3, rfl⟩
  have M3 := below_drewN M2 n3
  clear M2 L2 M1 o1 o2 hb1 hb2
  generalize u2.drewN n3 = u3 at *
  go_wp2_with fail
  refine (toS a0 cap0 xs _ (hv.below (Nat.le_refl _) M3) hn).mono ?_
  rintro e u4 ⟨b4, rfl, o4, hb4, L4⟩
  have M4 := chain M3 L4
  go_wp2_with fail
  refine (toS a1 cap1 ys _ (hv'.below (Nat.le_refl _) M4) hn').mono ?_
  rintro e u5 ⟨b5, rfl, o5, hb5, L5⟩
  have M5 := chain M4 L5
  have o45 := o4.below o4.lt L5
  clear o4 L4 L5
  go_wp2_with fail
  refine (iReach _ _ _ _ xs ys _ o45.view o5.view hn hn').mono ?_
  rintro e u6 ⟨rfl, L6⟩
  have M6 := chain M5 L6
  have o46 := o45.below o45.lt L6
  have o56 := o5.below o5.lt L6
  clear o45 o5 L6 M5 M4 M3
  have hne : (reachV xs ys != reachV xs ys) = false := by simp
  generalize reachV xs ys = r at *
  go_wp2_with fail
  refine (toS a0 cap0 xs _ (hv.below (Nat.le_refl _) M6) hn).mono ?_
  rintro e u7 ⟨b7, rfl, o7, hb7, L7⟩
  have M7 := chain M6 L7
  have o47 := o46.below o46.lt L7
  have o57 := o56.below o56.lt L7
  clear o46 o56
  go_wp2_with fail
  refine (eqS _ _ _ _ xs xs _ o47.view o7.view hn).mono ?_
  rintro e u8 ⟨rfl, n8, rfl⟩
  have hx : decide (xs = xs) = true := by simp
  have hy : decide (ys = ys) = true := by simp
  have M8 := below_drewN M7 n8
  have o58 := o57.drewN n8
  clear o47 o57 o7 L7 M7 M6
  generalize u7.drewN n8 = u8 at *
  go_wp2_with fail
  refine (toS a1 cap1 ys _ (hv'.below (Nat.le_refl _) M8) hn').mono ?_
  rintro e u9 ⟨b9, rfl, o9, hb9, L9⟩
  go_wp2_with fail
  refine (eqS _ _ _ _ ys ys _ (o58.below o58.lt L9).view o9.view hn').mono ?_
  rintro e u10 ⟨rfl, n10, rfl⟩
  go_wp2_with fail
  go_ret
  exact ⟨rfl, below_drewN (chain M8 L9) _⟩

/-! ### THE ROW's STEP: WRITTEN OUT: LEAVE IT -/
set_option maxRecDepth 100000 in
theorem lifted (os : Os) (started : os.Started) (H : Type) (enc : TypeId × Value → H) :
    ReturnsInHanded {} Try.checked os 7 .any (Rows.fnExactReachSpec.pre6 enc Try.prog Try.f7 Rows.fnExactReachRow.domain false) (Rows.fnExactReachSpec.post enc Try.prog Try.f7 false true false false) := by
  refine returnsInHanded_of_change (C := Try.checked) own started (by kernel_rfl) Try.func7
    (ChangeSpec.witness6 (enc := enc) (C := Try.checked) false ⟨#[], #[.slice none 0 0, .slice none 0 0], []⟩ 8 (by kernel_rfl) (by kernel_rfl) (by kernel_rfl) (by kernel_rfl)) ?_
  intro W base args ds gs before hval0 hW hcnd _
  have hval : ∀ (j : Nat) t v, Try.f7.params[j]? = some t → args[j]? = some v → Value.okWide Try.prog W .any base t v := hval0
  have hW' := hW
  obtain ⟨p, q, hA0, hV, rfl, hfz, hnd⟩ := hW
  have hA : DataW.TrodAll enc Try.prog W 0 (fun _ => true) true Try.f7.params.toList args.toList ds p := hA0
  rw [Try.params7] at hA hval
  obtain ⟨v0, vs0, d0, ds0, p0, q0, hargs, rfl, rfl, h0, r0⟩ := trodAll_cons hA
  obtain ⟨v1, vs1, d1, ds1, p1, q1, rfl, rfl, rfl, h1, r1⟩ := trodAll_cons r0
  obtain ⟨rfl, rfl, rfl⟩ := trodAll_nil r1
  obtain rfl : args = #[v0, v1] := by cases args; simp_all
  obtain ⟨rfl, rfl⟩ := trodVars_none hV
  obtain ⟨a0, len0, cap0, rfl⟩ := okWide_slice Try.underlying22 (hval 0 22 v0 rfl rfl)
  have k0 := h0
  have lt0 : ∀ x ∈ p0, x.block < W.heap.size := by obtain ⟨m, hm⟩ := k0; exact DataW.trod_lt m _ _ _ hm
  obtain ⟨z0, w0⟩ : ∃ zs, IsRow .i64 W a0 len0 cap0 zs := by
    obtain ⟨fuel, hf⟩ := h0
    rcases open_ints Try.underlying22 Try.underlying2 (by kernel_rfl) hf with ⟨hcs, _⟩ | ⟨x, l, c, zs, hcs, _, hl, hm, hz, _, hcell, hwz⟩
    · simp [Value.cells] at hcs
      obtain ⟨rfl, rfl, rfl⟩ := hcs
      exact ⟨[], .inl ⟨rfl, rfl, rfl, rfl⟩⟩
    · simp [Value.cells] at hcs
      obtain ⟨rfl, rfl, rfl⟩ := hcs
      exact ⟨zs, .inr ⟨_, rfl, hl, hm, by simpa using hz, hcell, hwz⟩⟩
  obtain ⟨a1, len1, cap1, rfl⟩ := okWide_slice Try.underlying22 (hval 1 22 v1 rfl rfl)
  have k1 := h1
  have lt1 : ∀ x ∈ p1, x.block < W.heap.size := by obtain ⟨m, hm⟩ := k1; exact DataW.trod_lt m _ _ _ hm
  obtain ⟨z1, w1⟩ : ∃ zs, IsRow .i64 W a1 len1 cap1 zs := by
    obtain ⟨fuel, hf⟩ := h1
    rcases open_ints Try.underlying22 Try.underlying2 (by kernel_rfl) hf with ⟨hcs, _⟩ | ⟨x, l, c, zs, hcs, _, hl, hm, hz, _, hcell, hwz⟩
    · simp [Value.cells] at hcs
      obtain ⟨rfl, rfl, rfl⟩ := hcs
      exact ⟨[], .inl ⟨rfl, rfl, rfl, rfl⟩⟩
    · simp [Value.cells] at hcs
      obtain ⟨rfl, rfl, rfl⟩ := hcs
      exact ⟨zs, .inr ⟨_, rfl, hl, hm, by simpa using hz, hcell, hwz⟩⟩
  clear hA0 hval0
  refine (walk a0 len0 cap0 z0 a1 len1 cap1 z1 W w0 w1).mono fun e W' ⟨he, bel⟩ => ?_
  subst he
  exact ⟨_, rfl, _, _, _, [], _, [], hW', trodAll_mk1 (shut_bool Try.underlying4 _), (trodAll_cons_mk (Below.trod laidOut (by kernel_rfl) (of_decide_eq_true (by kernel_rfl)) k0 bel lt0) (trodAll_cons_mk (Below.trod laidOut (by kernel_rfl) (of_decide_eq_true (by kernel_rfl)) k1 bel lt1) trodAll_mk0)), rfl, bel.frame _, fun h => by cases h⟩

theorem over : Rows.fnExactReachRow.holds Try.pinned (OpenSpec.ofChange Rows.fnExactReachSpec) :=
  OpenClaim.holds_of_wide 7 Try.f7 rfl rfl rfl rfl rfl rfl rfl ⟨rfl, rfl, rfl, rfl, rfl⟩ rfl rfl rfl rfl rfl (by kernel_rfl) Try.func7 (by kernel_rfl)
    (of_decide_eq_true (by kernel_rfl)) (by unfold Func.isWrapper; first | (rw [if_pos (by decide +kernel)]; kernel_rfl) | (rw [if_neg (by decide +kernel)]; exact ⟨rfl, rfl⟩))
    (fun os started H enc _ => lifted os started H enc)

end Go.Proofs.Ytpnccjcgnmhncaa.fnExactReach
namespace Go.Proofs.Ytpnccjcgnmhncaa

theorem FnExactReach_holds : Rows.FnExactReachSaid := fnExactReach.over

end Go.Proofs.Ytpnccjcgnmhncaa
