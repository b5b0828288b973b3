/-
  FnExactMoved holds: for every two slices the program's Moved answers as the given one, in new memory, and leaves its arguments alone; no condition.
-/
import Derived.Test.YtpnccjcgnmhncaaMark
import Derived.Test.YtpnccjcgnmhncaaArgs
namespace Go.Proofs.Ytpnccjcgnmhncaa.fnExactMoved
open Go.ChangeShapes Go.WideShapes Go.ChangeAt Go.RowKit
open Go.ChangeMaps (open_string shut_string)
set_option linter.unusedVariables false

theorem own : ownKnob Try.prog.godebug = none := by kernel_rfl
theorem laidOut : laidOutB Try.prog = true := by kernel_rfl

/-! ### STEP 1: THE WALK: the Go text returns true, AND WRITES NOTHING THAT WAS THERE: 'Below w.heap.size w w'' (Derived/Below.lean: '.refl', '.alloc', '.drew', '.setCell' at a new block, '.trans'). Open each 'IsRow' by 'rcases' AHEAD of 'go_enter'; part every test ahead of the walk. -/
theorem walk (a0 : Option Addr) (len0 cap0 : Nat) (z0 : List Int) (a1 : Option Addr) (len1 cap1 : Nat) (z1 : List Int) (w : World) (w0 : IsRow .i64 w a0 len0 cap0 z0) (w1 : IsRow .i64 w a1 len1 cap1 z1) :
    Calls Try.prog 8 #[.slice a0 len0 cap0, .slice a1 len1 cap1] w fun e w' => e = .returned (.bool true) ∧ Below w.heap.size w w' := by
  obtain ⟨xs, rfl, hv, hmax⟩ := w0.view
  obtain ⟨ys, rfl, hv', hmax'⟩ := w1.view
  unfold maxLen at hmax hmax'
  by_cases hbig : 1048576 < xs.length
  · go_enter Try.func8, Try.ntmps8
    go_wp2
    go_ret
    exact ⟨rfl, Below.refl _ _⟩
  have hn : xs.length ≤ 1048576 := by omega
  by_cases hbig' : 1048576 < ys.length
  · go_enter Try.func8, Try.ntmps8
    go_wp2
    go_ret
    exact ⟨rfl, Below.refl _ _⟩
  have hn' : ys.length ≤ 1048576 := by omega
  clear hmax hmax' hbig hbig' w0 w1
  have hx : decide (xs = xs) = true := by simp
  have hy : decide (ys = ys) = true := by simp
  obtain ⟨L, hLe⟩ : ∃ L, L = movedL xs ys := ⟨_, rfl⟩
  have hL4 : L.length ≤ 4 := by rw [hLe]; exact moved_short xs ys
  have hl : decide (L = L) = true := by simp
  have HLe := hideP hLe
  clear hLe
  go_enter Try.func8, Try.ntmps8
  go_wp2_with fail
  refine (toS a0 cap0 xs _ hv hn).mono ?_
  rintro e u1 ⟨b1, rfl, o1, hb1, M1⟩
  go_wp2_with fail
  refine (toS a1 cap1 ys _ (hv'.below (Nat.le_refl _) M1) hn').mono ?_
  rintro e u2 ⟨b2, rfl, o2, hb2, L2⟩
  have M2 := chain M1 L2
  go_wp2_with fail
  refine (sMovedL L _ _ _ _ xs ys _ HLe.out (o1.below o1.lt L2).view o2.view hn hn').mono ?_
  rintro e u3 ⟨aS, cS, rfl, hvs, L3⟩
  have M3 := chain M2 L3
  clear M2 L2 M1 o1 o2 hb1 hb2 L3
  go_wp2_with fail
  refine (toS a0 cap0 xs _ (hv.below (Nat.le_refl _) M3) hn).mono ?_
  rintro e u4 ⟨b4, rfl, o4, hb4, L4⟩
  have M4 := chain M3 L4
  go_wp2_with fail
  refine (toS a1 cap1 ys _ (hv'.below (Nat.le_refl _) M4) hn').mono ?_
  rintro e u5 ⟨b5, rfl, o5, hb5, L5⟩
  have M5 := chain M4 L5
  have N5 := chain L4 L5
  have o45 := o4.below o4.lt L5
  have hne45 : b4 ≠ b5 := by have := o4.lt; omega
  go_wp2_with fail
  refine (iMovedL L _ _ _ _ xs ys _ HLe.out o45.view o5.view hn hn').mono ?_
  rintro e u6 ⟨ag, rfl, hg6, L6⟩
  have hz6 := L6.size
  have M6 := chain M5 L6
  have N6 := chain N5 L6
  have o46 := o45.below o45.lt L6
  have o56 := o5.below o5.lt L6
  have hb45 : b4 < u5.heap.size ∧ b5 < u5.heap.size := ⟨o45.lt, o5.lt⟩
  have h35 : u3.heap.size ≤ u5.heap.size := N5.size
  have h34 : u3.heap.size ≤ u4.heap.size := L4.size
  clear o45 o5 L6 M5 M4 o4 L4 L5 N5
  go_wp2_with fail
  refine (eqS _ _ _ _ L L _ hg6.view (hvs.below (Nat.le_refl _) N6) (by omega)).mono ?_
  rintro e u7 ⟨rfl, n7, hw7⟩
  have M7 : Below w.heap.size w u7 := by rw [hw7]; exact below_drewN M6 n7
  have N7 : Below u3.heap.size u3 u7 := by rw [hw7]; exact below_drewN N6 n7
  have o47 : Own u7 b4 xs := by rw [hw7]; exact o46
  have o57 : Own u7 b5 ys := by rw [hw7]; exact o56
  have hg7 : OwnV u5.heap.size u7 ag L := by rw [hw7]; exact hg6
  have hz7 : u5.heap.size ≤ u7.heap.size := by rw [hw7]; exact hz6
  clear hw7 M6 N6 o46 o56 hg6
  go_wp2_with fail
  refine (toS a0 cap0 xs _ (hv.below (Nat.le_refl _) M7) hn).mono ?_
  rintro e u8 ⟨b8, rfl, o8, hb8, L8⟩
  have M8 := chain M7 L8
  have N8 := chain N7 L8
  have o48 := o47.below o47.lt L8
  have o58 := o57.below o57.lt L8
  have hg8 := hg7.below (Nat.le_refl _) L8
  have hz8 := Nat.le_trans hz7 L8.size
  clear M7 N7 o47 o57 hg7 hz7 L8
  go_wp2_with fail
  refine (eqS _ _ _ _ xs xs _ o48.view o8.view hn).mono ?_
  rintro e u9 ⟨rfl, n9, hw9⟩
  have M9 : Below w.heap.size w u9 := by rw [hw9]; exact below_drewN M8 n9
  have N9 : Below u3.heap.size u3 u9 := by rw [hw9]; exact below_drewN N8 n9
  have o49 : Own u9 b4 xs := by rw [hw9]; exact o48
  have o59 : Own u9 b5 ys := by rw [hw9]; exact o58
  have hg9 : OwnV u5.heap.size u9 ag L := by rw [hw9]; exact hg8
  have hz9 : u5.heap.size ≤ u9.heap.size := by rw [hw9]; exact hz8
  clear hw9 M8 N8 o48 o58 hg8 hz8 o8 hb8
  go_wp2_with fail
  refine (toS a1 cap1 ys _ (hv'.below (Nat.le_refl _) M9) hn').mono ?_
  rintro e u10 ⟨b10, rfl, o10, hb10, L10⟩
  have M10 := chain M9 L10
  have N10 := chain N9 L10
  have o410 := o49.below o49.lt L10
  have o510 := o59.below o59.lt L10
  have hg10 := hg9.below (Nat.le_refl _) L10
  have hz10 := Nat.le_trans hz9 L10.size
  clear M9 N9 o49 o59 hg9 hz9 L10
  go_wp2_with fail
  refine (eqS _ _ _ _ ys ys _ o510.view o10.view hn').mono ?_
  rintro e u11 ⟨rfl, n11, hw11⟩
  have M11 : Below w.heap.size w u11 := by rw [hw11]; exact below_drewN M10 n11
  have N11 : Below u3.heap.size u3 u11 := by rw [hw11]; exact below_drewN N10 n11
  have o411 : Own u11 b4 xs := by rw [hw11]; exact o410
  have o511 : Own u11 b5 ys := by rw [hw11]; exact o510
  have hg11 : OwnV u5.heap.size u11 ag L := by rw [hw11]; exact hg10
  have hz11 : u5.heap.size ≤ u11.heap.size := by rw [hw11]; exact hz10
  clear hw11 M10 N10 o410 o510 hg10 hz10 o10 hb10
  go_wp2_with fail
  refine (mark_own b4 1 xs _ o411 hn (by omega) (by omega)).mono ?_
  rintro e u12 ⟨rfl, o412, g12⟩
  have M12 := M11.grown g12 M11.size (fun k hk => by cases hk; have := M3.size; omega)
  have N12 := N11.grown g12 N11.size (fun k hk => by cases hk; exact hb4)
  have o512 := o511.grown g12 (Ne.symm hne45)
  have hg12 := hg11.grown g12 (by omega)
  have hz12 := Nat.le_trans hz11 g12.size
  clear M11 N11 o411 o511 hg11 hz11 g12 o412
  go_wp2_with fail
  refine (mark_own b5 (1 + xs.length) ys _ o512 hn' (by omega) (by omega)).mono ?_
  rintro e u13 ⟨rfl, o513, g13⟩
  have M13 := M12.grown g13 M12.size (fun k hk => by cases hk; have := M3.size; omega)
  have N13 := N12.grown g13 N12.size (fun k hk => by cases hk; omega)
  have hg13 := hg12.grown g13 (by omega)
  have hz13 := Nat.le_trans hz12 g13.size
  clear M12 N12 o512 hg12 hz12 g13 o513
  have hpos : ¬ ((1 : Int) + xs.length + ys.length < 0) := by omega
  go_wp2_with fail
  refine (eqS _ _ _ _ L L _ hg13.view (hvs.below (Nat.le_refl _) N13) (by omega)).mono ?_
  rintro e u14 ⟨rfl, n14, hw14⟩
  have M14 : Below w.heap.size w u14 := by rw [hw14]; exact below_drewN M13 n14
  have N14 : Below u3.heap.size u3 u14 := by rw [hw14]; exact below_drewN N13 n14
  have hg14 : OwnV u5.heap.size u14 ag L := by rw [hw14]; exact hg13
  have hz14 : u5.heap.size ≤ u14.heap.size := by rw [hw14]; exact hz13
  clear hw14 M13 N13 hg13 hz13
  go_wp2_with fail
  refine (markV u5.heap.size ag 1 L _ hg14 hz14 (by omega) (by omega) (by omega)).mono ?_
  rintro e u15 ⟨rfl, hg15, L15⟩
  have M15 := M14.trans (L15.mono (by have := M3.size; omega))
  have N15 := N14.trans (L15.mono h35)
  have hz15 := Nat.le_trans hz14 L15.size
  clear M14 N14 hg14 hz14 L15
  go_wp2_with fail
  refine (heldV u5.heap.size L.length ag 1 _ hg15 (by omega) (by omega) (by omega)).mono ?_
  rintro e u16 ⟨rfl, hw16⟩
  subst hw16
  have hq0 : ¬ ((1 : Int) + L.length < 0) := by omega
  have hq1 : (((1 : Int) + L.length) != (1 + L.length)) = false := by simp
  go_wp2_with fail
  refine (toS a0 cap0 xs _ (hv.below (Nat.le_refl _) M15) hn).mono ?_
  rintro e u17 ⟨b17, rfl, o17, hb17, L17⟩
  have M17 := chain M15 L17
  have N17 := chain N15 L17
  have hg17 := hg15.below (Nat.le_refl _) L17
  clear M15 N15 hg15 L17
  go_wp2_with fail
  refine (toS a1 cap1 ys _ (hv'.below (Nat.le_refl _) M17) hn').mono ?_
  rintro e u18 ⟨b18, rfl, o18, hb18, L18⟩
  have M18 := chain M17 L18
  have N18 := chain N17 L18
  have hg18 := hg17.below (Nat.le_refl _) L18
  have o1718 := o17.below o17.lt L18
  clear M17 N17 hg17 o17 L18
  go_wp2_with fail
  refine (iMovedL L _ _ _ _ xs ys _ HLe.out o1718.view o18.view hn hn').mono ?_
  rintro e u19 ⟨ah, rfl, hh19, L19⟩
  have M19 := chain M18 L19
  have N19 := chain N18 L19
  have hg19 := hg18.below (Nat.le_refl _) L19
  clear M18 N18 hg18 L19 o1718 o18
  go_wp2_with fail
  refine (eqS _ _ _ _ L L _ hh19.view (hvs.below (Nat.le_refl _) N19) (by omega)).mono ?_
  rintro e u20 ⟨rfl, n20, hw20⟩
  have M20 : Below w.heap.size w u20 := by rw [hw20]; exact below_drewN M19 n20
  have hg20 : OwnV u5.heap.size u20 ag (tabL (fun i => 1 + (i : Int)) L.length) := by rw [hw20]; exact hg19
  clear hw20 M19 N19 hg19
  go_wp2_with fail
  refine (heldV u5.heap.size L.length ag 1 _ hg20 (by omega) (by omega) (by omega)).mono ?_
  rintro e u21 ⟨rfl, hw21⟩
  subst hw21
  go_wp2_with fail
  go_ret
  exact ⟨rfl, M20⟩

/-! ### THE ROW's STEP: WRITTEN OUT: LEAVE IT -/
set_option maxRecDepth 100000 in
theorem lifted (os : Os) (started : os.Started) (H : Type) (enc : TypeId × Value → H) :
    ReturnsInHanded {} Try.checked os 8 .any (Rows.fnExactMovedSpec.pre6 enc Try.prog Try.f8 Rows.fnExactMovedRow.domain false) (Rows.fnExactMovedSpec.post enc Try.prog Try.f8 false true false false) := by
  refine returnsInHanded_of_change (C := Try.checked) own started (by kernel_rfl) Try.func8
    (ChangeSpec.witness6 (enc := enc) (C := Try.checked) false ⟨#[], #[.slice none 0 0, .slice none 0 0], []⟩ 8 (by kernel_rfl) (by kernel_rfl) (by kernel_rfl) (by kernel_rfl)) ?_
  intro W base args ds gs before hval0 hW hcnd _
  have hval : ∀ (j : Nat) t v, Try.f8.params[j]? = some t → args[j]? = some v → Value.okWide Try.prog W .any base t v := hval0
  have hW' := hW
  obtain ⟨p, q, hA0, hV, rfl, hfz, hnd⟩ := hW
  have hA : DataW.TrodAll enc Try.prog W 0 (fun _ => true) true Try.f8.params.toList args.toList ds p := hA0
  rw [Try.params8] at hA hval
  obtain ⟨v0, vs0, d0, ds0, p0, q0, hargs, rfl, rfl, h0, r0⟩ := trodAll_cons hA
  obtain ⟨v1, vs1, d1, ds1, p1, q1, rfl, rfl, rfl, h1, r1⟩ := trodAll_cons r0
  obtain ⟨rfl, rfl, rfl⟩ := trodAll_nil r1
  obtain rfl : args = #[v0, v1] := by cases args; simp_all
  obtain ⟨rfl, rfl⟩ := trodVars_none hV
  obtain ⟨a0, len0, cap0, rfl⟩ := okWide_slice Try.underlying22 (hval 0 22 v0 rfl rfl)
  have k0 := h0
  have lt0 : ∀ x ∈ p0, x.block < W.heap.size := by obtain ⟨m, hm⟩ := k0; exact DataW.trod_lt m _ _ _ hm
  obtain ⟨z0, w0⟩ : ∃ zs, IsRow .i64 W a0 len0 cap0 zs := by
    obtain ⟨fuel, hf⟩ := h0
    rcases open_ints Try.underlying22 Try.underlying2 (by kernel_rfl) hf with ⟨hcs, _⟩ | ⟨x, l, c, zs, hcs, _, hl, hm, hz, _, hcell, hwz⟩
    · simp [Value.cells] at hcs
      obtain ⟨rfl, rfl, rfl⟩ := hcs
      exact ⟨[], .inl ⟨rfl, rfl, rfl, rfl⟩⟩
    · simp [Value.cells] at hcs
      obtain ⟨rfl, rfl, rfl⟩ := hcs
      exact ⟨zs, .inr ⟨_, rfl, hl, hm, by simpa using hz, hcell, hwz⟩⟩
  obtain ⟨a1, len1, cap1, rfl⟩ := okWide_slice Try.underlying22 (hval 1 22 v1 rfl rfl)
  have k1 := h1
  have lt1 : ∀ x ∈ p1, x.block < W.heap.size := by obtain ⟨m, hm⟩ := k1; exact DataW.trod_lt m _ _ _ hm
  obtain ⟨z1, w1⟩ : ∃ zs, IsRow .i64 W a1 len1 cap1 zs := by
    obtain ⟨fuel, hf⟩ := h1
    rcases open_ints Try.underlying22 Try.underlying2 (by kernel_rfl) hf with ⟨hcs, _⟩ | ⟨x, l, c, zs, hcs, _, hl, hm, hz, _, hcell, hwz⟩
    · simp [Value.cells] at hcs
      obtain ⟨rfl, rfl, rfl⟩ := hcs
      exact ⟨[], .inl ⟨rfl, rfl, rfl, rfl⟩⟩
    · simp [Value.cells] at hcs
      obtain ⟨rfl, rfl, rfl⟩ := hcs
      exact ⟨zs, .inr ⟨_, rfl, hl, hm, by simpa using hz, hcell, hwz⟩⟩
  clear hA0 hval0
  refine (walk a0 len0 cap0 z0 a1 len1 cap1 z1 W w0 w1).mono fun e W' ⟨he, bel⟩ => ?_
  subst he
  exact ⟨_, rfl, _, _, _, [], _, [], hW', trodAll_mk1 (shut_bool Try.underlying4 _), (trodAll_cons_mk (Below.trod laidOut (by kernel_rfl) (of_decide_eq_true (by kernel_rfl)) k0 bel lt0) (trodAll_cons_mk (Below.trod laidOut (by kernel_rfl) (of_decide_eq_true (by kernel_rfl)) k1 bel lt1) trodAll_mk0)), rfl, bel.frame _, fun h => by cases h⟩

theorem over : Rows.fnExactMovedRow.holds Try.pinned (OpenSpec.ofChange Rows.fnExactMovedSpec) :=
  OpenClaim.holds_of_wide 8 Try.f8 rfl rfl rfl rfl rfl rfl rfl ⟨rfl, rfl, rfl, rfl, rfl⟩ rfl rfl rfl rfl rfl (by kernel_rfl) Try.func8 (by kernel_rfl)
    (of_decide_eq_true (by kernel_rfl)) (by unfold Func.isWrapper; first | (rw [if_pos (by decide +kernel)]; kernel_rfl) | (rw [if_neg (by decide +kernel)]; exact ⟨rfl, rfl⟩))
    (fun os started H enc _ => lifted os started H enc)

end Go.Proofs.Ytpnccjcgnmhncaa.fnExactMoved
namespace Go.Proofs.Ytpnccjcgnmhncaa

theorem FnExactMoved_holds : Rows.FnExactMovedSaid := fnExactMoved.over

end Go.Proofs.Ytpnccjcgnmhncaa
