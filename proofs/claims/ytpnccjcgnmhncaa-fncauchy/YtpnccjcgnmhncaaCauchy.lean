/-
  FnCauchy holds: for every list of bytes Cauchy's law answers true and leaves its argument alone; no condition.
-/
import Derived.Test.YtpnccjcgnmhncaaBytes2
namespace Go.Proofs.Ytpnccjcgnmhncaa.fnCauchy
open Go.ChangeShapes Go.WideShapes Go.ChangeAt Go.RowKit
open Go.ChangeMaps (open_string shut_string)
set_option linter.unusedVariables false

theorem own : ownKnob Try.prog.godebug = none := by kernel_rfl
theorem laidOut : laidOutB Try.prog = true := by kernel_rfl

/-! ### STEP 1: THE WALK: the Go text returns true, AND WRITES NOTHING THAT WAS THERE: 'Below w.heap.size w w'' (Derived/Below.lean: '.refl', '.alloc', '.drew', '.setCell' at a new block, '.trans'). Open each 'IsRow' by 'rcases' AHEAD of 'go_enter'; part every test ahead of the walk. -/
set_option maxRecDepth 100000 in
set_option maxHeartbeats 2000000 in
theorem walk (a0 : Option Addr) (len0 cap0 : Nat) (z0 : List Int) (w : World) (w0 : IsRow .u8 w a0 len0 cap0 z0) :
    Calls Try.prog 9 #[.slice a0 len0 cap0] w fun e w' => e = .returned (.bool true) ∧ Below w.heap.size w w' := by
  obtain ⟨hv, hmax⟩ := w0.code
  unfold maxLen at hmax
  clear w0
  by_cases hbig : 4096 < len0
  · go_enter Try.func9, Try.ntmps9
    go_wp2_with (go_at_call 28; refine (bigC _ _ _ _).mono ?_; rintro e w' ⟨rfl, rfl⟩)
    go_ret
    exact ⟨rfl, Below.refl _ _⟩
  have hn : len0 ≤ 4096 := by omega
  have hbb : decide (4096 < (len0 : Int)) = false := by simp; omega
  clear hmax hbig
  go_enter Try.func9, Try.ntmps9
  go_wp2_with fail
  refine (bigC _ _ _ _).mono ?_
  rintro e wd0 ⟨rfl, hu0⟩
  subst hu0
  rw [hbb]
  go_wp2_with fail
  refine (cDot a0 len0 cap0 _ hv hn).mono ?_
  rintro e wd1 ⟨g, c, xs, g', c', ys, rfl, hl, hl', hx, hy, M1⟩
  have k1 : xs.length ≤ 1048576 := by omega
  have k2 : ys.length ≤ 1048576 := by omega
  go_wp2_with fail
  refine (iDot _ _ _ _ xs ys _ hx hy k1 k2).mono ?_
  rintro e wd2 ⟨rfl, L2⟩
  have M2 := chain M1 L2
  have hx2 := hx.below (Nat.le_refl _) L2
  have hy2 := hy.below (Nat.le_refl _) L2
  clear hx hy L2 M1 hv
  have q1 : (dotV xs ys != dotV xs ys) = false := by simp
  have q2 : (farV xs ys != farV xs ys) = false := by simp
  have q3 : (okB xs != okB xs) = false := by simp
  go_wp2_with fail
  refine (sDot _ _ _ _ xs ys _ hx2 hy2 k1 k2).mono ?_
  rintro e wd3 ⟨rfl, n3, hw3⟩
  have M3 : Below w.heap.size w wd3 := by rw [hw3]; exact below_drewN M2 n3
  have hx3 : View wd3 (some ⟨g, 0, none⟩) xs := by rw [hw3]; exact hx2
  have hy3 : View wd3 (some ⟨g', 0, none⟩) ys := by rw [hw3]; exact hy2
  clear hw3 M2 hx2 hy2
  go_wp2_with fail
  refine (iFar _ _ _ _ xs ys _ hx3 hy3 k1 k2).mono ?_
  rintro e wd4 ⟨rfl, L4⟩
  have M4 := chain M3 L4
  have hx4 := hx3.below (Nat.le_refl _) L4
  have hy4 := hy3.below (Nat.le_refl _) L4
  clear hx3 hy3 L4 M3
  go_wp2_with fail
  refine (sFar _ _ _ _ xs ys _ hx4 hy4 k1 k2).mono ?_
  rintro e wd5 ⟨rfl, n5, hw5⟩
  have M5 : Below w.heap.size w wd5 := by rw [hw5]; exact below_drewN M4 n5
  have hx5 : View wd5 (some ⟨g, 0, none⟩) xs := by rw [hw5]; exact hx4
  have hy5 : View wd5 (some ⟨g', 0, none⟩) ys := by rw [hw5]; exact hy4
  clear hw5 M4 hx4 hy4
  go_wp2_with fail
  refine (iOk _ _ xs _ hx5 k1).mono ?_
  rintro e wd6 ⟨rfl, hw6⟩
  subst hw6
  go_wp2_with fail
  refine (sOk _ _ xs _ hx5 k1).mono ?_
  rintro e wd7 ⟨rfl, hw7⟩
  subst hw7
  go_wp2_with fail
  refine (iFar _ _ _ _ xs ys _ hx5 hy5 k1 k2).mono ?_
  rintro e wd8 ⟨rfl, L8⟩
  have M8 := chain M5 L8
  have hx8 := hx5.below (Nat.le_refl _) L8
  have hy8 := hy5.below (Nat.le_refl _) L8
  clear hx5 hy5 L8 M5 q1 q2 q3
  rcases ht : twoB xs ys with _ | _
  · have e1 : farV xs ys = -1 := by simp [farV, ht]
    have e2 : dotV xs ys = 0 := by simp [dotV, ht]
    rw [e1, e2]
    clear e1 e2
    go_wp2_with fail
    go_ret
    exact ⟨rfl, M8⟩
  obtain ⟨ha, hb, hlen⟩ := twoB_of ht
  have h4 := okB_len ha
  have T := cauchy ht
  obtain ⟨t1, t2, t3, t4, t5, t6, t7, t8, t9, t10, t11⟩ := T
  have HLN := hideP hlen
  have T10 := hideP t10
  have T11 := hideP t11
  have HT := hideP ht
  clear hlen t10 t11 ht
  have hneg : ¬ farV xs ys < 0 := by omega
  have hmk := run_make_row' (P := Try.prog) 22 2 (.int .i64 0) 8 Try.underlying22 Try.info2 rfl .i64 .i64 xs.length (by omega) (by omega)
  go_wp2_with fail
  clear hmk
  obtain ⟨wd9, hu9⟩ : ∃ wd9, wd9 = wd8.alloc (.cells (madeCells #[.int .i64 0] xs.length) 2) := ⟨_, rfl⟩
  rw [← hu9]
  have L9 : Below wd8.heap.size wd8 wd9 := by rw [hu9]; exact (Below.refl _ _).alloc (Nat.le_refl _) _
  have oz : Own wd9 wd8.heap.size (zeros xs.length) := by rw [hu9, made_zeros]; exact Own.new wd8 _
  have M9 := chain M8 L9
  have hx9 := hx8.below (Nat.le_refl _) L9
  have hy9 := hy8.below (Nat.le_refl _) L9
  have hzl : (zeros xs.length).length = xs.length := by simp [zeros, tabL_length]
  have F1 := iFar (some ⟨g, 0, none⟩) (some ⟨wd8.heap.size, 0, none⟩) c xs.length xs (zeros xs.length) wd9 hx9 oz.view k1 (by omega)
  rw [hzl] at F1
  have HF1 := hideP F1
  clear F1 hu9 L9 hx8 hy8 M8
  refine HF1.out.mono ?_
  rintro e wd10 ⟨rfl, L10⟩
  have M10 := chain M9 L10
  have hx10 := hx9.below (Nat.le_refl _) L10
  have hy10 := hy9.below (Nat.le_refl _) L10
  have oz10 := oz.below oz.lt L10
  have F2 := iFar (some ⟨g', 0, none⟩) (some ⟨wd8.heap.size, 0, none⟩) c' xs.length ys (zeros xs.length) wd10 hy10 oz10.view k2 (by omega)
  rw [hzl] at F2
  have HF2 := hideP F2
  clear F2 HF1 L10 hx9 hy9 M9 oz hzl
  go_wp2_with fail
  refine HF2.out.mono ?_
  rintro e wd11 ⟨rfl, L11⟩
  have M11 := chain M10 L11
  have hx11 := hx10.below (Nat.le_refl _) L11
  have hy11 := hy10.below (Nat.le_refl _) L11
  clear HF2 L11 hx10 hy10 M10 oz10
  have sx : Seg wd11 g 0 xs := by
    rcases hx11 with h | ⟨b, off, e, _, h⟩
    · rw [h] at h4; simp at h4
    · cases e; exact h
  have sy : Seg wd11 g' 0 ys := by
    rcases hy11 with h | ⟨b, off, e, _, h⟩
    · have := HLN.out; rw [h] at this; simp at this; rw [this] at h4; simp at h4
    · cases e; exact h
  have c1 : (dotV ys xs == dotV xs ys) = true := by rw [dotV_comm]; simp
  have c2 : ((dotV xs ys * dotV xs ys == farV xs (zeros xs.length) * farV ys (zeros xs.length)) == lineB xs ys xs.length) = true := by
    have := T10.out
    rcases hlb : lineB xs ys xs.length with _ | _
    · rw [hlb] at this; simp at this; simp [this]
    · rw [hlb] at this; simp at this; simp [this]
  have c3 : (farV xs ys == farV xs (zeros xs.length) + farV ys (zeros xs.length) - 2 * dotV xs ys) = true := by simpa using T11.out
  have p1 := mul_bd (x := dotV xs ys) (y := dotV xs ys) (m := 4000000) (by omega) (by omega) (by omega)
  have p2 := mul_bd (x := farV xs (zeros xs.length)) (y := farV ys (zeros xs.length)) (m := 4000000) (by omega) (by omega) (by omega)
  have HC := hideP (And.intro c1 (And.intro c2 c3))
  have HB := hideP (And.intro t9 (And.intro p1 p2))
  clear c1 c2 c3 T10 T11 p1 p2 t9
  go_wp2_with fail
  go_loopw [9, 10] (fun ln i wr => ∃ k : Nat, k ≤ xs.length ∧ i = .int .i64 k ∧ ln = .bool (lineB xs ys k) ∧ ∃ m, wr = wd11.drewN m) (fun _ i _ => xs.length - (intOf i).toNat)
  case atStart => exact ⟨0, Nat.zero_le _, rfl, rfl, 0, rfl⟩
  case round =>
    obtain ⟨i, hi, rfl, rfl, hm⟩ := hrel
    have HM := hideP hm
    clear hm
    by_cases hlt : i < xs.length
    · have e0 : lineB xs ys i = (lineB xs ys i && rowB xs ys i 0) := by simp [rowB]
      rw [e0]
      clear e0
      have hbi := okB_at ha i
      have hbi' := okB_at hb i
      have hlt' : i < ys.length := by have := HLN.out; omega
      go_wp2_with fail
      go_loopw [9, 11] (fun ln j wr => ∃ k : Nat, k ≤ i ∧ j = .int .i64 k ∧ ln = .bool (lineB xs ys i && rowB xs ys i k) ∧ ∃ m, wr = wd11.drewN m) (fun _ j _ => i - (intOf j).toNat)
      case atStart => exact ⟨0, Nat.zero_le _, rfl, rfl, HM.out⟩
      case round =>
        obtain ⟨k, hk, rfl, rfl, hm2⟩ := hrel
        have HM2 := hideP hm2
        clear hm2
        by_cases hki : k < i
        · have hbk := okB_at ha k
          have hbk' := okB_at hb k
          have hk1 : k < xs.length := by omega
          have hk2 : k < ys.length := by omega
          have cxi : wr.cell? ⟨g, i, none⟩ = some (.int .i64 (nth xs i)) := by obtain ⟨m, hm⟩ := HM2.out; rw [hm]; exact sx.at i hlt
          have cyi : wr.cell? ⟨g', i, none⟩ = some (.int .i64 (nth ys i)) := by obtain ⟨m, hm⟩ := HM2.out; rw [hm]; exact sy.at i hlt'
          have cxk : wr.cell? ⟨g, k, none⟩ = some (.int .i64 (nth xs k)) := by obtain ⟨m, hm⟩ := HM2.out; rw [hm]; exact sx.at k hk1
          have cyk : wr.cell? ⟨g', k, none⟩ = some (.int .i64 (nth ys k)) := by obtain ⟨m, hm⟩ := HM2.out; rw [hm]; exact sy.at k hk2
          have m1 := mul_bd (x := nth xs i) (y := nth ys k) (m := 1000) (by omega) (by omega) (by omega)
          have m2 := mul_bd (x := nth xs k) (y := nth ys i) (m := 1000) (by omega) (by omega) (by omega)
          have HN : Hid ((lineB xs ys i && rowB xs ys i (k + 1)) = ((lineB xs ys i && rowB xs ys i k) && (nth xs i * nth ys k == nth xs k * nth ys i))) := by
            show _ = _
            rw [Bool.and_assoc]; rfl
          have r1 : IntKind.i64.wrap (nth xs i * nth ys k) = nth xs i * nth ys k := IntWalk.i64_in _ ⟨by omega, by omega⟩
          have r2 : IntKind.i64.wrap (nth xs k * nth ys i) = nth xs k * nth ys i := IntWalk.i64_in _ ⟨by omega, by omega⟩
          generalize hLn : (lineB xs ys i && rowB xs ys i k) = Ln at *
          clear hLn
          cases Ln with
          | true =>
            go_wp2
            go_quiet (fail)
            go_wp2
            go_roundw
            case rel => exact ⟨k + 1, by omega, by go_num, by rw [HN.out]; simp, by obtain ⟨m, hm⟩ := HM2.out; exact ⟨m + nq, by rw [hm]; simp⟩⟩
            case measure => simp [intOf]; omega
          | false =>
            go_wp2
            go_quiet (fail)
            go_wp2
            go_roundw
            case rel => exact ⟨k + 1, by omega, by go_num, by rw [HN.out]; simp, by obtain ⟨m, hm⟩ := HM2.out; exact ⟨m + nq, by rw [hm]; simp⟩⟩
            case measure => simp [intOf]; omega
        · have hke : k = i := by omega
          have HN : Hid (lineB xs ys (i + 1) = (lineB xs ys i && rowB xs ys i k)) := by show _ = _; rw [hke]; rfl
          clear hke
          go_wp2
          go_roundw
          case rel => exact ⟨i + 1, by omega, by go_num, by rw [HN.out], HM2.out⟩
          case measure => simp [intOf]; omega
    · obtain rfl : i = xs.length := by omega
      obtain ⟨⟨c1, c2, c3⟩, t9, p1, p2⟩ := And.intro HC.out HB.out
      have hx12 : View wr (some ⟨g, 0, none⟩) xs := by obtain ⟨m, hm⟩ := HM.out; rw [hm]; exact hx11
      have hy12 : View wr (some ⟨g', 0, none⟩) ys := by obtain ⟨m, hm⟩ := HM.out; rw [hm]; exact hy11
      have M12 : Below w.heap.size w wr := by obtain ⟨m, hm⟩ := HM.out; rw [hm]; exact below_drewN M11 m
      clear HM HC HB
      generalize lineB xs ys xs.length = Ln at *
      go_wp2_with fail
      refine (iDot _ _ _ _ ys xs _ hy12 hx12 k2 k1).mono ?_
      rintro e wd13 ⟨rfl, L13⟩
      have M13 := chain M12 L13
      have hx13 := hx12.below (Nat.le_refl _) L13
      have hy13 := hy12.below (Nat.le_refl _) L13
      go_wp2_with fail
      refine (iFar _ _ _ _ xs ys _ hx13 hy13 k1 k2).mono ?_
      rintro e wd14 ⟨rfl, L14⟩
      have M14 := chain M13 L14
      go_wp2_with fail
      go_ret
      exact ⟨ret_bool (by simp), M14⟩

/-! ### THE ROW's STEP: WRITTEN OUT: LEAVE IT -/
set_option maxRecDepth 100000 in
theorem lifted (os : Os) (started : os.Started) (H : Type) (enc : TypeId × Value → H) :
    ReturnsInHanded {} Try.checked os 9 .any (Rows.fnCauchySpec.pre6 enc Try.prog Try.f9 Rows.fnCauchyRow.domain false) (Rows.fnCauchySpec.post enc Try.prog Try.f9 false true false false) := by
  refine returnsInHanded_of_change (C := Try.checked) own started (by kernel_rfl) Try.func9
    (ChangeSpec.witness6 (enc := enc) (C := Try.checked) false ⟨#[], #[.slice none 0 0], []⟩ 8 (by kernel_rfl) (by kernel_rfl) (by kernel_rfl) (by kernel_rfl)) ?_
  intro W base args ds gs before hval0 hW hcnd _
  have hval : ∀ (j : Nat) t v, Try.f9.params[j]? = some t → args[j]? = some v → Value.okWide Try.prog W .any base t v := hval0
  have hW' := hW
  obtain ⟨p, q, hA0, hV, rfl, hfz, hnd⟩ := hW
  have hA : DataW.TrodAll enc Try.prog W 0 (fun _ => true) true Try.f9.params.toList args.toList ds p := hA0
  rw [Try.params9] at hA hval
  obtain ⟨v0, vs0, d0, ds0, p0, q0, hargs, rfl, rfl, h0, r0⟩ := trodAll_cons hA
  obtain ⟨rfl, rfl, rfl⟩ := trodAll_nil r0
  obtain rfl : args = #[v0] := by cases args; simp_all
  obtain ⟨rfl, rfl⟩ := trodVars_none hV
  obtain ⟨a0, len0, cap0, rfl⟩ := okWide_slice Try.underlying29 (hval 0 29 v0 rfl rfl)
  have k0 := h0
  have lt0 : ∀ x ∈ p0, x.block < W.heap.size := by obtain ⟨m, hm⟩ := k0; exact DataW.trod_lt m _ _ _ hm
  obtain ⟨z0, w0⟩ : ∃ zs, IsRow .u8 W a0 len0 cap0 zs := by
    obtain ⟨fuel, hf⟩ := h0
    rcases open_ints Try.underlying29 Try.underlying5 (by kernel_rfl) hf with ⟨hcs, _⟩ | ⟨x, l, c, zs, hcs, _, hl, hm, hz, _, hcell, hwz⟩
    · simp [Value.cells] at hcs
      obtain ⟨rfl, rfl, rfl⟩ := hcs
      exact ⟨[], .inl ⟨rfl, rfl, rfl, rfl⟩⟩
    · simp [Value.cells] at hcs
      obtain ⟨rfl, rfl, rfl⟩ := hcs
      exact ⟨zs, .inr ⟨_, rfl, hl, hm, by simpa using hz, hcell, hwz⟩⟩
  clear hA0 hval0
  refine (walk a0 len0 cap0 z0 W w0).mono fun e W' ⟨he, bel⟩ => ?_
  subst he
  exact ⟨_, rfl, _, _, _, [], _, [], hW', trodAll_mk1 (shut_bool Try.underlying4 _), (trodAll_cons_mk (Below.trod laidOut (by kernel_rfl) (of_decide_eq_true (by kernel_rfl)) k0 bel lt0) trodAll_mk0), rfl, bel.frame _, fun h => by cases h⟩

theorem over : Rows.fnCauchyRow.holds Try.pinned (OpenSpec.ofChange Rows.fnCauchySpec) :=
  OpenClaim.holds_of_wide 9 Try.f9 rfl rfl rfl rfl rfl rfl rfl ⟨rfl, rfl, rfl, rfl, rfl⟩ rfl rfl rfl rfl rfl (by kernel_rfl) Try.func9 (by kernel_rfl)
    (of_decide_eq_true (by kernel_rfl)) (by unfold Func.isWrapper; first | (rw [if_pos (by decide +kernel)]; kernel_rfl) | (rw [if_neg (by decide +kernel)]; exact ⟨rfl, rfl⟩))
    (fun os started H enc _ => lifted os started H enc)

end Go.Proofs.Ytpnccjcgnmhncaa.fnCauchy
namespace Go.Proofs.Ytpnccjcgnmhncaa

theorem FnCauchy_holds : Rows.FnCauchySaid := fnCauchy.over

end Go.Proofs.Ytpnccjcgnmhncaa
