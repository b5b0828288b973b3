/-
  FnMoved holds: for every list of bytes the law of moving answers true and leaves its argument alone; no condition.
-/
import Derived.Test.YtpnccjcgnmhncaaBytes
import Derived.Test.YtpnccjcgnmhncaaLike
import Derived.Test.YtpnccjcgnmhncaaShift
namespace Go.Proofs.Ytpnccjcgnmhncaa.fnMoved
open Go.ChangeShapes Go.WideShapes Go.ChangeAt Go.RowKit
open Go.ChangeMaps (open_string shut_string)
set_option linter.unusedVariables false

theorem own : ownKnob Try.prog.godebug = none := by kernel_rfl
theorem laidOut : laidOutB Try.prog = true := by kernel_rfl

/-! ### STEP 1: THE WALK: the Go text returns true, AND WRITES NOTHING THAT WAS THERE: 'Below w.heap.size w w'' (Derived/Below.lean: '.refl', '.alloc', '.drew', '.setCell' at a new block, '.trans'). Open each 'IsRow' by 'rcases' AHEAD of 'go_enter'; part every test ahead of the walk. -/
set_option maxRecDepth 100000 in
set_option maxHeartbeats 2000000 in
theorem walk (a0 : Option Addr) (len0 cap0 : Nat) (z0 : List Int) (w : World) (w0 : IsRow .u8 w a0 len0 cap0 z0) :
    Calls Try.prog 11 #[.slice a0 len0 cap0] w fun e w' => e = .returned (.bool true) ∧ Below w.heap.size w w' := by
  obtain ⟨hv, hmax⟩ := w0.code
  unfold maxLen at hmax
  clear w0
  by_cases hbig : 4096 < len0
  · go_enter Try.func11, Try.ntmps11
    go_wp2_with (go_at_call 28; refine (bigC _ _ _ _).mono ?_; rintro e w' ⟨rfl, rfl⟩)
    go_ret
    exact ⟨rfl, Below.refl _ _⟩
  have hn : len0 ≤ 4096 := by omega
  have hbb : decide (4096 < (len0 : Int)) = false := by simp; omega
  clear hmax hbig
  obtain ⟨i0, hi0, hz0, hz1, hz2⟩ := info_parts Try.info2
  go_enter Try.func11, Try.ntmps11
  go_wp2_with fail
  refine (bigC _ _ _ _).mono ?_
  rintro e wd0 ⟨rfl, hu0⟩
  subst hu0
  rw [hbb]
  go_wp2_with fail
  refine (cMoved a0 len0 cap0 _ hv hn).mono ?_
  rintro e wd1 ⟨g, c, xs, g', c', ys, rfl, hl, hl', hx, hy, M1⟩
  have k1 : xs.length ≤ 1048576 := by omega
  have k2 : ys.length ≤ 1048576 := by omega
  obtain ⟨L, hLe⟩ : ∃ L, L = movedL xs ys := ⟨_, rfl⟩
  have hL4 : L.length ≤ 4 := by rw [hLe]; exact moved_short xs ys
  have hll : decide (L = L) = true := by simp
  have HLe := hideP hLe
  clear hLe
  go_wp2_with fail
  refine (iMovedL L _ _ _ _ xs ys _ HLe.out hx hy k1 k2).mono ?_
  rintro e wd2 ⟨aM, rfl, hoM, L2⟩
  have M2 := chain M1 L2
  have hm2 := hoM.view
  have hx2 := hx.below (Nat.le_refl _) L2
  have hy2 := hy.below (Nat.le_refl _) L2
  clear hx hy L2 M1 hoM
  go_wp2_with fail
  refine (sMovedL L _ _ _ _ xs ys _ HLe.out hx2 hy2 k1 k2).mono ?_
  rintro e wd3 ⟨aS, cS, rfl, hs3, L3⟩
  have M3 := chain M2 L3
  have hm3 := hm2.below (Nat.le_refl _) L3
  have hx3 := hx2.below (Nat.le_refl _) L3
  have hy3 := hy2.below (Nat.le_refl _) L3
  clear hx2 hy2 hm2 L3 M2
  go_wp2_with fail
  refine (likeS _ _ _ _ L L _ hm3 hs3 (by omega)).mono ?_
  rintro e wd4 ⟨rfl, n4, hw4⟩
  have M4 : Below w.heap.size w wd4 := by rw [hw4]; exact below_drewN M3 n4
  have hm4 : View wd4 aM L := by rw [hw4]; exact hm3
  have hx4 : View wd4 (some ⟨g, 0, none⟩) xs := by rw [hw4]; exact hx3
  have hy4 : View wd4 (some ⟨g', 0, none⟩) ys := by rw [hw4]; exact hy3
  clear hw4 M3 hx3 hy3 hm3 hs3
  by_cases hL0 : L.length = 0
  · have hb0 : ((L.length : Int) == 0) = true := by simp [hL0]
    have H0 := hideP hL0
    clear hL0
    go_wp2_with fail
    go_ret
    exact ⟨rfl, M4⟩
  have hb0 : ((L.length : Int) == 0) = false := beq_eq_false_iff_ne.2 (by omega)
  have hLne : movedL xs ys ≠ [] := by intro h; apply hL0; rw [HLe.out, h]; rfl
  clear hL0
  have ht := (moved_some hLne).1
  obtain ⟨ha, hb, hlen⟩ := twoB_of ht
  have h4 := okB_len hb
  have HLN := hideP hlen
  have HNE := hideP hLne
  have hcode4 := hv.below (Nat.le_refl _) M4
  clear hlen ht hLne
  go_wp2_with fail
  refine (pointC a0 len0 cap0 xs.length 5 _ hcode4 hn (by omega) (by omega) hl).mono ?_
  rintro e wd5 ⟨gc, cc, zs, rfl, hlz, hzs, hz5, L5⟩
  have M5 := chain M4 L5
  have hm5 := hm4.below (Nat.le_refl _) L5
  have hx5 := hx4.below (Nat.le_refl _) L5
  have hy5 := hy4.below (Nat.le_refl _) L5
  have k3 : zs.length ≤ 1048576 := by omega
  clear hx4 hy4 hm4 L5 M4 hzs hcode4 hlz
  obtain ⟨X, hXe⟩ : ∃ X, X = movedL xs zs := ⟨_, rfl⟩
  obtain ⟨Y, hYe⟩ : ∃ Y, Y = movedL ys zs := ⟨_, rfl⟩
  have hX4 : X.length ≤ 4 := by rw [hXe]; exact moved_short xs zs
  have hY4 : Y.length ≤ 4 := by rw [hYe]; exact moved_short ys zs
  have HX := hideP hXe
  have HY := hideP hYe
  clear hXe hYe
  go_wp2_with fail
  refine (iMovedL X _ _ _ _ xs zs _ HX.out hx5 hz5 k1 k3).mono ?_
  rintro e wd6 ⟨aX, rfl, hoX, L6⟩
  have M6 := chain M5 L6
  have hX6 := hoX.view
  have hm6 := hm5.below (Nat.le_refl _) L6
  have hx6 := hx5.below (Nat.le_refl _) L6
  have hy6 := hy5.below (Nat.le_refl _) L6
  have hz6 := hz5.below (Nat.le_refl _) L6
  clear hx5 hy5 hm5 hz5 L6 M5 hoX
  go_wp2_with fail
  refine (iMovedL Y _ _ _ _ ys zs _ HY.out hy6 hz6 k2 k3).mono ?_
  rintro e wd7 ⟨aY, rfl, hoY, L7⟩
  have M7 := chain M6 L7
  have hY7 := hoY.view
  have hX7 := hX6.below (Nat.le_refl _) L7
  have hm7 := hm6.below (Nat.le_refl _) L7
  have hx7 := hx6.below (Nat.le_refl _) L7
  have hy7 := hy6.below (Nat.le_refl _) L7
  clear hx6 hy6 hm6 hz6 hX6 L7 M6 hoY
  have sy : Seg wd7 g' 0 ys ∧ g' < wd7.heap.size := by
    rcases hy7 with h | ⟨b, off, e, hlt, h⟩
    · rw [h] at h4; simp at h4
    · cases e; exact ⟨h, hlt⟩
  go_wp2_with fail
  go_loopw [9, 10] (fun v i wr => ∃ (k gb cb : Nat), k ≤ ys.length ∧ i = .int .i64 k ∧ v = .slice (some ⟨gb, 0, none⟩) k cb ∧ wr.ownsRow wd7.heap.size 2 1 v k ((tabL (fun i => - nth ys i) k).map (Value.int .i64)) ∧ Below wd7.heap.size wd7 wr) (fun _ i _ => ys.length - (intOf i).toNat)
  case atStart =>
    exact ⟨0, wd7.heap.size, 0, Nat.zero_le _, rfl, rfl, World.ownsRow_lit wd7 #[] 0 (Nat.le_refl _) (Nat.zero_le _) rfl, (Below.refl _ _).alloc (Nat.le_refl _) _⟩
  case round =>
    obtain ⟨k, gb, cb, hk, rfl, rfl, hown, LB⟩ := hrel
    have hzB := LB.size
    by_cases hlt : k < ys.length
    · have hcy : wr.cell? ⟨g', k, none⟩ = some (.int .i64 (nth ys k)) := (LB.cell (p := ⟨g', k, none⟩) sy.2).trans (sy.1.at k hlt)
      have hby := okB_at hb k
      have hgl := hown.lt gb rfl
      have HN : Hid (tabL (fun i => - nth ys i) (k + 1) = tabL (fun i => - nth ys i) k ++ [- nth ys k]) := tabL_succ _ _
      go_wp2_with (at_builtin; refine wpList_append_lies _ rfl (.tmp 47) (.tmp 53) 22 rfl wd7.heap.size 2 i0 _ 1 8 Try.underlying22 hi0 hz0 hz1 hz2 rfl (by omega) (.slice (some ⟨gb, 0, none⟩) k cb) k ((tabL (fun i => - nth ys i) k).map (Value.int .i64)) rfl (World.ownsRow.alloc hown _) ⟨wr.heap.size, 0, none⟩ 1 1 [.int .i64 (- nth ys k)] rfl rfl (World.news_of_block (cs := #[.int .i64 (- nth ys k)]) (t := 2) (fr := (0, 0)) (heap_alloc_new wr _)) (by simp [Value.oneCell']) (by omega) (by unfold maxLen; omega) (by omega) (by simp; omega) (wr.heap.size + 1) (by simp) ?_; intro gg ck w2 hown2 hgrow hat hlt1)
      go_wp2
      go_roundw
      case rel =>
        refine ⟨k + 1, gg, ck, by omega, by go_num, rfl, ?_, ?_⟩
        · rw [HN.out, List.map_append]; exact hown2
        · exact (LB.alloc hzB _).grown hgrow (by simp; omega) (by intro q hq; simp [Value.ownBlock] at hq; omega)
      case measure => simp [intOf]; omega
    · obtain rfl : k = ys.length := by omega
      have hvB := own_view hown
      have hlB : (tabL (fun i => - nth ys i) ys.length).length = ys.length := tabL_length _ _
      have M8 := chain M7 LB
      have hm8 := hm7.below (Nat.le_refl _) LB
      have hx8 := hx7.below (Nat.le_refl _) LB
      have hy8 := hy7.below (Nat.le_refl _) LB
      have hX8 := hX7.below (Nat.le_refl _) LB
      have hY8 := hY7.below (Nat.le_refl _) LB
      have hback := moved_back (c := tabL (fun i => - nth ys i) ys.length) HNE.out hlB (fun i hi => tabL_getD _ _ _ hi)
      have HBK := hideP hback
      clear hback hown LB hm7 hx7 hy7 hX7 hY7 M7 sy
      by_cases hXY : 0 < X.length ∧ 0 < Y.length
      · obtain ⟨hX0, hY0⟩ := hXY
        have hX0' : (0 : Int) < (X.length : Int) := by omega
        have hY0' : (0 : Int) < (Y.length : Int) := by omega
        obtain ⟨f1, f2, f3⟩ := moved_alike (a := xs) (b := ys) (c := zs) (by intro h; rw [HX.out, h] at hX0; simp at hX0) (by intro h; rw [HY.out, h] at hY0; simp at hY0)
        rw [← HX.out, ← HY.out] at f1 f2 f3
        have d1 : (farV X Y != farV xs ys) = false := by simp [f1]
        have d2 : (stepsV X Y != stepsV xs ys) = false := by simp [f2]
        have d3 : (reachV X Y != reachV xs ys) = false := by simp [f3]
        clear f1 f2 f3 hX0 hY0
        go_wp2_with fail
        refine (iFar _ _ _ _ X Y _ hX8 hY8 (by omega) (by omega)).mono ?_
        rintro e wd9 ⟨rfl, L9⟩
        have M9 := chain M8 L9
        have hm9 := hm8.below (Nat.le_refl _) L9
        have hx9 := hx8.below (Nat.le_refl _) L9
        have hy9 := hy8.below (Nat.le_refl _) L9
        have hX9 := hX8.below (Nat.le_refl _) L9
        have hY9 := hY8.below (Nat.le_refl _) L9
        have hvB9 := hvB.below (Nat.le_refl _) L9
        clear hm8 hx8 hy8 hX8 hY8 hvB M8 L9
        go_wp2_with fail
        refine (iFar _ _ _ _ xs ys _ hx9 hy9 k1 k2).mono ?_
        rintro e wd10 ⟨rfl, L10⟩
        have M10 := chain M9 L10
        have hm10 := hm9.below (Nat.le_refl _) L10
        have hx10 := hx9.below (Nat.le_refl _) L10
        have hy10 := hy9.below (Nat.le_refl _) L10
        have hX10 := hX9.below (Nat.le_refl _) L10
        have hY10 := hY9.below (Nat.le_refl _) L10
        have hvB10 := hvB9.below (Nat.le_refl _) L10
        clear hm9 hx9 hy9 hX9 hY9 hvB9 M9 L10
        go_wp2_with fail
        refine (iSteps _ _ _ _ X Y _ hX10 hY10 (by omega) (by omega)).mono ?_
        rintro e wd11 ⟨rfl, L11⟩
        have M11 := chain M10 L11
        have hm11 := hm10.below (Nat.le_refl _) L11
        have hx11 := hx10.below (Nat.le_refl _) L11
        have hy11 := hy10.below (Nat.le_refl _) L11
        have hX11 := hX10.below (Nat.le_refl _) L11
        have hY11 := hY10.below (Nat.le_refl _) L11
        have hvB11 := hvB10.below (Nat.le_refl _) L11
        clear hm10 hx10 hy10 hX10 hY10 hvB10 M10 L11
        go_wp2_with fail
        refine (iSteps _ _ _ _ xs ys _ hx11 hy11 k1 k2).mono ?_
        rintro e wd12 ⟨rfl, L12⟩
        have M12 := chain M11 L12
        have hm12 := hm11.below (Nat.le_refl _) L12
        have hx12 := hx11.below (Nat.le_refl _) L12
        have hy12 := hy11.below (Nat.le_refl _) L12
        have hX12 := hX11.below (Nat.le_refl _) L12
        have hY12 := hY11.below (Nat.le_refl _) L12
        have hvB12 := hvB11.below (Nat.le_refl _) L12
        clear hm11 hx11 hy11 hX11 hY11 hvB11 M11 L12
        go_wp2_with fail
        refine (iReach _ _ _ _ X Y _ hX12 hY12 (by omega) (by omega)).mono ?_
        rintro e wd13 ⟨rfl, L13⟩
        have M13 := chain M12 L13
        have hm13 := hm12.below (Nat.le_refl _) L13
        have hx13 := hx12.below (Nat.le_refl _) L13
        have hy13 := hy12.below (Nat.le_refl _) L13
        have hvB13 := hvB12.below (Nat.le_refl _) L13
        clear hm12 hx12 hy12 hX12 hY12 hvB12 M12 L13
        go_wp2_with fail
        refine (iReach _ _ _ _ xs ys _ hx13 hy13 k1 k2).mono ?_
        rintro e wd14 ⟨rfl, L14⟩
        have M14 := chain M13 L14
        have hm14 := hm13.below (Nat.le_refl _) L14
        have hx14 := hx13.below (Nat.le_refl _) L14
        have hy14 := hy13.below (Nat.le_refl _) L14
        have hvB14 := hvB13.below (Nat.le_refl _) L14
        clear hm13 hx13 hy13 hvB13 M13 L14
        go_wp2_with fail
        refine (iMovedL L _ _ _ _ ys xs _ (by rw [moved_comm]; exact HLe.out) hy14 hx14 k2 k1).mono ?_
        rintro e wd15 ⟨aN, rfl, hoN, L15⟩
        have M15 := chain M14 L15
        have hN15 := hoN.view
        have hm15 := hm14.below (Nat.le_refl _) L15
        have hx15 := hx14.below (Nat.le_refl _) L15
        have hvB15 := hvB14.below (Nat.le_refl _) L15
        clear hm14 hx14 hy14 hvB14 M14 L15 hoN
        go_wp2_with fail
        refine (likeS _ _ _ _ L L _ hN15 hm15 (by omega)).mono ?_
        rintro e wd16 ⟨rfl, n16, hw16⟩
        have M16 : Below w.heap.size w wd16 := by rw [hw16]; exact below_drewN M15 n16
        have hm16 : View wd16 aM L := by rw [hw16]; exact hm15
        have hx16 : View wd16 (some ⟨g, 0, none⟩) xs := by rw [hw16]; exact hx15
        have hvB16 : View wd16 (some ⟨gb, 0, none⟩) (tabL (fun i => - nth ys i) ys.length) := by rw [hw16]; exact hvB15
        clear hw16 M15 hm15 hx15 hvB15 hN15
        have F := iMovedL xs aM (some ⟨gb, 0, none⟩) L.length cb L (tabL (fun i => - nth ys i) ys.length) wd16 (by rw [HLe.out]; exact HBK.out.symm) hm16 hvB16 (by omega) (by rw [tabL_length]; omega)
        rw [tabL_length] at F
        have HF := hideP F
        have hxx : decide (xs = xs) = true := by simp
        clear F
        go_wp2_with fail
        refine HF.out.mono ?_
        rintro e wd17 ⟨aQ, rfl, hoQ, L17⟩
        have M17 := chain M16 L17
        have hx17 := hx16.below (Nat.le_refl _) L17
        have hQ17 := hoQ.view
        clear HF hx16 hm16 hvB16 L17 M16 hoQ
        go_wp2_with fail
        refine (likeS _ _ _ _ xs xs _ hQ17 hx17 k1).mono ?_
        rintro e wd18 ⟨rfl, n18, hw18⟩
        have M18 : Below w.heap.size w wd18 := by rw [hw18]; exact below_drewN M17 n18
        clear hw18
        go_wp2_with fail
        go_ret
        exact ⟨rfl, M18⟩
      · have hg1 : X.length = 0 ∨ Y.length = 0 := by omega
        clear hXY
        by_cases hX0 : X.length = 0
        · have hX0' : ¬ (0 : Int) < (X.length : Int) := by omega
          have M14 := M8
          have hm14 := hm8
          have hx14 := hx8
          have hy14 := hy8
          have hvB14 := hvB
          have H0 := hideP hX0
          clear hX0 hg1 M8 hm8 hx8 hy8 hvB
          go_wp2_with fail
          refine (iMovedL L _ _ _ _ ys xs _ (by rw [moved_comm]; exact HLe.out) hy14 hx14 k2 k1).mono ?_
          rintro e wd15 ⟨aN, rfl, hoN, L15⟩
          have M15 := chain M14 L15
          have hN15 := hoN.view
          have hm15 := hm14.below (Nat.le_refl _) L15
          have hx15 := hx14.below (Nat.le_refl _) L15
          have hvB15 := hvB14.below (Nat.le_refl _) L15
          clear hm14 hx14 hy14 hvB14 M14 L15 hoN
          go_wp2_with fail
          refine (likeS _ _ _ _ L L _ hN15 hm15 (by omega)).mono ?_
          rintro e wd16 ⟨rfl, n16, hw16⟩
          have M16 : Below w.heap.size w wd16 := by rw [hw16]; exact below_drewN M15 n16
          have hm16 : View wd16 aM L := by rw [hw16]; exact hm15
          have hx16 : View wd16 (some ⟨g, 0, none⟩) xs := by rw [hw16]; exact hx15
          have hvB16 : View wd16 (some ⟨gb, 0, none⟩) (tabL (fun i => - nth ys i) ys.length) := by rw [hw16]; exact hvB15
          clear hw16 M15 hm15 hx15 hvB15 hN15
          have F := iMovedL xs aM (some ⟨gb, 0, none⟩) L.length cb L (tabL (fun i => - nth ys i) ys.length) wd16 (by rw [HLe.out]; exact HBK.out.symm) hm16 hvB16 (by omega) (by rw [tabL_length]; omega)
          rw [tabL_length] at F
          have HF := hideP F
          have hxx : decide (xs = xs) = true := by simp
          clear F
          go_wp2_with fail
          refine HF.out.mono ?_
          rintro e wd17 ⟨aQ, rfl, hoQ, L17⟩
          have M17 := chain M16 L17
          have hx17 := hx16.below (Nat.le_refl _) L17
          have hQ17 := hoQ.view
          clear HF hx16 hm16 hvB16 L17 M16 hoQ
          go_wp2_with fail
          refine (likeS _ _ _ _ xs xs _ hQ17 hx17 k1).mono ?_
          rintro e wd18 ⟨rfl, n18, hw18⟩
          have M18 : Below w.heap.size w wd18 := by rw [hw18]; exact below_drewN M17 n18
          clear hw18
          go_wp2_with fail
          go_ret
          exact ⟨rfl, M18⟩
        · have hX0' : (0 : Int) < (X.length : Int) := by omega
          have hY0' : ¬ (0 : Int) < (Y.length : Int) := by omega
          have M14 := M8
          have hm14 := hm8
          have hx14 := hx8
          have hy14 := hy8
          have hvB14 := hvB
          clear hX0 hg1 M8 hm8 hx8 hy8 hvB
          go_wp2_with fail
          refine (iMovedL L _ _ _ _ ys xs _ (by rw [moved_comm]; exact HLe.out) hy14 hx14 k2 k1).mono ?_
          rintro e wd15 ⟨aN, rfl, hoN, L15⟩
          have M15 := chain M14 L15
          have hN15 := hoN.view
          have hm15 := hm14.below (Nat.le_refl _) L15
          have hx15 := hx14.below (Nat.le_refl _) L15
          have hvB15 := hvB14.below (Nat.le_refl _) L15
          clear hm14 hx14 hy14 hvB14 M14 L15 hoN
          go_wp2_with fail
          refine (likeS _ _ _ _ L L _ hN15 hm15 (by omega)).mono ?_
          rintro e wd16 ⟨rfl, n16, hw16⟩
          have M16 : Below w.heap.size w wd16 := by rw [hw16]; exact below_drewN M15 n16
          have hm16 : View wd16 aM L := by rw [hw16]; exact hm15
          have hx16 : View wd16 (some ⟨g, 0, none⟩) xs := by rw [hw16]; exact hx15
          have hvB16 : View wd16 (some ⟨gb, 0, none⟩) (tabL (fun i => - nth ys i) ys.length) := by rw [hw16]; exact hvB15
          clear hw16 M15 hm15 hx15 hvB15 hN15
          have F := iMovedL xs aM (some ⟨gb, 0, none⟩) L.length cb L (tabL (fun i => - nth ys i) ys.length) wd16 (by rw [HLe.out]; exact HBK.out.symm) hm16 hvB16 (by omega) (by rw [tabL_length]; omega)
          rw [tabL_length] at F
          have HF := hideP F
          have hxx : decide (xs = xs) = true := by simp
          clear F
          go_wp2_with fail
          refine HF.out.mono ?_
          rintro e wd17 ⟨aQ, rfl, hoQ, L17⟩
          have M17 := chain M16 L17
          have hx17 := hx16.below (Nat.le_refl _) L17
          have hQ17 := hoQ.view
          clear HF hx16 hm16 hvB16 L17 M16 hoQ
          go_wp2_with fail
          refine (likeS _ _ _ _ xs xs _ hQ17 hx17 k1).mono ?_
          rintro e wd18 ⟨rfl, n18, hw18⟩
          have M18 : Below w.heap.size w wd18 := by rw [hw18]; exact below_drewN M17 n18
          clear hw18
          go_wp2_with fail
          go_ret
          exact ⟨rfl, M18⟩

/-! ### THE ROW's STEP: WRITTEN OUT: LEAVE IT -/
set_option maxRecDepth 100000 in
theorem lifted (os : Os) (started : os.Started) (H : Type) (enc : TypeId × Value → H) :
    ReturnsInHanded {} Try.checked os 11 .any (Rows.fnMovedSpec.pre6 enc Try.prog Try.f11 Rows.fnMovedRow.domain false) (Rows.fnMovedSpec.post enc Try.prog Try.f11 false true false false) := by
  refine returnsInHanded_of_change (C := Try.checked) own started (by kernel_rfl) Try.func11
    (ChangeSpec.witness6 (enc := enc) (C := Try.checked) false ⟨#[], #[.slice none 0 0], []⟩ 8 (by kernel_rfl) (by kernel_rfl) (by kernel_rfl) (by kernel_rfl)) ?_
  intro W base args ds gs before hval0 hW hcnd _
  have hval : ∀ (j : Nat) t v, Try.f11.params[j]? = some t → args[j]? = some v → Value.okWide Try.prog W .any base t v := hval0
  have hW' := hW
  obtain ⟨p, q, hA0, hV, rfl, hfz, hnd⟩ := hW
  have hA : DataW.TrodAll enc Try.prog W 0 (fun _ => true) true Try.f11.params.toList args.toList ds p := hA0
  rw [Try.params11] at hA hval
  obtain ⟨v0, vs0, d0, ds0, p0, q0, hargs, rfl, rfl, h0, r0⟩ := trodAll_cons hA
  obtain ⟨rfl, rfl, rfl⟩ := trodAll_nil r0
  obtain rfl : args = #[v0] := by cases args; simp_all
  obtain ⟨rfl, rfl⟩ := trodVars_none hV
  obtain ⟨a0, len0, cap0, rfl⟩ := okWide_slice Try.underlying29 (hval 0 29 v0 rfl rfl)
  have k0 := h0
  have lt0 : ∀ x ∈ p0, x.block < W.heap.size := by obtain ⟨m, hm⟩ := k0; exact DataW.trod_lt m _ _ _ hm
  obtain ⟨z0, w0⟩ : ∃ zs, IsRow .u8 W a0 len0 cap0 zs := by
    obtain ⟨fuel, hf⟩ := h0
    rcases open_ints Try.underlying29 Try.underlying5 (by kernel_rfl) hf with ⟨hcs, _⟩ | ⟨x, l, c, zs, hcs, _, hl, hm, hz, _, hcell, hwz⟩
    · simp [Value.cells] at hcs
      obtain ⟨rfl, rfl, rfl⟩ := hcs
      exact ⟨[], .inl ⟨rfl, rfl, rfl, rfl⟩⟩
    · simp [Value.cells] at hcs
      obtain ⟨rfl, rfl, rfl⟩ := hcs
      exact ⟨zs, .inr ⟨_, rfl, hl, hm, by simpa using hz, hcell, hwz⟩⟩
  clear hA0 hval0
  refine (walk a0 len0 cap0 z0 W w0).mono fun e W' ⟨he, bel⟩ => ?_
  subst he
  exact ⟨_, rfl, _, _, _, [], _, [], hW', trodAll_mk1 (shut_bool Try.underlying4 _), (trodAll_cons_mk (Below.trod laidOut (by kernel_rfl) (of_decide_eq_true (by kernel_rfl)) k0 bel lt0) trodAll_mk0), rfl, bel.frame _, fun h => by cases h⟩

theorem over : Rows.fnMovedRow.holds Try.pinned (OpenSpec.ofChange Rows.fnMovedSpec) :=
  OpenClaim.holds_of_wide 11 Try.f11 rfl rfl rfl rfl rfl rfl rfl ⟨rfl, rfl, rfl, rfl, rfl⟩ rfl rfl rfl rfl rfl (by kernel_rfl) Try.func11 (by kernel_rfl)
    (of_decide_eq_true (by kernel_rfl)) (by unfold Func.isWrapper; first | (rw [if_pos (by decide +kernel)]; kernel_rfl) | (rw [if_neg (by decide +kernel)]; exact ⟨rfl, rfl⟩))
    (fun os started H enc _ => lifted os started H enc)

end Go.Proofs.Ytpnccjcgnmhncaa.fnMoved
namespace Go.Proofs.Ytpnccjcgnmhncaa

theorem FnMoved_holds : Rows.FnMovedSaid := fnMoved.over

end Go.Proofs.Ytpnccjcgnmhncaa
