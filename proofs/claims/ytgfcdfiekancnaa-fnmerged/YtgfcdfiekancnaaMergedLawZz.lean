/-
  At every code the law of merging holds: the nearest of all are those of any two parts, merged, and merging goes in any order.
-/
import Derived.Test.YtgfcdfiekancnaaHMDZz
import Derived.Test.YtgfcdfiekancnaaNLawZz
import Derived.Test.YtgfcdfiekancnaaPutZz
import Derived.Test.YtgfcdfiekancnaaWithZz
import Derived.Test.YtgfcdfiekancnaaHDrawZz
import Derived.Test.YtgfcdfiekancnaaBytesZz
import Derived.Test.YtgfcdfiekancnaaMDraw2Zz
import Derived.Test.YtgfcdfiekancnaaMovedSZz
namespace Go.Proofs.Ytgfcdfiekancnaa.fnMerged
open Go.ChangeShapes Go.WideShapes Go.ChangeAt Go.RowKit
set_option linter.unusedVariables false

theorem own : ownKnob Try.prog.godebug = none := by kernel_rfl
theorem laidOut : laidOutB Try.prog = true := by kernel_rfl

set_option maxRecDepth 100000 in
set_option maxHeartbeats 4000000 in
theorem walk (ao0 : Option Addr) (len0 cap0 : Nat) (w : World) (hv0 : CodeV w ao0 len0) (hn0 : len0 ≤ maxLen) :
    Calls Try.prog 3 #[.slice ao0 len0 cap0] w fun e w' => e = .returned (.bool true) ∧ Below w.heap.size w w' := by
  unfold maxLen at hn0
  by_cases hbig : 4096 < len0
  · go_enter Try.func3, Try.ntmps3
    go_wp2_with (go_at_call 8; refine (bigC _ _ _ _).mono ?_; rintro e w' ⟨rfl, rfl⟩)
    go_ret
    exact ⟨rfl, Below.refl _ _⟩
  have hn : len0 ≤ 4096 := by omega
  have hbb : decide (4096 < (len0 : Int)) = false := by simp; omega
  clear hn0 hbig
  obtain ⟨j0, hj0, hy0, hy1, hy2⟩ := info_parts Try.info36
  go_enter Try.func3, Try.ntmps3
  go_wp2_with fail
  refine (bigC _ _ _ _).mono ?_
  rintro e wa ⟨rfl, hu0⟩
  subst wa
  rw [hbb]
  go_wp2_with fail
  refine (cNear ao0 len0 cap0 _ hv0 hn).mono ?_
  rintro e w1 ⟨g, c, ms, g', c', q, x, rfl, ⟨hm, hsm, -, h60, hq, hql⟩, L1⟩
  obtain ⟨R, hR⟩ : ∃ R, R = nearL ms q x := ⟨_, rfl⟩
  have HR := hidP hR
  have hRl : R.length ≤ 60 := by rw [hR]; exact near_len _ _ _
  clear hR
  have HC := hidP (sNear _ _ c c' ms q x w1 hm hq hsm (by omega))
  rw [← HR.out] at HC
  go_wp2_with fail
  refine HC.out.mono ?_
  rintro e w2 ⟨gs, cs, rfl, ps, L2⟩
  have vh := ps.view
  replace hm := hm.next L2
  replace hq := hq.next L2
  replace L2 := chain L1 L2
  clear L1 HC ps
  go_wp2_with fail
  refine (cMerged ao0 len0 cap0 _ (hv0.below (Nat.le_refl _) L2) hn).mono ?_
  rintro e w3 ⟨ga, ca, aa, gb, cb, bb, n, rfl, hal, hbl, va, vb, L3⟩
  replace hm := hm.next L3
  replace hq := hq.next L3
  replace vh := vh.next L3
  replace L3 := chain L2 L3
  clear L2
  obtain ⟨T, hT⟩ : ∃ T, T = mergedL aa bb n := ⟨_, rfl⟩
  have HT := hidP hT
  have HT2 := hidP ((mergedL_comm aa bb n).trans hT.symm)
  have hTl : T.length ≤ 60 := by rw [hT]; exact merged_len _ _ _
  clear hT
  have HC := hidP (iMerged _ _ ca cb aa bb n w3 va vb (by omega))
  rw [← HT.out] at HC
  go_wp2_with fail
  refine HC.out.mono ?_
  rintro e w4 ⟨v, rfl, po, L4⟩
  obtain ⟨at4, ct4, rfl, vt⟩ := po.view
  have P4 : Hid (MView w4 (some ⟨g, 0, none⟩) ms ∧ View w4 (some ⟨g', 0, none⟩) q ∧ HView w4 (some ⟨gs, 0, none⟩) R ∧ HView w4 (some ⟨ga, 0, none⟩) aa ∧ HView w4 (some ⟨gb, 0, none⟩) bb ∧ HView w4 at4 T ∧ Below w.heap.size w w4) := ⟨hm.next L4, hq.next L4, vh.next L4, va.next L4, vb.next L4, vt, chain L3 L4⟩
  clear L3 L4 hm hq vh va vb vt HC po
  have stp : ∀ wa wb, Below wa.heap.size wa wb → (MView wa (some ⟨g, 0, none⟩) ms ∧ View wa (some ⟨g', 0, none⟩) q ∧ HView wa (some ⟨gs, 0, none⟩) R ∧ HView wa (some ⟨ga, 0, none⟩) aa ∧ HView wa (some ⟨gb, 0, none⟩) bb ∧ HView wa at4 T ∧ Below w.heap.size w wa) → (MView wb (some ⟨g, 0, none⟩) ms ∧ View wb (some ⟨g', 0, none⟩) q ∧ HView wb (some ⟨gs, 0, none⟩) R ∧ HView wb (some ⟨ga, 0, none⟩) aa ∧ HView wb (some ⟨gb, 0, none⟩) bb ∧ HView wb at4 T ∧ Below w.heap.size w wb) :=
    fun wa wb hb ⟨h1, h2, h3, h4, h5, h6, h7⟩ => ⟨h1.next hb, h2.next hb, h3.next hb, h4.next hb, h5.next hb, h6.next hb, chain h7 hb⟩
  have STP := hidP stp
  clear stp
  have drw : ∀ (wa wb : World) n, wb = wa.drewN n → Below wa.heap.size wa wb := fun wa wb n h => by rw [h]; exact below_drewN (Below.refl _ _) n
  have DRW := hidP drw
  clear drw
  have ht : decide (R = R) = true := by simp
  have ht2 : decide (T = T) = true := by simp
  have HC := hidP (sMerged _ _ ca cb aa bb n w4 P4.out.2.2.2.1 P4.out.2.2.2.2.1 (by omega) (by omega))
  rw [← HT.out] at HC
  go_wp2_with fail
  refine HC.out.mono ?_
  rintro e w5 ⟨g5, c5, rfl, p5, L5⟩
  have P5 := hidP (STP.out _ _ L5 P4.out)
  clear L5 P4 HC
  go_wp2_with fail
  refine (likeHS _ _ _ _ T T _ P5.out.2.2.2.2.2.1 p5.view (by omega)).mono ?_
  rintro e w6 ⟨rfl, n6, hw6⟩
  have P6 := hidP (STP.out _ _ (DRW.out _ _ n6 hw6) P5.out)
  clear hw6 P5 p5
  have HC := hidP (iMerged _ _ cb ca bb aa n w6 P6.out.2.2.2.2.1 P6.out.2.2.2.1 (by omega))
  rw [HT2.out] at HC
  go_wp2_with fail
  refine HC.out.mono ?_
  rintro e w7 ⟨v, rfl, po, L7⟩
  obtain ⟨a7, c7, rfl, v7⟩ := po.view
  have P7 := hidP (STP.out _ _ L7 P6.out)
  clear L7 P6 HC po
  go_wp2_with fail
  refine (likeHS _ _ _ _ T T _ v7 P7.out.2.2.2.2.2.1 (by omega)).mono ?_
  rintro e w8 ⟨rfl, n8, hw8⟩
  have P8 := hidP (STP.out _ _ (DRW.out _ _ n8 hw8) P7.out)
  clear hw8 P7 v7 STP DRW HT HT2
  by_cases h0 : R = []
  · subst h0
    have HB := hidP P8.out.2.2.2.2.2.2
    clear P8
    go_wp2_with fail
    go_ret
    exact ⟨rfl, HB.out⟩
  · have hpos : 0 < R.length := List.length_pos_iff.2 h0
    have hne : ((R.length : Int) == 0) = false := by simp; omega
    have HNE : Hid (nearL ms q x ≠ []) := by rw [← HR.out]; exact h0
    obtain ⟨P1, P2, P3, -, -, -, P9⟩ := P8.out
    have HP := hidP (And.intro P1 (And.intro P2 (And.intro P3 P9)))
    clear P8 h0 P1 P2 P3 P9
    have S1 := SRow.start w8 w8.heap.size (Nat.le_refl _)
    have S2 := SRow.start (w8.alloc (.cells #[] 36)) w8.heap.size (by simp)
    have S1' := S1.kept (World.grownBy_alloc (w8.alloc (.cells #[] 36)) (.cells #[] 36) none) (by simp)
    have hB := ((Below.refl w8.heap.size w8).alloc (Nat.le_refl _) (.cells #[] 36)).alloc (by simp) (.cells #[] 36)
    have HS0 := hidP (And.intro S1' (And.intro S2 hB))
    clear S1 S2 S1' hB
    go_wp2_with fail
    go_loopw [11, 12, 13] (fun a b i wr => ∃ (j g1 c1 g2 c2 : Nat) (d1 d2 : List Sm), j ≤ ms.length ∧ i = .int .i64 j ∧ a = .slice (some ⟨g1, 0, none⟩) d1.length c1 ∧ b = .slice (some ⟨g2, 0, none⟩) d2.length c2 ∧ SRow w8.heap.size wr g1 c1 d1 ∧ SRow w8.heap.size wr g2 c2 d2 ∧ g1 ≠ g2 ∧ SLies w8 d1 ∧ SLies w8 d2 ∧ PartsOf ms j (smMarks d1) (smMarks d2) ∧ d1.length ≤ j ∧ d2.length ≤ j ∧ Below w8.heap.size w8 wr) (fun _ _ i _ => ms.length - (intOf i).toNat)
    case atStart => exact ⟨0, w8.heap.size, 0, w8.heap.size + 1, 0, [], [], Nat.zero_le _, rfl, rfl, by simp, HS0.out.1, by simpa using HS0.out.2.1, by omega, (fun d hd => by cases hd), (fun d hd => by cases hd), parts_zero ms, Nat.zero_le _, Nat.zero_le _, HS0.out.2.2⟩
    case round =>
      clear HS0
      obtain ⟨j, g1, c1, g2, c2, d1, d2, hj, rfl, rfl, rfl, s1, s2, hg, l1, l2, hp, hd1, hd2, L⟩ := hrel
      have HS := hidP (And.intro s1 (And.intro s2 (And.intro l1 (And.intro l2 (And.intro hp L)))))
      have hz := L.size
      have hs1 := s1.lt
      have hs2 := s2.lt
      clear s1 s2 l1 l2 hp
      by_cases hlt : j < ms.length
      · obtain ⟨bm, om, em, hbm, hsegm⟩ := MSeg.seg HP.out.1 (by omega)
        cases em
        obtain ⟨hm0, ae, ce, hm1, hve⟩ := hsegm.at hlt
        rw [Nat.zero_add] at hm0 hm1
        replace hm0 := (L.cell (p := ⟨g, j * 2, none⟩) hbm).trans hm0
        replace hm1 := (L.cell (p := ⟨g, j * 2 + 1, none⟩) hbm).trans hm1
        have hi0 : (0 : Int) ≤ (j : Int) := Int.natCast_nonneg _
        have hi1 : (j : Int) < (ms.length : Int) := by omega
        have HV := hidP hve
        have HPK := hidP (pickC ao0 len0 cap0 (j : Int) 2 wr (hv0.below (Nat.le_refl _) (chain HP.out.2.2.2 L)) hn (by omega) (by omega) (by omega) (by omega))
        obtain ⟨d, hd⟩ : ∃ d : Sm, d = (mid ms j, ae, ce, mat ms j) := ⟨_, rfl⟩
        have LA := World.grownBy_alloc wr (.cells #[.int .i64 (mid ms j), .slice ae (mat ms j).length ce] 36) none
        have hsrc : SrcAt (wr.alloc (.cells #[.int .i64 (mid ms j), .slice ae (mat ms j).length ce] 36)) 2 (some ⟨wr.heap.size, 0, none⟩) 1 (smCells [d]) := by
          rw [hd]; exact one_srcM (heap_alloc_new wr _)
        have HSRC := hidP hsrc
        have HD := hidP hd
        have HRA := hidP (And.intro (HS.out.1.kept LA (by simp)) (HS.out.2.1.kept LA (by simp)))
        clear hve hsegm L LA hsrc hd
        go_wp2_with fail
        refine HPK.out.mono ?_
        rintro e wp ⟨⟨y, hy3, hy4, rfl⟩, hwp⟩
        subst wp
        clear HPK
        by_cases hy : y = 0
        · subst hy
          go_wp2_with (at_builtin; refine wpList_append_at _ rfl (.tmp 69) (.tmp 74) 24 rfl w8.heap.size 36 j0 _ 2 32 Try.underlying24 hj0 hy0 hy1 hy2 rfl (by omega) g1 d1.length c1 (smCells d1) rfl HRA.out.1 (some ⟨wr.heap.size, 0, none⟩) 1 1 (smCells [d]) rfl HSRC.out (by unfold maxLen; omega) (by omega) (by simp; omega) (wr.heap.size + 1) (by simp) ?_; intro gg cc w9 hown hgrow hat hltt)
          go_wp2
          go_roundw
          case rel =>
            obtain ⟨-, -, l1, l2, hp, L⟩ := HS.out
            refine ⟨j + 1, gg, cc, g2, c2, d1 ++ [d], d2, by omega, by go_num, by rw [List.length_append, List.length_singleton], rfl, SRow.snoc hown, HRA.out.2.kept hgrow (fun e => by injection e with e; omega), by omega, l1.snoc (by rw [HD.out]; exact HV.out), l2, ?_, by rw [List.length_append, List.length_singleton]; omega, by omega, (L.alloc hz _).grown hgrow (by simp; omega) (by intro k hk; cases hk; omega)⟩
            rw [smMarks_snoc, HD.out]
            exact parts_left hlt hp
          case measure => simp [intOf]; omega
        · have hyb : (y == 0) = false := by simp [hy]
          clear hy
          go_wp2_with (at_builtin; refine wpList_append_at _ rfl (.tmp 76) (.tmp 81) 24 rfl w8.heap.size 36 j0 _ 2 32 Try.underlying24 hj0 hy0 hy1 hy2 rfl (by omega) g2 d2.length c2 (smCells d2) rfl HRA.out.2 (some ⟨wr.heap.size, 0, none⟩) 1 1 (smCells [d]) rfl HSRC.out (by unfold maxLen; omega) (by omega) (by simp; omega) (wr.heap.size + 1) (by simp) ?_; intro gg cc w9 hown hgrow hat hltt)
          go_wp2
          go_roundw
          case rel =>
            obtain ⟨-, -, l1, l2, hp, L⟩ := HS.out
            refine ⟨j + 1, g1, c1, gg, cc, d1, d2 ++ [d], by omega, by go_num, rfl, by rw [List.length_append, List.length_singleton], HRA.out.1.kept hgrow (fun e => by injection e with e; omega), SRow.snoc hown, by omega, l1, l2.snoc (by rw [HD.out]; exact HV.out), ?_, by omega, by rw [List.length_append, List.length_singleton]; omega, (L.alloc hz _).grown hgrow (by simp; omega) (by intro k hk; cases hk; omega)⟩
            rw [smMarks_snoc, HD.out]
            exact parts_right hlt hp
          case measure => simp [intOf]; omega
      · obtain ⟨s1, s2, l1, l2, hp, L'⟩ := HS.out
        have hjm : j = ms.length := by omega
        rw [hjm] at hp
        obtain ⟨q1, q2, q3⟩ := parts_all hp
        have v1 := s1.view l1 L'
        have v2 := s2.view l2 L'
        have m1 := small_sub hsm q1
        have m2 := small_sub hsm q2
        have hqr := HP.out.2.1.next L'
        have hhr := HP.out.2.2.1.next L'
        have LB := chain HP.out.2.2.2 L'
        have N1 := hidP (near_parts HNE.out q1 q2 q3)
        have N2 := hidP (near_again HNE.out q1)
        rw [← HR.out] at N1 N2
        obtain ⟨X, hX⟩ : ∃ X, X = nearL (smMarks d1) q x := ⟨_, rfl⟩
        obtain ⟨Y, hY⟩ : ∃ Y, Y = nearL (smMarks d2) q x := ⟨_, rfl⟩
        rw [← hX, ← hY] at N1
        rw [← hX] at N2
        have hXl : X.length ≤ 60 := by rw [hX]; exact near_len _ _ _
        have hYl : Y.length ≤ 60 := by rw [hY]; exact near_len _ _ _
        have HX := hidP hX
        have HY := hidP hY
        have HC := hidP (iNear _ _ c1 c' (smMarks d1) q x wr v1 hqr m1 (by omega))
        rw [← hX, smMarks_length] at HC
        have HM2 := hidP (And.intro v2 m2)
        have HV2 := hidP (And.intro hqr (And.intro hhr LB))
        clear hX hY hp hjm q1 q2 q3 v1 m1 v2 m2 hqr hhr LB s1 s2 l1 l2 L' L hz hs1 hs2 HS
        go_wp2_with fail
        refine HC.out.mono ?_
        rintro e w10 ⟨v, rfl, po, L10⟩
        obtain ⟨ax, cx, rfl, vx⟩ := po.view
        have HV10 : Hid (View w10 (some ⟨g', 0, none⟩) q ∧ HView w10 (some ⟨gs, 0, none⟩) R ∧ Below w.heap.size w w10) := ⟨HV2.out.1.next L10, HV2.out.2.1.next L10, chain HV2.out.2.2 L10⟩
        have HC2 := hidP (iNear _ _ c2 c' (smMarks d2) q x w10 (HM2.out.1.next L10) HV10.out.1 HM2.out.2 (by omega))
        rw [← HY.out, smMarks_length] at HC2
        clear L10 HC HV2 po
        go_wp2_with fail
        refine HC2.out.mono ?_
        rintro e w11 ⟨v, rfl, po, L11⟩
        obtain ⟨ay, cy, rfl, vy⟩ := po.view
        have HV11 : Hid (HView w11 ax X ∧ HView w11 (some ⟨gs, 0, none⟩) R ∧ Below w.heap.size w w11) := ⟨vx.next L11, HV10.out.2.1.next L11, chain HV10.out.2.2 L11⟩
        clear L11 HC2 HV10 po vx
        have HC3 := hidP (iMerged ax ay cx cy X Y x w11 HV11.out.1 vy (by omega))
        rw [N1.out] at HC3
        go_wp2_with fail
        refine HC3.out.mono ?_
        rintro e w12 ⟨v, rfl, po, L12⟩
        obtain ⟨az, cz, rfl, vz⟩ := po.view
        have HV12 : Hid (HView w12 ax X ∧ HView w12 (some ⟨gs, 0, none⟩) R ∧ Below w.heap.size w w12) := ⟨HV11.out.1.next L12, HV11.out.2.1.next L12, chain HV11.out.2.2 L12⟩
        clear L12 HC3 HV11 po vy
        go_wp2_with fail
        refine (likeHS _ _ _ _ R R _ vz HV12.out.2.1 (by omega)).mono ?_
        rintro e w13 ⟨rfl, n13, hw13⟩
        have L13 : Below w12.heap.size w12 w13 := by rw [hw13]; exact below_drewN (Below.refl _ _) n13
        have HV13 : Hid (HView w13 ax X ∧ HView w13 (some ⟨gs, 0, none⟩) R ∧ Below w.heap.size w w13) := ⟨HV12.out.1.next L13, HV12.out.2.1.next L13, chain HV12.out.2.2 L13⟩
        clear L13 hw13 vz HV12
        have HC4 := hidP (iMerged (some ⟨gs, 0, none⟩) ax cs cx R X x w13 HV13.out.2.1 HV13.out.1 (by omega))
        rw [N2.out] at HC4
        go_wp2_with fail
        refine HC4.out.mono ?_
        rintro e w14 ⟨v, rfl, po, L14⟩
        obtain ⟨au, cu, rfl, vu⟩ := po.view
        have HV14 : Hid (HView w14 (some ⟨gs, 0, none⟩) R ∧ Below w.heap.size w w14) := ⟨HV13.out.2.1.next L14, chain HV13.out.2.2 L14⟩
        clear L14 HC4 HV13 po
        go_wp2_with fail
        refine (likeHS _ _ _ _ R R _ vu HV14.out.1 (by omega)).mono ?_
        rintro e w15 ⟨rfl, n15, hw15⟩
        have L15 : Below w.heap.size w w15 := by rw [hw15]; exact below_drewN HV14.out.2 n15
        clear hw15
        go_wp2_with fail
        go_ret
        exact ⟨rfl, L15⟩

set_option maxRecDepth 100000 in
theorem lifted (os : Os) (started : os.Started) (H : Type) (enc : TypeId × Value → H) :
    ReturnsInHanded {} Try.checked os 3 .any (Rows.fnMergedSpec.pre6 enc Try.prog Try.f3 Rows.fnMergedRow.domain false) (Rows.fnMergedSpec.post enc Try.prog Try.f3 false true false false) := by
  refine returnsInHanded_of_change (C := Try.checked) own started (by kernel_rfl) Try.func3
    (ChangeSpec.witness6 (enc := enc) (C := Try.checked) false ⟨#[], #[.slice none 0 0], []⟩ 8 (by kernel_rfl) (by kernel_rfl) (by kernel_rfl) (by kernel_rfl)) ?_
  intro W base args ds gs before hval0 hW hcnd _
  have hval : ∀ (j : Nat) t v, Try.f3.params[j]? = some t → args[j]? = some v → Value.okWide Try.prog W .any base t v := hval0
  have hW' := hW
  obtain ⟨p, q, hA0, hV, rfl, hfz, hnd⟩ := hW
  have hA : DataW.TrodAll enc Try.prog W 0 (fun _ => true) true Try.f3.params.toList args.toList ds p := hA0
  rw [Try.params3] at hA hval
  obtain ⟨v0, vs0, d0, ds0, p0, q0, hargs, rfl, rfl, h0, r0⟩ := trodAll_cons hA
  obtain ⟨rfl, rfl, rfl⟩ := trodAll_nil r0
  obtain rfl : args = #[v0] := by cases args; simp_all
  obtain ⟨rfl, rfl⟩ := trodVars_none hV
  obtain ⟨a0, len0, cap0, rfl⟩ := okWide_slice Try.underlying22 (hval 0 22 v0 rfl rfl)
  have k0 := h0
  have lt0 : ∀ x ∈ p0, x.block < W.heap.size := by obtain ⟨m, hm⟩ := k0; exact DataW.trod_lt m _ _ _ hm
  obtain ⟨hv0, hn0⟩ := (by obtain ⟨fuel, hf⟩ := h0; exact code_view hf : CodeV W a0 len0 ∧ len0 ≤ maxLen)
  clear hA0 hval0
  refine (walk a0 len0 cap0 W hv0 hn0).mono fun e W' ⟨he, bel⟩ => ?_
  subst he
  exact ⟨_, rfl, _, _, _, [], _, [], hW', trodAll_mk1 (shut_bool Try.underlying4 _), (trodAll_cons_mk (Below.trod laidOut (by kernel_rfl) (of_decide_eq_true (by kernel_rfl)) k0 bel lt0) trodAll_mk0), rfl, bel.frame _, fun h => by cases h⟩

theorem over : Rows.fnMergedRow.holds Try.pinned (OpenSpec.ofChange Rows.fnMergedSpec) :=
  OpenClaim.holds_of_wide 3 Try.f3 rfl rfl rfl rfl rfl rfl rfl ⟨rfl, rfl, rfl, rfl, rfl⟩ rfl rfl rfl rfl rfl (by kernel_rfl) Try.func3 (by kernel_rfl)
    (of_decide_eq_true (by kernel_rfl)) (by unfold Func.isWrapper; first | (rw [if_pos (by decide +kernel)]; kernel_rfl) | (rw [if_neg (by decide +kernel)]; exact ⟨rfl, rfl⟩))
    (fun os started H enc _ => lifted os started H enc)

end Go.Proofs.Ytgfcdfiekancnaa.fnMerged
namespace Go.Proofs.Ytgfcdfiekancnaa

theorem FnMerged_holds : Rows.FnMergedSaid := fnMerged.over

end Go.Proofs.Ytgfcdfiekancnaa
