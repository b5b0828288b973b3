/-
  At every code the law of the nearest holds: the nearest are the first by the order, and so many as are asked for, or all.
-/
import Derived.Test.YtlhnglhoecpgfaaHMDZz
import Derived.Test.YtlhnglhoecpgfaaNLawZz
import Derived.Test.YtlhnglhoecpgfaaWithZz
import Derived.Test.YtlhnglhoecpgfaaHDrawZz
import Derived.Test.YtlhnglhoecpgfaaBytesZz
import Derived.Test.YtlhnglhoecpgfaaMDraw2Zz
namespace Go.Proofs.Ytlhnglhoecpgfaa.fnNearest
open Go.ChangeShapes Go.WideShapes Go.ChangeAt Go.RowKit
set_option linter.unusedVariables false

theorem own : ownKnob Try.prog.godebug = none := by kernel_rfl
theorem laidOut : laidOutB Try.prog = true := by kernel_rfl

set_option maxRecDepth 100000 in
set_option maxHeartbeats 4000000 in
theorem walk (ao0 : Option Addr) (len0 cap0 : Nat) (w : World) (hv0 : CodeV w ao0 len0) (hn0 : len0 ≤ maxLen) :
    Calls Try.prog 3 #[.slice ao0 len0 cap0] w fun e w' => e = .returned (.bool true) ∧ Below w.heap.size w w' := by
  unfold maxLen at hn0
  by_cases hbig : 4096 < len0
  · go_enter Try.func3, Try.ntmps3
    go_wp2_with (go_at_call 9; refine (bigC _ _ _ _).mono ?_; rintro e w' ⟨rfl, rfl⟩)
    go_ret
    exact ⟨rfl, Below.refl _ _⟩
  have hn : len0 ≤ 4096 := by omega
  have hbb : decide (4096 < (len0 : Int)) = false := by simp; omega
  clear hn0 hbig
  go_enter Try.func3, Try.ntmps3
  go_wp2_with fail
  refine (bigC _ _ _ _).mono ?_
  rintro e wa ⟨rfl, hu0⟩
  subst wa
  rw [hbb]
  go_wp2_with fail
  refine (cNear ao0 len0 cap0 _ hv0 hn).mono ?_
  rintro e w1 ⟨g, c, ms, g', c', q, x, rfl, ⟨hm, hsm, -, h60, hq, hql⟩, L1⟩
  obtain ⟨R, hR⟩ : ∃ R, R = nearL ms q x := ⟨_, rfl⟩
  have HR := hidP hR
  have hRl : R.length ≤ 60 := by rw [hR]; exact near_len _ _ _
  clear hR
  have HC := hidP (iNear _ _ c c' ms q x w1 hm hq hsm (by omega))
  rw [← HR.out] at HC
  go_wp2_with fail
  refine HC.out.mono ?_
  rintro e w2 ⟨v, rfl, po, L2⟩
  obtain ⟨ah, ch, rfl, vh⟩ := po.view
  replace hm := hm.next L2
  replace hq := hq.next L2
  replace L2 := chain L1 L2
  clear L1 HC po
  go_wp2_with fail
  refine (cWithin ao0 len0 cap0 _ (hv0.below (Nat.le_refl _) L2) hn).mono ?_
  rintro e w3 ⟨ga, ca, ns, gb, cb, p, most, rfl, ⟨hn1, hsn, -, n60, hp, hpl⟩, L3⟩
  replace hm := hm.next L3
  replace hq := hq.next L3
  replace vh := vh.next L3
  replace L3 := chain L2 L3
  clear L2
  obtain ⟨S, hS⟩ : ∃ S, S = withinL ns p most := ⟨_, rfl⟩
  have HS := hidP hS
  have hSl : S.length ≤ 60 := by rw [hS]; exact Nat.le_trans (within_len _ _ _) n60
  clear hS
  have HC := hidP (iWithin _ _ ca cb ns p most w3 hn1 hp hsn (by omega))
  rw [← HS.out] at HC
  go_wp2_with fail
  refine HC.out.mono ?_
  rintro e w4 ⟨v, rfl, po, L4⟩
  obtain ⟨aw, cw, rfl, vw⟩ := po.view
  replace hm := hm.next L4
  replace hq := hq.next L4
  replace vh := vh.next L4
  replace hn1 := hn1.next L4
  replace hp := hp.next L4
  replace L4 := chain L3 L4
  clear L3 HC po
  go_wp2_with fail
  refine (cHitsOk ao0 len0 cap0 _ (hv0.below (Nat.le_refl _) L4) hn).mono ?_
  rintro e w5 ⟨go, co, os, rfl, hol, vo, L5⟩
  have P5 : Hid (MView w5 (some ⟨g, 0, none⟩) ms ∧ View w5 (some ⟨g', 0, none⟩) q ∧ HView w5 ah R ∧ MView w5 (some ⟨ga, 0, none⟩) ns ∧ View w5 (some ⟨gb, 0, none⟩) p ∧ HView w5 aw S ∧ HView w5 (some ⟨go, 0, none⟩) os ∧ Below w.heap.size w w5) := ⟨hm.next L5, hq.next L5, vh.next L5, hn1.next L5, hp.next L5, vw.next L5, vo, chain L4 L5⟩
  clear L4 L5 hm hq vh hn1 hp vw vo
  have stp : ∀ wa wb, Below wa.heap.size wa wb → (MView wa (some ⟨g, 0, none⟩) ms ∧ View wa (some ⟨g', 0, none⟩) q ∧ HView wa ah R ∧ MView wa (some ⟨ga, 0, none⟩) ns ∧ View wa (some ⟨gb, 0, none⟩) p ∧ HView wa aw S ∧ HView wa (some ⟨go, 0, none⟩) os ∧ Below w.heap.size w wa) → (MView wb (some ⟨g, 0, none⟩) ms ∧ View wb (some ⟨g', 0, none⟩) q ∧ HView wb ah R ∧ MView wb (some ⟨ga, 0, none⟩) ns ∧ View wb (some ⟨gb, 0, none⟩) p ∧ HView wb aw S ∧ HView wb (some ⟨go, 0, none⟩) os ∧ Below w.heap.size w wb) :=
    fun wa wb hb ⟨h1, h2, h3, h4, h5, h6, h7, h8⟩ => ⟨h1.next hb, h2.next hb, h3.next hb, h4.next hb, h5.next hb, h6.next hb, h7.next hb, chain h8 hb⟩
  have STP := hidP stp
  clear stp
  have drw : ∀ (wa wb : World) n, wb = wa.drewN n → Below wa.heap.size wa wb := fun wa wb n h => by rw [h]; exact below_drewN (Below.refl _ _) n
  have DRW := hidP drw
  clear drw
  have ht : decide (R = R) = true := by simp
  have ht2 : decide (S = S) = true := by simp
  have HC := hidP (sNear _ _ c c' ms q x w5 P5.out.1 P5.out.2.1 hsm (by omega))
  rw [← HR.out] at HC
  go_wp2_with fail
  refine HC.out.mono ?_
  rintro e w6 ⟨gs, cs, rfl, ps, L6⟩
  have P6 := hidP (STP.out _ _ L6 P5.out)
  clear L6 P5 HC
  go_wp2_with fail
  refine (likeHS _ _ _ _ R R _ P6.out.2.2.1 ps.view (by omega)).mono ?_
  rintro e w7 ⟨rfl, n7, hw7⟩
  have P7 := hidP (STP.out _ _ (DRW.out _ _ n7 hw7) P6.out)
  clear hw7 P6 ps
  have HC := hidP (sWithin _ _ ca cb ns p most w7 P7.out.2.2.2.1 P7.out.2.2.2.2.1 hsn (by omega))
  rw [← HS.out] at HC
  go_wp2_with fail
  refine HC.out.mono ?_
  rintro e w8 ⟨gs, cs, rfl, ps, L8⟩
  have P8 := hidP (STP.out _ _ L8 P7.out)
  clear L8 P7 HC
  go_wp2_with fail
  refine (likeHS _ _ _ _ S S _ P8.out.2.2.2.2.2.1 ps.view (by omega)).mono ?_
  rintro e w9 ⟨rfl, n9, hw9⟩
  have P9 := hidP (STP.out _ _ (DRW.out _ _ n9 hw9) P8.out)
  clear hw9 P8 ps
  go_wp2_with fail
  refine (iHitsOk _ _ os _ P9.out.2.2.2.2.2.2.1 (by omega)).mono ?_
  rintro e wa ⟨rfl, La⟩
  have Pa := hidP (STP.out _ _ La P9.out)
  clear La P9
  go_wp2_with fail
  refine (sHitsOk _ _ os _ Pa.out.2.2.2.2.2.2.1 (by omega)).mono ?_
  rintro e wb ⟨rfl, Lb⟩
  have Pb := hidP (STP.out _ _ Lb Pa.out)
  clear Lb Pa
  have hoo : (hitsB os != hitsB os) = false := by simp
  have HOR := hidP (And.intro (near_ok ms q x) (within_ok ns p most))
  rw [← HR.out, ← HS.out] at HOR
  have hor1 := HOR.out.1
  have hor2 := HOR.out.2
  clear HOR
  go_wp2_with fail
  refine (iHitsOk _ _ R _ Pb.out.2.2.1 (by omega)).mono ?_
  rintro e wc ⟨rfl, Lc⟩
  have Pc := hidP (STP.out _ _ Lc Pb.out)
  clear Lc Pb
  rw [hor1]
  go_wp2_with fail
  refine (iHitsOk _ _ S _ Pc.out.2.2.2.2.2.1 (by omega)).mono ?_
  rintro e wd ⟨rfl, Ld⟩
  have Pd := hidP (STP.out _ _ Ld Pc.out)
  clear Ld Pc
  rw [hor2]
  have HT1 := hidP (near_truly ms q x)
  have HT2 := hidP (within_truly ns p most)
  have HFR := hidP (within_far ns p most)
  rw [← HR.out] at HT1
  rw [← HS.out] at HT2 HFR
  clear hor1 hor2
  go_wp2_with fail
  refine (trulyS _ _ _ _ _ _ R ms q _ Pd.out.2.2.1 Pd.out.1 Pd.out.2.1 (by omega) hsm (by omega) HT1.out).mono ?_
  rintro e we ⟨rfl, n, hwe⟩
  have Pe := hidP (STP.out _ _ (DRW.out _ _ n hwe) Pd.out)
  clear hwe Pd HT1
  go_wp2_with fail
  refine (trulyS _ _ _ _ _ _ S ns p _ Pe.out.2.2.2.2.2.1 Pe.out.2.2.2.1 Pe.out.2.2.2.2.1 (by omega) hsn (by omega) HT2.out).mono ?_
  rintro e wf ⟨rfl, n, hwf⟩
  have Pf := hidP (STP.out _ _ (DRW.out _ _ n hwf) Pe.out)
  clear hwf Pe HT2
  go_wp2_with fail
  go_loop [12] (fun i => ∃ k : Nat, k ≤ S.length ∧ i = .int .i64 k) (fun i => S.length - (intOf i).toNat)
  case atStart => exact ⟨0, Nat.zero_le _, rfl⟩
  case round =>
    obtain ⟨k, hk, rfl⟩ := hrel
    by_cases hlt : k < S.length
    · obtain ⟨b, off, rfl, hb, hseg⟩ := Pf.out.2.2.2.2.2.1.seg (by omega)
      obtain ⟨hc0, hc1⟩ := hseg k hlt
      have hfar := HFR.out k hlt
      have hfar2 : ¬ ((hnth S k).2 > most) := by omega
      clear hseg
      go_wp2
      go_round
      case rel => exact ⟨k + 1, by omega, by go_num⟩
      case measure => simp [intOf]; omega
    · clear hk HFR
      match hm : R.length with
      | 0 =>
        have HB := hidP Pf.out.2.2.2.2.2.2.2
        clear Pf
        go_wp2_with fail
        go_ret
        exact ⟨rfl, HB.out⟩
      | m + 1 =>
        obtain ⟨b, off, rfl, hb, hseg⟩ := Pf.out.2.2.1.seg (by omega)
        obtain ⟨hc0, hc1⟩ := hseg m (by omega)
        obtain ⟨last, hlast⟩ : ∃ last, last = hnth R m := ⟨_, rfl⟩
        have HLS : Hid ((hitsL ms q).countP (uptoB last) = m + 1 ∧ (((m + 1 : Nat) : Int) = x ∨ m + 1 = ms.length)) := by
          have := near_last (ms := ms) (q := q) (k := x) (m := m) (by rw [← HR.out]; exact hm)
          rw [← HR.out, ← hlast] at this
          exact this
        rw [← hlast] at hc0 hc1
        clear hlast hseg HR hbb
        have hx : wrap64 ((m : Int) + 1 - 1) = (m : Int) := by unfold wrap64; omega
        have hB := (Below.refl wf.heap.size wf).alloc (Nat.le_refl _) (.cells #[.int .i64 last.1, .int .i64 last.2] 35)
        have hl0 : (wf.alloc (.cells #[.int .i64 last.1, .int .i64 last.2] 35)).cell? ⟨wf.heap.size, 0, none⟩ = some (.int .i64 last.1) := by simp
        have hl1 : (wf.alloc (.cells #[.int .i64 last.1, .int .i64 last.2] 35)).cell? ⟨wf.heap.size, 1, none⟩ = some (.int .i64 last.2) := by simp
        have PW : Hid (MView (wf.alloc (.cells #[.int .i64 last.1, .int .i64 last.2] 35)) (some ⟨g, 0, none⟩) ms ∧ View (wf.alloc (.cells #[.int .i64 last.1, .int .i64 last.2] 35)) (some ⟨g', 0, none⟩) q ∧ Below w.heap.size w (wf.alloc (.cells #[.int .i64 last.1, .int .i64 last.2] 35))) := ⟨Pf.out.1.next hB, Pf.out.2.1.next hB, chain Pf.out.2.2.2.2.2.2.2 hB⟩
        have HLC := hidP (And.intro hl0 hl1)
        clear Pf hB hl0 hl1 STP DRW HS
        go_wp2_with fail
        obtain ⟨W, hW⟩ : ∃ W, W = wf.alloc (.cells #[.int .i64 last.1, .int .i64 last.2] 35) := ⟨_, rfl⟩
        have hWs : wf.heap.size < W.heap.size := by rw [hW]; simp
        rw [← hW] at PW HLC ⊢
        clear hW
        go_loopw [14, 15] (fun v i wr => ∃ j : Nat, j ≤ ms.length ∧ i = .int .i64 j ∧ v = .int .i64 (cntL ms q last j : Nat) ∧ Below W.heap.size W wr) (fun _ i _ => ms.length - (intOf i).toNat)
        case atStart => exact ⟨0, Nat.zero_le _, rfl, by rw [cntL_zero]; rfl, Below.refl _ _⟩
        case round =>
          obtain ⟨j, hjle, rfl, rfl, LW⟩ := hrel
          have hcle := cntL_le ms q last j
          have HLW := hidP LW
          have hd0 := (LW.cell (p := ⟨wf.heap.size, 0, none⟩) hWs).trans HLC.out.1
          have hd1 := (LW.cell (p := ⟨wf.heap.size, 1, none⟩) hWs).trans HLC.out.2
          have hWr := LW.size
          by_cases hj : j < ms.length
          · have hmj := PW.out.1.next LW
            have hqj := PW.out.2.1.next LW
            obtain ⟨bm, om, em, hbm, hsegm⟩ := MSeg.seg hmj (by omega)
            cases em
            obtain ⟨hm0, ae, ce, hm1, hve⟩ := hsegm.at hj
            have HF := hidP (sFar ae (some ⟨g', 0, none⟩) ce c' (mat ms j) q wr.drew hve.drew hqj.drew (hsm.2 j) (by omega))
            have hi0 : (0 : Int) ≤ (j : Int) := Int.natCast_nonneg _
            have hi1 : (j : Int) < (ms.length : Int) := by omega
            have hBz := (Below.refl wr.heap.size wr).alloc (Nat.le_refl _) (.cells #[.int .i64 0, .int .i64 0] 35)
            have HF2 := hidP (sFar ae (some ⟨g', 0, none⟩) ce c' (mat ms j) q (wr.alloc (.cells #[.int .i64 0, .int .i64 0] 35)).drew (hve.next hBz).drew (hqj.next hBz).drew (hsm.2 j) (by omega))
            clear hmj hqj hsegm hve LW hBz
            rw [Nat.zero_add] at hm0 hm1
            have hB2 := (Below.refl wr.heap.size wr).alloc (Nat.le_refl _) (.cells #[.int .i64 (mid ms j), .int .i64 (farV (mat ms j) q)] 35)
            have hE0 := (hB2.cell (p := ⟨wf.heap.size, 0, none⟩) (by show wf.heap.size < wr.heap.size; omega)).trans hd0
            have hE1 := (hB2.cell (p := ⟨wf.heap.size, 1, none⟩) (by show wf.heap.size < wr.heap.size; omega)).trans hd1
            have HLB := hidP (HLW.out.trans (hB2.mono hWr))
            clear hB2 hd0 hd1
            go_wp2_with fail
            have hdr : ∀ (k : Nat) (o : Obj), (wr.drew.drewN k).alloc o = (wr.alloc o).drew.drewN k := fun _ _ => rfl
            have hdr2 : ∀ (k : Nat) (o : Obj), (wr.drewN k).alloc o = (wr.alloc o).drewN k := fun _ _ => rfl
            have hdr4 : ∀ (O : Obj) (k : Nat) (a : Addr) (v : Value), ((wr.alloc O).drewN k).setCell a v = ((wr.alloc O).setCell a v).drewN k := fun _ _ _ _ => rfl
            go_region_with (first | (go_at_call 21; refine HF.out.mono ?_; rintro e w2 ⟨rfl, n2, rfl⟩) | (go_at_call 21; refine HF2.out.mono ?_; rintro e w2 ⟨rfl, n2, rfl⟩))
            all_goals (
              by_cases h1 : farV (mat ms j) q < last.2
              · have HCN : Hid (cntL ms q last (j + 1) = cntL ms q last j + 1) := by
                  show cntL ms q last (j + 1) = _
                  rw [cntL_succ ms q last j hj]
                  have hu : uptoB last (mid ms j, farV (mat ms j) q) = true := by simp [uptoB]; omega
                  rw [hu]; rfl
                go_wp2_with fail
                go_roundw
                case rel => exact ⟨j + 1, by omega, by go_num, by rw [HCN.out]; go_num, ⟨HLB.out.os, HLB.out.tape, HLB.out.output, HLB.out.size, HLB.out.block⟩⟩
                case measure => simp [intOf]; omega
              · by_cases h2 : farV (mat ms j) q = last.2
                · have h2b : (farV (mat ms j) q == last.2) = true := by simp [h2]
                  by_cases h3 : mid ms j ≤ last.1
                  · have HCN : Hid (cntL ms q last (j + 1) = cntL ms q last j + 1) := by
                      show cntL ms q last (j + 1) = _
                      rw [cntL_succ ms q last j hj]
                      have hu : uptoB last (mid ms j, farV (mat ms j) q) = true := by simp [uptoB]; omega
                      rw [hu]; rfl
                    clear h2
                    go_wp2_with fail
                    go_roundw
                    case rel => exact ⟨j + 1, by omega, by go_num, by rw [HCN.out]; go_num, ⟨HLB.out.os, HLB.out.tape, HLB.out.output, HLB.out.size, HLB.out.block⟩⟩
                    case measure => simp [intOf]; omega
                  · have HCN : Hid (cntL ms q last (j + 1) = cntL ms q last j + 0) := by
                      show cntL ms q last (j + 1) = _
                      rw [cntL_succ ms q last j hj]
                      have hu : uptoB last (mid ms j, farV (mat ms j) q) = false := by simp [uptoB]; omega
                      rw [hu]; rfl
                    clear h2
                    go_wp2_with fail
                    go_roundw
                    case rel => exact ⟨j + 1, by omega, by go_num, by rw [HCN.out, Nat.add_zero], ⟨HLB.out.os, HLB.out.tape, HLB.out.output, HLB.out.size, HLB.out.block⟩⟩
                    case measure => simp [intOf]; omega
                · have h2b : (farV (mat ms j) q == last.2) = false := by simp [h2]
                  have HCN : Hid (cntL ms q last (j + 1) = cntL ms q last j + 0) := by
                    show cntL ms q last (j + 1) = _
                    rw [cntL_succ ms q last j hj]
                    have hu : uptoB last (mid ms j, farV (mat ms j) q) = false := by simp [uptoB]; omega
                    rw [hu]; rfl
                  go_wp2_with fail
                  go_roundw
                  case rel => exact ⟨j + 1, by omega, by go_num, by rw [HCN.out, Nat.add_zero], ⟨HLB.out.os, HLB.out.tape, HLB.out.output, HLB.out.size, HLB.out.block⟩⟩
                  case measure => simp [intOf]; omega)
          · have hcn : cntL ms q last j = m + 1 := by rw [show j = ms.length by omega, cntL_all]; exact HLS.out.1
            rw [hcn]
            have HFB := hidP (chain PW.out.2.2 LW)
            have HX := hidP HLS.out.2
            clear hcn hcle HLS LW HLW PW
            by_cases hxk : ((m : Int) + 1) = x
            · have hxb : (((m : Int) + 1) == x) = true := by simp [hxk]
              clear hxk
              go_wp2_with fail
              go_ret
              exact ⟨rfl, HFB.out⟩
            · have hxb : (((m : Int) + 1) == x) = false := by simp [hxk]
              have hml : (((m : Int) + 1) == (ms.length : Int)) = true := by
                have := HX.out
                simp; omega
              clear hxk
              go_wp2_with fail
              go_ret
              exact ⟨rfl, HFB.out⟩

set_option maxRecDepth 100000 in
theorem lifted (os : Os) (started : os.Started) (H : Type) (enc : TypeId × Value → H) :
    ReturnsInHanded {} Try.checked os 3 .any (Rows.fnNearestSpec.pre6 enc Try.prog Try.f3 Rows.fnNearestRow.domain false) (Rows.fnNearestSpec.post enc Try.prog Try.f3 false true false false) := by
  refine returnsInHanded_of_change (C := Try.checked) own started (by kernel_rfl) Try.func3
    (ChangeSpec.witness6 (enc := enc) (C := Try.checked) false ⟨#[], #[.slice none 0 0], []⟩ 8 (by kernel_rfl) (by kernel_rfl) (by kernel_rfl) (by kernel_rfl)) ?_
  intro W base args ds gs before hval0 hW hcnd _
  have hval : ∀ (j : Nat) t v, Try.f3.params[j]? = some t → args[j]? = some v → Value.okWide Try.prog W .any base t v := hval0
  have hW' := hW
  obtain ⟨p, q, hA0, hV, rfl, hfz, hnd⟩ := hW
  have hA : DataW.TrodAll enc Try.prog W 0 (fun _ => true) true Try.f3.params.toList args.toList ds p := hA0
  rw [Try.params3] at hA hval
  obtain ⟨v0, vs0, d0, ds0, p0, q0, hargs, rfl, rfl, h0, r0⟩ := trodAll_cons hA
  obtain ⟨rfl, rfl, rfl⟩ := trodAll_nil r0
  obtain rfl : args = #[v0] := by cases args; simp_all
  obtain ⟨rfl, rfl⟩ := trodVars_none hV
  obtain ⟨a0, len0, cap0, rfl⟩ := okWide_slice Try.underlying22 (hval 0 22 v0 rfl rfl)
  have k0 := h0
  have lt0 : ∀ x ∈ p0, x.block < W.heap.size := by obtain ⟨m, hm⟩ := k0; exact DataW.trod_lt m _ _ _ hm
  obtain ⟨hv0, hn0⟩ := (by obtain ⟨fuel, hf⟩ := h0; exact code_view hf : CodeV W a0 len0 ∧ len0 ≤ maxLen)
  clear hA0 hval0
  refine (walk a0 len0 cap0 W hv0 hn0).mono fun e W' ⟨he, bel⟩ => ?_
  subst he
  exact ⟨_, rfl, _, _, _, [], _, [], hW', trodAll_mk1 (shut_bool Try.underlying4 _), (trodAll_cons_mk (Below.trod laidOut (by kernel_rfl) (of_decide_eq_true (by kernel_rfl)) k0 bel lt0) trodAll_mk0), rfl, bel.frame _, fun h => by cases h⟩

theorem over : Rows.fnNearestRow.holds Try.pinned (OpenSpec.ofChange Rows.fnNearestSpec) :=
  OpenClaim.holds_of_wide 3 Try.f3 rfl rfl rfl rfl rfl rfl rfl ⟨rfl, rfl, rfl, rfl, rfl⟩ rfl rfl rfl rfl rfl (by kernel_rfl) Try.func3 (by kernel_rfl)
    (of_decide_eq_true (by kernel_rfl)) (by unfold Func.isWrapper; first | (rw [if_pos (by decide +kernel)]; kernel_rfl) | (rw [if_neg (by decide +kernel)]; exact ⟨rfl, rfl⟩))
    (fun os started H enc _ => lifted os started H enc)

end Go.Proofs.Ytlhnglhoecpgfaa.fnNearest
namespace Go.Proofs.Ytlhnglhoecpgfaa

theorem FnNearest_holds : Rows.FnNearestSaid := fnNearest.over

end Go.Proofs.Ytlhnglhoecpgfaa
