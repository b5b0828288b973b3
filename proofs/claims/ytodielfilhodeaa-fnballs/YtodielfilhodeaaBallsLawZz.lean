/-
  FnBalls holds: for every list of bytes the law of balls answers true and leaves its argument alone; no condition.
-/
import Derived.Test.YtodielfilhodeaaBytesZz
import Derived.Test.YtodielfilhodeaaMDraw2Zz
import Derived.Test.YtodielfilhodeaaVDrawZz
import Derived.Test.YtodielfilhodeaaMathZz
import Derived.Test.YtodielfilhodeaaVLikeZz
import Derived.Test.YtodielfilhodeaaVLookZz
import Derived.Test.YtodielfilhodeaaVLeadZz
import Derived.Test.YtodielfilhodeaaKLkSZz
namespace Go.Proofs.Ytodielfilhodeaa.fnBalls
open Go.ChangeShapes Go.WideShapes Go.ChangeAt Go.RowKit
set_option linter.unusedVariables false

theorem own : ownKnob Try.prog.godebug = none := by kernel_rfl
theorem laidOut : laidOutB Try.prog = true := by kernel_rfl

set_option maxRecDepth 100000 in
set_option maxHeartbeats 16000000 in
theorem walk (ao0 : Option Addr) (len0 cap0 : Nat) (w : World) (hv0 : CodeV w ao0 len0) (hn0 : len0 ≤ maxLen) :
    Calls Try.prog 5 #[.slice ao0 len0 cap0] w fun e w' => e = .returned (.bool true) ∧ Below w.heap.size w w' := by
  unfold maxLen at hn0
  by_cases hbig : 4096 < len0
  · go_enter Try.func5, Try.ntmps5
    go_wp2_with (go_at_call 8; refine (bigC _ _ _ _).mono ?_; rintro e w' ⟨rfl, rfl⟩)
    go_ret
    exact ⟨rfl, Below.refl _ _⟩
  have hn : len0 ≤ 4096 := by omega
  have hbb : decide (4096 < (len0 : Int)) = false := by simp; omega
  clear hn0 hbig
  go_enter Try.func5, Try.ntmps5
  go_wp2_with fail
  refine (bigC _ _ _ _).mono ?_
  rintro e wd0 ⟨rfl, hu0⟩
  subst hu0
  rw [hbb]
  go_wp2_with fail
  refine (cBallsD ao0 len0 cap0 _ hv0 hn).mono ?_
  rintro e w1 ⟨a1, c1, ms, rfl, hcp, hmv, hms, L1⟩
  have HM := hidP (And.intro hmv L1)
  clear hmv L1 hbb
  go_wp2_with fail
  refine (iBalls a1 c1 ms _ hcp HM.out.1 hms).mono ?_
  rintro e w2 ⟨v, rfl, hgot, L2⟩
  obtain ⟨a2, c2, rfl, hbv⟩ := hgot.view
  have L02 := chain HM.out.2 L2
  have hv2 := hv0.below (Nat.le_refl _) L02
  have HB := hidP (And.intro (HM.out.1.next L2) (And.intro hbv L02))
  clear hgot hbv L2 L02 HM
  have hbl : (ballsV ms).length ≤ 60 := balls_len ms
  go_wp2_with fail
  refine (cClosest ao0 len0 cap0 _ hv2 hn).mono ?_
  rintro e w3 ⟨a3, c3, ks, g, c, xs, rfl, hkv, hlen, hat, hxv, hxl, L3⟩
  have hsm := ks_small hlen hat
  have hbsm := balls_small ms
  have hmv3 := HB.out.1.next L3
  have hbv3 := HB.out.2.1.next L3
  have HL3 := hidP (chain HB.out.2.2 L3)
  have HIC := hidP (iClosest a3 (some ⟨g, 0, none⟩) c3 c ks xs w3 hkv hsm hxv (by omega))
  have HIS := hidP (fun w4 (L : Below w3.heap.size w3 w4) => iSpared a3 (some ⟨g, 0, none⟩) c3 c ks xs w4 (hkv.next L) hsm (hxv.next L) (by omega))
  have HSC := hidP (fun w4 (L : Below w3.heap.size w3 w4) => sClosest a3 (some ⟨g, 0, none⟩) c3 c ks xs w4 (hkv.next L) hsm (hxv.next L) (by omega))
  have HSB := hidP (fun w4 (L : Below w3.heap.size w3 w4) => sBalls a1 c1 ms w4 hcp (hmv3.next L) hms)
  have HLB := hidP (fun w4 (L : Below w3.heap.size w3 w4) a4 c4 (h : KView w4 a4 (ballsV ms)) => likeBS a2 a4 c2 c4 (ballsV ms) w4 (hbv3.next L) h hbsm)
  have HSS := hidP (fun w4 (L : Below w3.heap.size w3 w4) => sSpared a3 (some ⟨g, 0, none⟩) c3 c ks xs w4 (hkv.next L) hsm (hxv.next L) (by omega))
  have HIB := hidP (fun w4 (L : Below w3.heap.size w3 w4) => iBallsOk a3 c3 ks w4 (hkv.next L) hsm)
  have HSK := hidP (fun w4 (L : Below w3.heap.size w3 w4) => sBallsOk a3 c3 ks w4 (hkv.next L) hsm)
  have HMO := hidP (fun w4 (L : Below w3.heap.size w3 w4) => sMarks a1 c1 ms w4 (hmv3.next L) hms)
  have HIK := hidP (fun w4 (L : Below w3.heap.size w3 w4) => iBallsOk a2 c2 (ballsV ms) w4 (hbv3.next L) hbsm)
  have HV3 := hidP (And.intro hbv3 (And.intro hkv hxv))
  have hn1 : ((closestV ks xs).1 != (closestV ks xs).1) = false := by simp
  have hn2 : ((closestV ks xs).2 != (closestV ks xs).2) = false := by simp
  have hn3 : (sparedV ks xs != sparedV ks xs) = false := by simp
  have hn4 : (ballsB ks != ballsB ks) = false := by simp
  have HZ := hidP (fun h => closest_zero (ks := ks) (q := xs) h)
  have HLE := hidP (fun h => closest_least (ks := ks) (q := xs) h)
  have HSP := hidP (fun h => spared_some (ks := ks) (q := xs) h)
  have HAG := hidP (fun h => balls_again (ms := ms) h)
  have HEA := hidP (fun h => balls_each (ms := ms) h)
  have HNL := hidP (fun h => ballsV_length ms h)
  have HNO : Hid (marksB ms = false → ballsV ms = []) := fun h => by simp [ballsV, h]
  clear hkv hxv hmv3 hbv3 L3 HB hv2 hv0
  generalize hbV : ballsV ms = bs at *
  generalize closestV ks xs = R at *
  generalize sparedV ks xs = S at *
  obtain ⟨rid, rd⟩ := R
  simp only at *
  go_wp2_with fail
  refine HIC.out.mono ?_
  rintro e w4 ⟨rfl, L4⟩
  have HI4 := hidP (And.intro L4 (HIS.out w4 L4))
  clear L4
  go_wp2_with fail
  refine HI4.out.2.mono ?_
  rintro e w5 ⟨rfl, L5⟩
  have HI5 := hidP (And.intro (chain HI4.out.1 L5) (HSC.out w5 (chain HI4.out.1 L5)))
  clear L5
  go_wp2_with fail
  refine HI5.out.2.mono ?_
  rintro e w6 ⟨rfl, L6⟩
  have HI6 := hidP (chain HI5.out.1 L6)
  clear L6
  go_wp2_with fail
  refine (HSB.out w6 HI6.out).mono ?_
  rintro e w7 ⟨v, rfl, hgot, L7⟩
  obtain ⟨a4, c4, rfl, hv4⟩ := hgot.view
  have L37 := chain HI6.out L7
  have HI7 := hidP (And.intro L37 (HLB.out w7 L37 a4 c4 hv4))
  clear hgot hv4 L7 L37
  go_wp2_with fail
  refine HI7.out.2.mono ?_
  rintro e w8 ⟨rfl, L8⟩
  have HI8 := hidP (And.intro (chain HI7.out.1 L8) (HSS.out w8 (chain HI7.out.1 L8)))
  clear L8
  go_wp2_with fail
  refine HI8.out.2.mono ?_
  rintro e w9 ⟨rfl, L9⟩
  have HI9 := hidP (And.intro (chain HI8.out.1 L9) (HIB.out w9 (chain HI8.out.1 L9)))
  clear L9
  go_wp2_with fail
  refine HI9.out.2.mono ?_
  rintro e w10 ⟨rfl, L10⟩
  have HI10 := hidP (And.intro (chain HI9.out.1 L10) (HSK.out w10 (chain HI9.out.1 L10)))
  clear L10
  go_wp2_with fail
  refine HI10.out.2.mono ?_
  rintro e w11 ⟨rfl, L11⟩
  have HI11 := hidP (And.intro (chain HI10.out.1 L11) (HMO.out w11 (chain HI10.out.1 L11)))
  clear L11
  rcases hm : marksB ms with _ | _
  · have hb0 : bs.length = 0 := by rw [HNO.out hm]; rfl
    rw [hm] at HI11
    rw [hb0]
    clear HSB HLB HIK hm
    go_wp2_with fail
    refine HI11.out.2.mono ?_
    rintro e w12 ⟨rfl, n12, hw12⟩
    subst hw12
    go_wp2_with fail
    go_ret
    exact ⟨rfl, below_drewN (chain HL3.out HI11.out.1) _⟩
  · have hll : ((bs.length : Int) != (ms.length : Int)) = false := by rw [HNL.out hm]; simp
    have HE := hidP (HEA.out hm)
    have HBB := (HAG.out hm).2
    rw [HBB] at HIK
    rw [hm] at HI11
    clear HSB HLB HBB hm HAG HEA HNL HNO hbV
    go_wp2_with fail
    refine HI11.out.2.mono ?_
    rintro e w12 ⟨rfl, n12, hw12⟩
    have L12 : Below w3.heap.size w3 w12 := by rw [hw12]; exact below_drewN HI11.out.1 _
    have HI12 := hidP (And.intro L12 (HIK.out w12 L12))
    clear hw12 L12
    go_wp2_with fail
    refine HI12.out.2.mono ?_
    rintro e w13 ⟨rfl, L13⟩
    have HI13 := hidP (chain HI12.out.1 L13)
    clear L13 HIK HI12 HI11 HI10 HI9 HI8 HI7 HI6 HI5 HI4 HIC HIS HSC HSS HIB HSK HMO
    go_wp2_with fail
    go_loopw [12] (fun i wr => ∃ k : Nat, k ≤ bs.length ∧ i = .int .i64 k ∧ Below w3.heap.size w3 wr) (fun i _ => bs.length - (intOf i).toNat)
    case atStart => exact ⟨0, Nat.zero_le _, rfl, HI13.out⟩
    case round =>
      obtain ⟨k, hk, rfl, L⟩ := hrel
      by_cases hlt : k < bs.length
      · obtain ⟨b, off, rfl, hb, hs⟩ : ∃ b off, a2 = some ⟨b, off, none⟩ ∧ b < wr.heap.size ∧ KSeg wr b off bs := by
          rcases HV3.out.1.next L with h | h
          · rw [h] at hlt; simp at hlt
          · exact h
        obtain ⟨c0, ⟨ao1, ca1, c1', hv1⟩, c2', c3', c4'⟩ := hs k hlt
        obtain ⟨hnear, hapart⟩ : ((knth bs k).2.2.1 = -1 ∨ ∃ j : Nat, (knth bs k).2.2.1 = (j : Int) ∧ j < bs.length ∧ stepsV (knth bs j).1.2 (knth bs k).1.2 ≤ (knth bs k).2.1) ∧ ((knth bs k).2.2.2 = -1 ∨ ∃ j : Nat, (knth bs k).2.2.2 = (j : Int) ∧ j < bs.length ∧ (knth bs k).2.1 ≤ stepsV (knth bs j).1.2 (knth bs k).1.2) := HE.out k hlt
        have hi0 : (0 : Int) ≤ (k : Int) := Int.natCast_nonneg _
        have hi1 : (k : Int) < (bs.length : Int) := by omega
        obtain ⟨W, hW⟩ : ∃ W, W = wr.alloc (.cells #[.int .i64 (knth bs k).1.1, .slice ao1 (knth bs k).1.2.length ca1, .int .i64 (knth bs k).2.1, .int .i64 (knth bs k).2.2.1, .int .i64 (knth bs k).2.2.2] 57) := ⟨_, rfl⟩
        have A : Below wr.heap.size wr W := by rw [hW]; exact alloc_below wr _
        have F : Five W wr.heap.size (.int .i64 (knth bs k).1.1) (.slice ao1 (knth bs k).1.2.length ca1) (.int .i64 (knth bs k).2.1) (.int .i64 (knth bs k).2.2.1) (.int .i64 (knth bs k).2.2.2) 57 := by rw [hW]; exact Five.new wr _ _ _ _ _ _
        obtain ⟨x0, x1, x2, x3, x4⟩ := F.cells
        have HT : Hid (∀ j, j < bs.length → ∃ aj cj, W.cell? ⟨b, off + j * 5 + 1, none⟩ = some (.slice aj (knth bs j).1.2.length cj) ∧ ∀ n, Calls Try.prog 39 #[.slice aj (knth bs j).1.2.length cj, .slice ao1 (knth bs k).1.2.length ca1] (W.drewN n) fun e w'' => e = .returned (.int .i64 (stepsV (knth bs j).1.2 (knth bs k).1.2)) ∧ ∃ m, w'' = W.drewN m) := fun j hj => by
          obtain ⟨d0, ⟨aj, cj, d1, hvj⟩, _⟩ := (hs j hj).below hb A
          refine ⟨aj, cj, d1, fun n => ?_⟩
          refine (sSteps aj ao1 cj ca1 (knth bs j).1.2 (knth bs k).1.2 (W.drewN n) (hvj.drewN n) ((hv1.next A).drewN n) (hbsm.2 j) (hbsm.2 k)).mono ?_
          rintro e w'' ⟨rfl, m, rfl⟩
          exact ⟨rfl, n + m, by rw [World.drewN_drewN]⟩
        have HLW := hidP (chain L A)
        have HKn := hidP (And.intro hlt hk)
        clear hs hv1 L A F
        generalize knth bs k = p at *
        obtain ⟨⟨pid, pat⟩, rad, near, apart⟩ := p
        simp only at *
        rcases hnear with hnr | ⟨j, hnr, hj, hst⟩
        · subst hnr
          rcases hapart with har | ⟨j, har, hj, hst⟩
          · subst har
            clear HT
            go_wp2_with fail
            rw [← hW]
            clear hW
            refine wp_region_quiet_lit (by kernel_rfl) (by kernel_rfl) ?_
            try simp only [List.append_eq, List.cons_append, List.nil_append]
            repeat (go_big_quiet_step (fail))
            refine wpQuiet_nil ?_
            intro _ hw'
            obtain ⟨nq, hw''⟩ := hw'
            subst hw''
            go_wp2_with fail
            go_roundw
            case rel => exact ⟨k + 1, by have := HKn.out.1; omega, by go_num, below_drewN HLW.out nq⟩
            case measure => have := HKn.out.1; simp [intOf]; omega
          · subst har
            obtain ⟨aj, cj, y1, HC⟩ := HT.out j hj
            have HCC := hidP HC
            have hj0 : (0 : Int) ≤ (j : Int) := Int.natCast_nonneg _
            have hj1 : (j : Int) < (bs.length : Int) := by omega
            generalize knth bs j = pj at *
            obtain ⟨⟨jid, jat⟩, jr⟩ := pj
            simp only at *
            generalize stepsV jat pat = st at *
            have hcmp : ¬ (st < rad) := by omega
            have hcmp' : decide (st < rad) = false := by simp; omega
            clear HT HC
            go_wp2_with fail
            rw [← hW]
            clear hW
            refine wp_region_quiet_lit (by kernel_rfl) (by kernel_rfl) ?_
            try simp only [List.append_eq, List.cons_append, List.nil_append]
            repeat (go_big_quiet_step ((go_at_call 39; exact HCC.out _)))
            refine wpQuiet_nil ?_
            intro _ hw'
            obtain ⟨nq, hw''⟩ := hw'
            subst hw''
            go_wp2_with fail
            go_roundw
            case rel => exact ⟨k + 1, by have := HKn.out.1; omega, by go_num, below_drewN HLW.out nq⟩
            case measure => have := HKn.out.1; simp [intOf]; omega
        · subst hnr
          obtain ⟨aj, cj, y1, HC⟩ := HT.out j hj
          have HCC := hidP HC
          have hj0 : (0 : Int) ≤ (j : Int) := Int.natCast_nonneg _
          have hj1 : (j : Int) < (bs.length : Int) := by omega
          clear HC
          generalize hpj : knth bs j = pj at y1 HCC hst
          obtain ⟨⟨jid, jat⟩, jr⟩ := pj
          simp only at y1 HCC hst
          generalize hst1 : stepsV jat pat = st at HCC hst
          have hcmp : ¬ (rad < st) := by omega
          have hcmp' : decide (rad < st) = false := by simp; omega
          clear hpj hst1
          rcases hapart with har | ⟨j2, har, hj2, hst2⟩
          · subst har
            clear HT
            go_wp2_with fail
            rw [← hW]
            clear hW
            refine wp_region_quiet_lit (by kernel_rfl) (by kernel_rfl) ?_
            try simp only [List.append_eq, List.cons_append, List.nil_append]
            repeat (go_big_quiet_step ((go_at_call 39; exact HCC.out _)))
            refine wpQuiet_nil ?_
            intro _ hw'
            obtain ⟨nq, hw''⟩ := hw'
            subst hw''
            go_wp2_with fail
            go_roundw
            case rel => exact ⟨k + 1, by have := HKn.out.1; omega, by go_num, below_drewN HLW.out nq⟩
            case measure => have := HKn.out.1; simp [intOf]; omega
          · subst har
            obtain ⟨aj2, cj2, y2, HC2⟩ := HT.out j2 hj2
            have HCC2 := hidP HC2
            have hj20 : (0 : Int) ≤ (j2 : Int) := Int.natCast_nonneg _
            have hj21 : (j2 : Int) < (bs.length : Int) := by omega
            clear HT HC2
            generalize knth bs j2 = pj2 at *
            obtain ⟨⟨jid2, jat2⟩, jr2⟩ := pj2
            simp only at *
            generalize stepsV jat2 pat = st2 at *
            have hcmp2 : ¬ (st2 < rad) := by omega
            have hcmp2' : decide (st2 < rad) = false := by simp; omega
            go_wp2_with fail
            rw [← hW]
            clear hW
            refine wp_region_quiet_lit (by kernel_rfl) (by kernel_rfl) ?_
            try simp only [List.append_eq, List.cons_append, List.nil_append]
            iterate 20 (go_big_quiet_step ((go_at_call 39; exact HCC.out _)))
            repeat (go_big_quiet_step ((go_at_call 39; exact HCC2.out _)))
            refine wpQuiet_nil ?_
            intro _ hw'
            obtain ⟨nq, hw''⟩ := hw'
            subst hw''
            go_wp2_with fail
            go_roundw
            case rel => exact ⟨k + 1, by have := HKn.out.1; omega, by go_num, below_drewN HLW.out nq⟩
            case measure => have := HKn.out.1; simp [intOf]; omega
      · obtain rfl : k = bs.length := by omega
        have HL := hidP L
        clear L HE
        by_cases hneg : rd < 0
        · have hz : rid = 0 := HZ.out hneg
          subst hz
          go_wp2_with fail
          go_ret
          exact ⟨rfl, chain HL3.out HL.out⟩
        · have hneg' : 0 ≤ rd := by omega
          have HLE' := hidP (HLE.out hneg')
          obtain ⟨hs0, hs1⟩ := HSP.out hneg'
          go_wp2_with fail
          go_loopw [14] (fun i wr => ∃ k : Nat, k ≤ ks.length ∧ i = .int .i64 k ∧ Below w3.heap.size w3 wr) (fun i _ => ks.length - (intOf i).toNat)
          case atStart => exact ⟨0, Nat.zero_le _, rfl, HL.out⟩
          case round =>
            obtain ⟨k, hk, rfl, L⟩ := hrel
            by_cases hlt : k < ks.length
            · obtain ⟨b, off, rfl, hb, hs⟩ : ∃ b off, a3 = some ⟨b, off, none⟩ ∧ b < wr.heap.size ∧ KSeg wr b off ks := by
                rcases HV3.out.2.1.next L with h | h
                · rw [h] at hlt; simp at hlt
                · exact h
              obtain ⟨c0, ⟨ao1, ca1, c1', hv1⟩, _⟩ := hs k hlt
              obtain ⟨hle, hid⟩ : rd ≤ stepsV (knth ks k).1.2 xs ∧ (stepsV (knth ks k).1.2 xs = rd → rid ≤ (knth ks k).1.1) := HLE'.out k hlt
              have HC := hidP (sSteps ao1 (some ⟨g, 0, none⟩) ca1 c (knth ks k).1.2 xs wr hv1 (HV3.out.2.2.next L) (hsm.2 k) (by omega))
              have HC0 : Hid (∀ n, (wr.drewN n).cell? ⟨b, off + k * 5, none⟩ = some (.int .i64 (knth ks k).1.1)) := fun n => c0
              have hi0 : (0 : Int) ≤ (k : Int) := Int.natCast_nonneg _
              have hi1 : (k : Int) < (ks.length : Int) := by omega
              have HLW := hidP L
              clear hs hv1 L c0
              generalize knth ks k = p at *
              obtain ⟨⟨pid, pat⟩, pr⟩ := p
              simp only at *
              generalize stepsV pat xs = st at *
              have hc1 : ¬ (st < rd) := by omega
              have hc1' : decide (st < rd) = false := by simp; omega
              go_wp2_with fail
              refine HC.out.mono ?_
              rintro e w14 ⟨rfl, n14, hw14⟩
              subst hw14
              have c0 := HC0.out n14
              by_cases heq : st = rd
              · have he1 : (st == rd) = true := by simp [heq]
                have hc2 : ¬ (pid < rid) := by have := hid heq; omega
                have hc2' : decide (pid < rid) = false := by simp; omega
                go_wp2_with fail
                go_roundw
                case rel => exact ⟨k + 1, by omega, by go_num, below_drewN HLW.out n14⟩
                case measure => simp [intOf]; omega
              · have he1 : (st == rd) = false := beq_eq_false_iff_ne.2 heq
                go_wp2_with fail
                go_roundw
                case rel => exact ⟨k + 1, by omega, by go_num, below_drewN HLW.out n14⟩
                case measure => simp [intOf]; omega
            · obtain rfl : k = ks.length := by omega
              have HL := hidP L
              clear L
              have hd1 : decide (0 ≤ S) = true := by simp [hs0]
              have hd2 : decide (S < (ks.length : Int)) = true := by simp [hs1]
              go_wp2_with fail
              go_ret
              exact ⟨rfl, chain HL3.out HL.out⟩

set_option maxRecDepth 100000 in
theorem lifted (os : Os) (started : os.Started) (H : Type) (enc : TypeId × Value → H) :
    ReturnsInHanded {} Try.checked os 5 .any (Rows.fnBallsSpec.pre6 enc Try.prog Try.f5 Rows.fnBallsRow.domain false) (Rows.fnBallsSpec.post enc Try.prog Try.f5 false true false false) := by
  refine returnsInHanded_of_change (C := Try.checked) own started (by kernel_rfl) Try.func5
    (ChangeSpec.witness6 (enc := enc) (C := Try.checked) false ⟨#[], #[.slice none 0 0], []⟩ 8 (by kernel_rfl) (by kernel_rfl) (by kernel_rfl) (by kernel_rfl)) ?_
  intro W base args ds gs before hval0 hW hcnd _
  have hval : ∀ (j : Nat) t v, Try.f5.params[j]? = some t → args[j]? = some v → Value.okWide Try.prog W .any base t v := hval0
  have hW' := hW
  obtain ⟨p, q, hA0, hV, rfl, hfz, hnd⟩ := hW
  have hA : DataW.TrodAll enc Try.prog W 0 (fun _ => true) true Try.f5.params.toList args.toList ds p := hA0
  rw [Try.params5] at hA hval
  obtain ⟨v0, vs0, d0, ds0, p0, q0, hargs, rfl, rfl, h0, r0⟩ := trodAll_cons hA
  obtain ⟨rfl, rfl, rfl⟩ := trodAll_nil r0
  obtain rfl : args = #[v0] := by cases args; simp_all
  obtain ⟨rfl, rfl⟩ := trodVars_none hV
  obtain ⟨a0, len0, cap0, rfl⟩ := okWide_slice Try.underlying22 (hval 0 22 v0 rfl rfl)
  have k0 := h0
  have lt0 : ∀ x ∈ p0, x.block < W.heap.size := by obtain ⟨m, hm⟩ := k0; exact DataW.trod_lt m _ _ _ hm
  obtain ⟨hv0, hn0⟩ := (by obtain ⟨fuel, hf⟩ := h0; exact code_view hf : CodeV W a0 len0 ∧ len0 ≤ maxLen)
  clear hA0 hval0
  refine (walk a0 len0 cap0 W hv0 hn0).mono fun e W' ⟨he, bel⟩ => ?_
  subst he
  exact ⟨_, rfl, _, _, _, [], _, [], hW', trodAll_mk1 (shut_bool Try.underlying4 _), (trodAll_cons_mk (Below.trod laidOut (by kernel_rfl) (of_decide_eq_true (by kernel_rfl)) k0 bel lt0) trodAll_mk0), rfl, bel.frame _, fun h => by cases h⟩

theorem over : Rows.fnBallsRow.holds Try.pinned (OpenSpec.ofChange Rows.fnBallsSpec) :=
  OpenClaim.holds_of_wide 5 Try.f5 rfl rfl rfl rfl rfl rfl rfl ⟨rfl, rfl, rfl, rfl, rfl⟩ rfl rfl rfl rfl rfl (by kernel_rfl) Try.func5 (by kernel_rfl)
    (of_decide_eq_true (by kernel_rfl)) (by unfold Func.isWrapper; first | (rw [if_pos (by decide +kernel)]; kernel_rfl) | (rw [if_neg (by decide +kernel)]; exact ⟨rfl, rfl⟩))
    (fun os started H enc _ => lifted os started H enc)

end Go.Proofs.Ytodielfilhodeaa.fnBalls
namespace Go.Proofs.Ytodielfilhodeaa

theorem FnBalls_holds : Rows.FnBallsSaid := fnBalls.over

end Go.Proofs.Ytodielfilhodeaa
