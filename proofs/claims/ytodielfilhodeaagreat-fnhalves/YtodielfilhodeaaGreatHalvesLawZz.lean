/-
  FnHalves holds: for every list of bytes the law of halves answers true and leaves its argument alone; no condition.
-/
import Derived.Test.YtodielfilhodeaaGreatBytesZz
import Derived.Test.YtodielfilhodeaaGreatMDraw2Zz
import Derived.Test.YtodielfilhodeaaGreatKDrawZz
import Derived.Test.YtodielfilhodeaaGreatHM8Zz
import Derived.Test.YtodielfilhodeaaGreatKLikeZz
import Derived.Test.YtodielfilhodeaaGreatWithZz
import Derived.Test.YtodielfilhodeaaGreatKTallZz
import Derived.Test.YtodielfilhodeaaGreatMathZz
import Derived.Test.YtodielfilhodeaaGreatKLookZz
namespace Go.Proofs.YtodielfilhodeaaGreat.fnHalves
open Go.ChangeShapes Go.WideShapes Go.ChangeAt Go.RowKit
set_option linter.unusedVariables false

theorem own : ownKnob Tryz.prog.godebug = none := by kernel_rfl
theorem laidOut : laidOutB Tryz.prog = true := by kernel_rfl
theorem near60 (ms : List Mk) (q : List Int) (k : Int) : (nearL ms q k).length ≤ 60 := by
  unfold nearL
  split
  · rename_i h
    have hk : k ≤ 60 := by have := h.2; simp [countB] at this; omega
    have : ((sortL (hitsL ms q)).take k.toNat).length ≤ k.toNat := List.length_take_le _ _
    omega
  · simp
theorem bits60 (n : Nat) : bitsN 60 n ≤ 60 := by
  have : ∀ f n, bitsN f n ≤ f := by
    intro f
    induction f with
    | zero => intro n; exact Nat.le_refl _
    | succ f ih =>
      intro n
      unfold bitsN
      split
      · omega
      · have := ih (n / 2); omega
  exact this 60 n

set_option maxRecDepth 100000 in
set_option maxHeartbeats 16000000 in
theorem walk (ao0 : Option Addr) (len0 cap0 : Nat) (w : World) (hv0 : CodeV w ao0 len0) (hn0 : len0 ≤ maxLen) :
    Calls Tryz.prog 3 #[.slice ao0 len0 cap0] w fun e w' => e = .returned (.bool true) ∧ Below w.heap.size w w' := by
  unfold maxLen at hn0
  by_cases hbig : 4096 < len0
  · go_enter Tryz.func3, Tryz.ntmps3
    go_wp2_with (go_at_call 6; refine (bigC _ _ _ _).mono ?_; rintro e w' ⟨rfl, rfl⟩)
    go_ret
    exact ⟨rfl, Below.refl _ _⟩
  have hn : len0 ≤ 4096 := by omega
  have hbb : decide (4096 < (len0 : Int)) = false := by simp; omega
  clear hn0 hbig
  go_enter Tryz.func3, Tryz.ntmps3
  go_wp2_with fail
  refine (bigC _ _ _ _).mono ?_
  rintro e wd0 ⟨rfl, hu0⟩
  subst hu0
  rw [hbb]
  go_wp2_with fail
  refine (cHalvedH ao0 len0 cap0 _ hv0 hn).mono ?_
  rintro e w1 ⟨a1, c1, ms, rfl, hcp, hmv, hms, hm5, L1⟩
  have HM := hidP (And.intro hmv L1)
  clear hmv L1 hbb
  go_wp2_with fail
  refine (iHalved a1 c1 ms _ HM.out.1 hms).mono ?_
  rintro e w2 ⟨v, rfl, hgot, L2⟩
  obtain ⟨a2, c2, rfl, hbv⟩ := hgot.view
  have L02 := chain HM.out.2 L2
  have hv2 := hv0.below (Nat.le_refl _) L02
  have HB := hidP (And.intro (HM.out.1.next L2) (And.intro hbv L02))
  clear hgot hbv L2 L02 HM
  go_wp2_with fail
  refine (cFoundD ao0 len0 cap0 _ hv2 hn).mono ?_
  rintro e w3 ⟨a3, c3, ks, g, c, xs, kn, rfl, hkv, hlen, hat, hxv, hxl, L3⟩
  have hsm := ks_small hlen hat
  have hbsm := halved_small ms
  have L03 := chain HB.out.2.2 L3
  have hv3 := hv0.below (Nat.le_refl _) L03
  have HA := hidP (And.intro (HB.out.1.next L3) (And.intro (HB.out.2.1.next L3) (And.intro hkv (And.intro hxv L03))))
  have HIF := hidP (iFound a3 (some ⟨g, 0, none⟩) c3 c ks xs kn w3 hkv hsm hxv (by omega))
  clear hkv hxv L3 L03 HB hv2
  go_wp2_with fail
  refine HIF.out.mono ?_
  rintro e w4 ⟨vf, rfl, hof, L4⟩
  obtain ⟨a4, c4, rfl, hfv⟩ := hof.view
  have HF4 := hidP (And.intro hfv L4)
  have hv4 := hv3.below (Nat.le_refl _) L4
  clear hof hfv L4 HIF hv3
  go_wp2_with fail
  refine (cTallD ao0 len0 cap0 _ hv4 hn).mono ?_
  rintro e w5 ⟨a5, c5, ts, rfl, htv, htl, hta, L5⟩
  have htsm := ks_small htl hta
  have L35 := chain HF4.out.2 L5
  have hmv5 := HA.out.1.next L35
  have hbv5 := HA.out.2.1.next L35
  have hkv5 := HA.out.2.2.1.next L35
  have hxv5 := HA.out.2.2.2.1.next L35
  have hfv5 := HF4.out.1.next L5
  have hv5 := hv4.below (Nat.le_refl _) L5
  have HL5 := hidP (chain HA.out.2.2.2.2 L35)
  have HV5 := hidP (And.intro hbv5 (And.intro hmv5 hv5))
  have hfl := found_len ks xs kn
  have HSH := hidP (sHalved a1 c1 ms w5 hmv5 hms)
  have HLK := hidP (fun w6 (L : Below w5.heap.size w5 w6) a6 c6 (h : KView w6 a6 (halvedV ms)) => likeKnS a2 a6 c2 c6 (halvedV ms) w6 (hbv5.next L) h hbsm)
  have HSF := hidP (fun w6 (L : Below w5.heap.size w5 w6) => sFound a3 (some ⟨g, 0, none⟩) c3 c ks xs kn w6 (hkv5.next L) hsm (hxv5.next L) (by omega))
  have HLH : Hid (∀ w6, Below w5.heap.size w5 w6 → ∀ a6 c6, HView w6 a6 (foundV ks xs kn) → Calls Tryz.prog 14 #[.slice a4 (foundV ks xs kn).length c4, .slice a6 (foundV ks xs kn).length c6] w6 fun e w' => e = .returned (.bool true) ∧ ∃ n, w' = w6.drewN n) := fun w6 L a6 c6 h => by
    have := likeHS a4 a6 c4 c6 (foundV ks xs kn) (foundV ks xs kn) w6 (hfv5.next L) h (by omega)
    simpa using this
  have HIT := hidP (fun w6 (L : Below w5.heap.size w5 w6) => iTall a5 c5 ts w6 (htv.next L) htsm)
  have HST := hidP (fun w6 (L : Below w5.heap.size w5 w6) => sTall a5 c5 ts w6 (htv.next L) htsm)
  have HIK := hidP (fun w6 (L : Below w5.heap.size w5 w6) => iKnotsOk a3 c3 ks w6 (hkv5.next L) hsm)
  have HSK := hidP (fun w6 (L : Below w5.heap.size w5 w6) => sKnotsOk a3 c3 ks w6 (hkv5.next L) hsm)
  have HMO := hidP (fun w6 (L : Below w5.heap.size w5 w6) => sMarks a1 c1 ms w6 (hmv5.next L) hms)
  have HIB := hidP (fun w6 (L : Below w5.heap.size w5 w6) => iKnotsOk a2 c2 (halvedV ms) w6 (hbv5.next L) hbsm)
  have HIT2 := hidP (fun w6 (L : Below w5.heap.size w5 w6) => iTall a2 c2 (halvedV ms) w6 (hbv5.next L) hbsm)
  have HIF2 := hidP (fun w6 (L : Below w5.heap.size w5 w6) pa pc ps (h : View w6 pa ps) (hl : ps.length ≤ 1048576) => iFound a2 pa c2 pc (halvedV ms) ps 3 w6 (hbv5.next L) hbsm h hl)
  have HSN := hidP (fun w6 (L : Below w5.heap.size w5 w6) pa pc ps (h : View w6 pa ps) (hl : ps.length ≤ 1048576) => sNear a1 pa c1 pc ms ps 3 w6 (hmv5.next L) h hms hl)
  have hn1 : (tallV ts != tallV ts) = false := by simp
  have hbl : (halvedV ms).length ≤ 60 := halved_len ms
  have hn2 : (knotsB ks != knotsB ks) = false := by simp
  have HAG := hidP (fun h => halved_again (ms := ms) h)
  have HEA := hidP (fun h => halved_each (ms := ms) h)
  have HNL := hidP (fun h => halved_size (ms := ms) h)
  have HTL := hidP (fun h => halved_tall (ms := ms) h)
  have HFD := hidP (fun h => halved_found (ms := ms) h)
  have HNO : Hid (marksB ms = false → halvedV ms = []) := fun h => by simp [halvedV, h]
  have h60 : Hid (marksB ms = true → ms.length ≤ 60) := fun h => marksB_len h
  clear hkv5 hxv5 hmv5 hbv5 L5 L35 HA HF4 hv4 hv0 htv hfv5 hv5
  generalize halvedV ms = bs at *
  generalize foundV ks xs kn = R at *
  generalize tallV ts = T at *
  go_wp2_with fail
  refine HSH.out.mono ?_
  rintro e w6 ⟨v, rfl, hgot, L6⟩
  obtain ⟨a6, c6, rfl, hv6⟩ := hgot.view
  have HI6 := hidP (And.intro L6 (HLK.out w6 L6 a6 c6 hv6))
  clear hgot hv6 L6
  go_wp2_with fail
  refine HI6.out.2.mono ?_
  rintro e w7 ⟨rfl, L7⟩
  have HI7 := hidP (And.intro (chain HI6.out.1 L7) (HSF.out w7 (chain HI6.out.1 L7)))
  clear L7
  go_wp2_with fail
  refine HI7.out.2.mono ?_
  rintro e w8 ⟨g8, c8, rfl, hr8, L8⟩
  have HI8 := hidP (And.intro (chain HI7.out.1 L8) (HLH.out w8 (chain HI7.out.1 L8) _ c8 hr8.view))
  clear L8 hr8
  go_wp2_with fail
  refine HI8.out.2.mono ?_
  rintro e w9 ⟨rfl, n9, hw9⟩
  have L9 : Below w5.heap.size w5 w9 := by rw [hw9]; exact below_drewN HI8.out.1 n9
  have HI9 := hidP (And.intro L9 (HIT.out w9 L9))
  clear L9 hw9
  go_wp2_with fail
  refine HI9.out.2.mono ?_
  rintro e w10 ⟨rfl, L10⟩
  have HI10 := hidP (And.intro (chain HI9.out.1 L10) (HST.out w10 (chain HI9.out.1 L10)))
  clear L10
  go_wp2_with fail
  refine HI10.out.2.mono ?_
  rintro e w11 ⟨rfl, L11⟩
  have HI11 := hidP (And.intro (chain HI10.out.1 L11) (HIK.out w11 (chain HI10.out.1 L11)))
  clear L11
  go_wp2_with fail
  refine HI11.out.2.mono ?_
  rintro e w12 ⟨rfl, L12⟩
  have HI12 := hidP (And.intro (chain HI11.out.1 L12) (HSK.out w12 (chain HI11.out.1 L12)))
  clear L12
  go_wp2_with fail
  refine HI12.out.2.mono ?_
  rintro e w13 ⟨rfl, L13⟩
  have HI13 := hidP (And.intro (chain HI12.out.1 L13) (HMO.out w13 (chain HI12.out.1 L13)))
  clear L13
  rcases hm : marksB ms with _ | _
  · have hb0 : bs.length = 0 := by rw [HNO.out hm]; rfl
    rw [hm] at HI13
    rw [hb0]
    clear HSH HLK HIB HIT2 HIF2 hm
    go_wp2_with fail
    refine HI13.out.2.mono ?_
    rintro e w14 ⟨rfl, n14, hw14⟩
    subst hw14
    go_wp2_with fail
    go_ret
    exact ⟨rfl, below_drewN (chain HL5.out HI13.out.1) _⟩
  · have hll : ((bs.length : Int) != (ms.length : Int)) = false := by rw [HNL.out hm]; simp
    have HE := hidP (HEA.out hm)
    have HBB := (HAG.out hm).2
    have hml := h60.out hm
    have hT := HTL.out hm
    have HFN := hidP (HFD.out hm)
    rw [HBB] at HIB
    rw [hm] at HI13
    rw [hT] at HIT2
    clear HSH HLK HBB hm HAG HEA HNL HNO HTL HFD h60 hT
    go_wp2_with fail
    refine HI13.out.2.mono ?_
    rintro e w14 ⟨rfl, n14, hw14⟩
    have L14 : Below w5.heap.size w5 w14 := by rw [hw14]; exact below_drewN HI13.out.1 _
    have HI14 := hidP (And.intro L14 (HIB.out w14 L14))
    clear hw14 L14
    go_wp2_with fail
    refine HI14.out.2.mono ?_
    rintro e w15 ⟨rfl, L15⟩
    have HI15 := hidP (chain HI14.out.1 L15)
    clear L15 HIB HI14 HI13 HI12 HI11 HI10 HI9 HI8 HI7 HI6 HIT HST HIK HSK HMO HSF HLH
    go_wp2_with fail
    go_loopw [10] (fun i wr => ∃ k : Nat, k ≤ bs.length ∧ i = .int .i64 k ∧ Below w5.heap.size w5 wr) (fun i _ => bs.length - (intOf i).toNat)
    case atStart => exact ⟨0, Nat.zero_le _, rfl, HI15.out⟩
    case round =>
      obtain ⟨k, hk, rfl, L⟩ := hrel
      by_cases hlt : k < bs.length
      · obtain ⟨b, off, rfl, hb, hs⟩ : ∃ b off, a2 = some ⟨b, off, none⟩ ∧ b < wr.heap.size ∧ KSeg wr b off bs := by
          rcases HV5.out.1.next L with h | h
          · rw [h] at hlt; simp at hlt
          · exact h
        obtain ⟨c0, ⟨ao1, ca1, c1', hv1⟩, c2', c3', c4'⟩ := hs k hlt
        obtain ⟨ax, hax, haxl, hless, hmore⟩ : ∃ ax : Nat, (knth bs k).2.1 = (ax : Int) ∧ ax < (knth bs k).1.2.length ∧ ((knth bs k).2.2.1 = -1 ∨ ∃ j : Nat, (knth bs k).2.2.1 = (j : Int) ∧ k < j ∧ j < bs.length ∧ ax < (knth bs j).1.2.length ∧ nth (knth bs j).1.2 ax ≤ nth (knth bs k).1.2 ax) ∧ ((knth bs k).2.2.2 = -1 ∨ ∃ j : Nat, (knth bs k).2.2.2 = (j : Int) ∧ k < j ∧ j < bs.length ∧ ax < (knth bs j).1.2.length ∧ nth (knth bs k).1.2 ax ≤ nth (knth bs j).1.2 ax) := HE.out k hlt
        have hi0 : (0 : Int) ≤ (k : Int) := Int.natCast_nonneg _
        have hi1 : (k : Int) < (bs.length : Int) := by omega
        obtain ⟨W, hW⟩ : ∃ W, W = wr.alloc (.cells #[.int .i64 (knth bs k).1.1, .slice ao1 (knth bs k).1.2.length ca1, .int .i64 (knth bs k).2.1, .int .i64 (knth bs k).2.2.1, .int .i64 (knth bs k).2.2.2] 42) := ⟨_, rfl⟩
        have A : Below wr.heap.size wr W := by rw [hW]; exact alloc_below wr _
        have F : Five W wr.heap.size (.int .i64 (knth bs k).1.1) (.slice ao1 (knth bs k).1.2.length ca1) (.int .i64 (knth bs k).2.1) (.int .i64 (knth bs k).2.2.1) (.int .i64 (knth bs k).2.2.2) 42 := by rw [hW]; exact Five.new wr _ _ _ _ _ _
        obtain ⟨x0, x1, x2, x3, x4⟩ := F.cells
        have HT : Hid (∀ j, j < bs.length → ax < (knth bs j).1.2.length → ∃ bj oj cj, W.cell? ⟨b, off + j * 5 + 1, none⟩ = some (.slice (some ⟨bj, oj, none⟩) (knth bs j).1.2.length cj) ∧ W.cell? ⟨bj, oj + ax, none⟩ = some (.int .i64 (nth (knth bs j).1.2 ax))) := fun j hj hjl => by
          obtain ⟨d0, ⟨aj, cj, d1, hvj⟩, _⟩ := (hs j hj).below hb A
          obtain ⟨bj, oj, rfl, hbj, hsj⟩ := hvj.seg (by omega)
          exact ⟨bj, oj, cj, d1, hsj ax hjl⟩
        obtain ⟨bk, ok, rfl, hbk, hsk⟩ := (hv1.next A).seg (by omega)
        have z0 := hsk ax haxl
        have HLW := hidP (chain L A)
        have HKn := hidP (And.intro hlt hk)
        clear hs hv1 L A F hsk hbk
        generalize knth bs k = p at *
        obtain ⟨⟨pid, pat⟩, axi, less, more⟩ := p
        simp only at *
        subst hax
        generalize nth pat ax = P at *
        generalize pat.length = PL at *
        have hax0 : (0 : Int) ≤ (ax : Int) := Int.natCast_nonneg _
        have hax1 : (ax : Int) < (PL : Int) := by omega
        have HDO : Hid (True) := trivial
        rcases hless with hlr | ⟨jA, hlr, hkA, hjA, hjlA, hcA⟩
        · subst hlr
          rcases hmore with hmr | ⟨jB, hmr, hkB, hjB, hjlB, hcB⟩
          · subst hmr
            clear HT
            go_wp2_with fail
            rw [← hW]
            clear hW
            refine wp_region_quiet_lit (by kernel_rfl) (by kernel_rfl) ?_
            try simp only [List.append_eq, List.cons_append, List.nil_append]
            repeat (go_big_quiet_step (fail))
            refine wpQuiet_nil ?_
            intro _ hw'
            obtain ⟨nq, hw''⟩ := hw'
            subst hw''
            go_wp2_with fail
            go_roundw
            case rel => exact ⟨k + 1, by have := HKn.out.1; omega, by go_num, below_drewN HLW.out nq⟩
            case measure => have := HKn.out.1; simp [intOf]; omega
          · subst hmr
            obtain ⟨bjB, ojB, cjB, yB, zB⟩ := HT.out jB hjB hjlB
            have hjB0 : (0 : Int) ≤ (jB : Int) := Int.natCast_nonneg _
            have hjB1 : (jB : Int) < (bs.length : Int) := by omega
            have hjB2 : ¬ ((jB : Int) ≤ (k : Int)) := by omega
            have hjB2' : decide ((jB : Int) ≤ (k : Int)) = false := by simp; omega
            have hjB3 : ¬ (jB ≤ k) := by omega
            have hjB3' : decide (jB ≤ k) = false := by simp; omega
            have haxB : (ax : Int) < ((knth bs jB).1.2.length : Int) := by omega
            generalize hPB : nth (knth bs jB).1.2 ax = PB at yB zB hcB
            generalize hLB : (knth bs jB).1.2.length = LB at yB haxB hjlB
            have hdB : ¬ (PB < P) := by omega
            have hdB' : decide (PB < P) = false := by simp; omega
            clear HT
            go_wp2_with fail
            rw [← hW]
            clear hW
            refine wp_region_quiet_lit (by kernel_rfl) (by kernel_rfl) ?_
            try simp only [List.append_eq, List.cons_append, List.nil_append]
            repeat (go_big_quiet_step (fail))
            refine wpQuiet_nil ?_
            intro _ hw'
            obtain ⟨nq, hw''⟩ := hw'
            subst hw''
            go_wp2_with fail
            go_roundw
            case rel => exact ⟨k + 1, by have := HKn.out.1; omega, by go_num, below_drewN HLW.out nq⟩
            case measure => have := HKn.out.1; simp [intOf]; omega
        · subst hlr
          obtain ⟨bjA, ojA, cjA, yA, zA⟩ := HT.out jA hjA hjlA
          have hjA0 : (0 : Int) ≤ (jA : Int) := Int.natCast_nonneg _
          have hjA1 : (jA : Int) < (bs.length : Int) := by omega
          have hjA2 : ¬ ((jA : Int) ≤ (k : Int)) := by omega
          have hjA2' : decide ((jA : Int) ≤ (k : Int)) = false := by simp; omega
          have hjA3 : ¬ (jA ≤ k) := by omega
          have hjA3' : decide (jA ≤ k) = false := by simp; omega
          have haxA : (ax : Int) < ((knth bs jA).1.2.length : Int) := by omega
          generalize hPA : nth (knth bs jA).1.2 ax = PA at yA zA hcA
          generalize hLA : (knth bs jA).1.2.length = LA at yA haxA hjlA
          have hdA : ¬ (P < PA) := by omega
          have hdA' : decide (P < PA) = false := by simp; omega
          rcases hmore with hmr | ⟨jB, hmr, hkB, hjB, hjlB, hcB⟩
          · subst hmr
            clear HT
            go_wp2_with fail
            rw [← hW]
            clear hW
            refine wp_region_quiet_lit (by kernel_rfl) (by kernel_rfl) ?_
            try simp only [List.append_eq, List.cons_append, List.nil_append]
            repeat (go_big_quiet_step (fail))
            refine wpQuiet_nil ?_
            intro _ hw'
            obtain ⟨nq, hw''⟩ := hw'
            subst hw''
            go_wp2_with fail
            go_roundw
            case rel => exact ⟨k + 1, by have := HKn.out.1; omega, by go_num, below_drewN HLW.out nq⟩
            case measure => have := HKn.out.1; simp [intOf]; omega
          · subst hmr
            obtain ⟨bjB, ojB, cjB, yB, zB⟩ := HT.out jB hjB hjlB
            have hjB0 : (0 : Int) ≤ (jB : Int) := Int.natCast_nonneg _
            have hjB1 : (jB : Int) < (bs.length : Int) := by omega
            have hjB2 : ¬ ((jB : Int) ≤ (k : Int)) := by omega
            have hjB2' : decide ((jB : Int) ≤ (k : Int)) = false := by simp; omega
            have hjB3 : ¬ (jB ≤ k) := by omega
            have hjB3' : decide (jB ≤ k) = false := by simp; omega
            have haxB : (ax : Int) < ((knth bs jB).1.2.length : Int) := by omega
            generalize hPB : nth (knth bs jB).1.2 ax = PB at yB zB hcB
            generalize hLB : (knth bs jB).1.2.length = LB at yB haxB hjlB
            have hdB : ¬ (PB < P) := by omega
            have hdB' : decide (PB < P) = false := by simp; omega
            clear HT
            go_wp2_with fail
            rw [← hW]
            clear hW
            refine wp_region_quiet_lit (by kernel_rfl) (by kernel_rfl) ?_
            try simp only [List.append_eq, List.cons_append, List.nil_append]
            repeat (go_big_quiet_step (fail))
            refine wpQuiet_nil ?_
            intro _ hw'
            obtain ⟨nq, hw''⟩ := hw'
            subst hw''
            go_wp2_with fail
            go_roundw
            case rel => exact ⟨k + 1, by have := HKn.out.1; omega, by go_num, below_drewN HLW.out nq⟩
            case measure => have := HKn.out.1; simp [intOf]; omega
      · obtain rfl : k = bs.length := by omega
        have HL := hidP L
        clear L HE
        have hs60 : ∀ m : Nat, m ≤ ms.length → m ≤ 60 := fun m h => by omega
        go_wp2_with fail
        go_loopw [12, 13] (fun tv mv wr => ∃ (t m : Nat), tv = .int .i64 t ∧ mv = .int .i64 m ∧ m ≤ ms.length ∧ t ≤ 60 ∧ t + bitsN 60 m = bitsN 60 ms.length ∧ Below w5.heap.size w5 wr) (fun _ mv _ => (intOf mv).toNat)
        case atStart => exact ⟨0, ms.length, rfl, rfl, Nat.le_refl _, by omega, by omega, HL.out⟩
        case round =>
          obtain ⟨t, m, rfl, rfl, hmm, ht60, htm, L⟩ := hrel
          by_cases hm0 : 0 < m
          · have hb1 := bitsN_half hm0 (hs60 m hmm)
            have hmi : (m : Int) > 0 := by omega
            have hbd := bits60 ms.length
            have HL' := hidP L
            have htd : (m : Int).tdiv 2 = ((m / 2 : Nat) : Int) := by rw [Int.tdiv_eq_ediv_of_nonneg (by omega)]; omega
            clear L
            go_wp2_with fail
            go_roundw
            case rel => exact ⟨t + 1, m / 2, by go_num, by first | go_num | (rw [htd]; go_num) | (simp [htd]; done), by omega, by omega, by omega, HL'.out⟩
            case measure => simp [intOf]; omega
          · obtain rfl : m = 0 := by omega
            rw [bitsN_zero] at htm
            have htv : t = bitsN 60 ms.length := by omega
            subst htv
            have hv7 := HV5.out.2.2.below (Nat.le_refl _) L
            have HL' := hidP L
            clear L
            go_wp2_with fail
            refine (pointC ao0 len0 cap0 2 7 _ hv7 hn (by omega) (by omega) (by omega)).mono ?_
            rintro e w20 ⟨g20, c20, ps, rfl, hpl, hpx, hpv, L20⟩
            have L520 := chain HL'.out L20
            rcases Nat.eq_zero_or_pos ms.length with h0 | h0
            · have h0i : ¬ ((ms.length : Int) > 0) := by omega
              have HX := hidP (And.intro L520 (And.intro hpv hpl))
              clear L20 L520 hpv hpl hv7
              have H0 := hidP h0
              clear h0
              go_wp2_with fail
              refine (HIT2.out _ HX.out.1).mono ?_
              rintro e w22 ⟨rfl, L22⟩
              have L522 := chain HX.out.1 L22
              have hbeq : (((bitsN 60 ms.length : Nat) : Int) == ((bitsN 60 ms.length : Nat) : Int)) = true := by simp
              have pv22 := HX.out.2.1.next L22
              have HF := hidP (HIF2.out w22 L522 _ c20 ps pv22 (by have := HX.out.2.2; omega))
              have HY := hidP (And.intro L522 pv22)
              clear L22 L522 pv22
              go_wp2_with fail
              refine HF.out.mono ?_
              rintro e w23 ⟨vf, rfl, hof, L23⟩
              rw [HFN.out] at hof
              obtain ⟨af, cf, rfl, hfv⟩ := hof.view
              have L523 := chain HY.out.1 L23
              have HN := hidP (HSN.out w23 L523 _ c20 ps (HY.out.2.next L23) (by have := HX.out.2.2; omega))
              have HZ := hidP (And.intro L523 hfv)
              clear L23 L523 hfv hof HF
              have hnl : (nearL ms ps 3).length ≤ 1048576 := Nat.le_trans (near60 _ _ _) (by omega)
              generalize nearL ms ps 3 = NR at *
              go_wp2_with fail
              refine HN.out.mono ?_
              rintro e w24 ⟨gn, cn, rfl, hrn, L24⟩
              have HLL := hidP (likeHS af (some ⟨gn, 0, none⟩) cf cn NR NR w24 (HZ.out.2.next L24) hrn.view (by omega))
              have hself : decide (NR = NR) = true := by simp
              rw [hself] at HLL
              have HZ2 := hidP (chain HZ.out.1 L24)
              clear L24 hrn HN
              go_wp2_with fail
              refine HLL.out.mono ?_
              rintro e w25 ⟨rfl, n25, hw25⟩
              subst hw25
              go_wp2_with fail
              go_ret
              exact ⟨rfl, below_drewN (chain HL5.out HZ2.out) n25⟩
            · have h0i : (ms.length : Int) > 0 := by omega
              have h0j : (0 : Int) < (ms.length : Int) := by omega
              obtain ⟨b, off, rfl, hb, hs⟩ : ∃ b off, a1 = some ⟨b, off, none⟩ ∧ b < w20.heap.size ∧ MSeg w20 b off ms := by
                rcases (HV5.out.2.1.next L520) with h | h
                · rw [h] at h0; simp at h0
                · exact h
              obtain ⟨_, am, cam, hcm, vm⟩ := hs 0 h0
              simp only [Nat.zero_mul, Nat.add_zero] at hcm
              rw [mnth_2] at hcm
              have hm50 := hm5 0
              generalize (mat ms 0).length = ML at *
              have hv8 := hv7.below (Nat.le_refl _) L20
              have HX0 := hidP L520
              clear L20 L520 hpv hpl hv7 hs vm
              have HPT := hidP (pointC ao0 len0 cap0 ML 7 w20 hv8 hn (by omega) (by omega) (by omega))
              go_wp2_with fail
              refine HPT.out.mono ?_
              rintro e w21 ⟨g21, c21, ps', rfl, hpl', hpx', hpv', L21⟩
              have HX := hidP (And.intro (chain HX0.out L21) (And.intro hpv' hpl'))
              clear L21 hpv' hpl' hcm
              go_wp2_with fail
              refine (HIT2.out _ HX.out.1).mono ?_
              rintro e w22 ⟨rfl, L22⟩
              have L522 := chain HX.out.1 L22
              have hbeq : (((bitsN 60 ms.length : Nat) : Int) == ((bitsN 60 ms.length : Nat) : Int)) = true := by simp
              have pv22 := HX.out.2.1.next L22
              have HF := hidP (HIF2.out w22 L522 _ c21 ps' pv22 (by have := HX.out.2.2; omega))
              have HY := hidP (And.intro L522 pv22)
              clear L22 L522 pv22
              go_wp2_with fail
              refine HF.out.mono ?_
              rintro e w23 ⟨vf, rfl, hof, L23⟩
              rw [HFN.out] at hof
              obtain ⟨af, cf, rfl, hfv⟩ := hof.view
              have L523 := chain HY.out.1 L23
              have HN := hidP (HSN.out w23 L523 _ c21 ps' (HY.out.2.next L23) (by have := HX.out.2.2; omega))
              have HZ := hidP (And.intro L523 hfv)
              clear L23 L523 hfv hof HF
              have hnl : (nearL ms ps' 3).length ≤ 1048576 := Nat.le_trans (near60 _ _ _) (by omega)
              generalize nearL ms ps' 3 = NR at *
              go_wp2_with fail
              refine HN.out.mono ?_
              rintro e w24 ⟨gn, cn, rfl, hrn, L24⟩
              have HLL := hidP (likeHS af (some ⟨gn, 0, none⟩) cf cn NR NR w24 (HZ.out.2.next L24) hrn.view (by omega))
              have hself : decide (NR = NR) = true := by simp
              rw [hself] at HLL
              have HZ2 := hidP (chain HZ.out.1 L24)
              clear L24 hrn HN
              go_wp2_with fail
              refine HLL.out.mono ?_
              rintro e w25 ⟨rfl, n25, hw25⟩
              subst hw25
              go_wp2_with fail
              go_ret
              exact ⟨rfl, below_drewN (chain HL5.out HZ2.out) n25⟩

set_option maxRecDepth 100000 in
theorem lifted (os : Os) (started : os.Started) (H : Type) (enc : TypeId × Value → H) :
    ReturnsInHanded {} Tryz.checked os 3 .any (Rows.fnHalvesSpec.pre6 enc Tryz.prog Tryz.f3 Rows.fnHalvesRow.domain false) (Rows.fnHalvesSpec.post enc Tryz.prog Tryz.f3 false true false false) := by
  refine returnsInHanded_of_change (C := Tryz.checked) own started (by kernel_rfl) Tryz.func3
    (ChangeSpec.witness6 (enc := enc) (C := Tryz.checked) false ⟨#[], #[.slice none 0 0], []⟩ 8 (by kernel_rfl) (by kernel_rfl) (by kernel_rfl) (by kernel_rfl)) ?_
  intro W base args ds gs before hval0 hW hcnd _
  have hval : ∀ (j : Nat) t v, Tryz.f3.params[j]? = some t → args[j]? = some v → Value.okWide Tryz.prog W .any base t v := hval0
  have hW' := hW
  obtain ⟨p, q, hA0, hV, rfl, hfz, hnd⟩ := hW
  have hA : DataW.TrodAll enc Tryz.prog W 0 (fun _ => true) true Tryz.f3.params.toList args.toList ds p := hA0
  rw [Tryz.params3] at hA hval
  obtain ⟨v0, vs0, d0, ds0, p0, q0, hargs, rfl, rfl, h0, r0⟩ := trodAll_cons hA
  obtain ⟨rfl, rfl, rfl⟩ := trodAll_nil r0
  obtain rfl : args = #[v0] := by cases args; simp_all
  obtain ⟨rfl, rfl⟩ := trodVars_none hV
  obtain ⟨a0, len0, cap0, rfl⟩ := okWide_slice Tryz.underlying22 (hval 0 22 v0 rfl rfl)
  have k0 := h0
  have lt0 : ∀ x ∈ p0, x.block < W.heap.size := by obtain ⟨m, hm⟩ := k0; exact DataW.trod_lt m _ _ _ hm
  obtain ⟨hv0, hn0⟩ := (by obtain ⟨fuel, hf⟩ := h0; exact code_view hf : CodeV W a0 len0 ∧ len0 ≤ maxLen)
  clear hA0 hval0
  refine (walk a0 len0 cap0 W hv0 hn0).mono fun e W' ⟨he, bel⟩ => ?_
  subst he
  exact ⟨_, rfl, _, _, _, [], _, [], hW', trodAll_mk1 (shut_bool Tryz.underlying4 _), (trodAll_cons_mk (Below.trod laidOut (by kernel_rfl) (of_decide_eq_true (by kernel_rfl)) k0 bel lt0) trodAll_mk0), rfl, bel.frame _, fun h => by cases h⟩

theorem over : Rows.fnHalvesRow.holds Tryz.pinned (OpenSpec.ofChange Rows.fnHalvesSpec) :=
  OpenClaim.holds_of_wide 3 Tryz.f3 rfl rfl rfl rfl rfl rfl rfl ⟨rfl, rfl, rfl, rfl, rfl⟩ rfl rfl rfl rfl rfl (by kernel_rfl) Tryz.func3 (by kernel_rfl)
    (of_decide_eq_true (by kernel_rfl)) (by unfold Func.isWrapper; first | (rw [if_pos (by decide +kernel)]; kernel_rfl) | (rw [if_neg (by decide +kernel)]; exact ⟨rfl, rfl⟩))
    (fun os started H enc _ => lifted os started H enc)

end Go.Proofs.YtodielfilhodeaaGreat.fnHalves
namespace Go.Proofs.YtodielfilhodeaaGreat

theorem FnHalves_holds : Rows.FnHalvesSaid := fnHalves.over

end Go.Proofs.YtodielfilhodeaaGreat
