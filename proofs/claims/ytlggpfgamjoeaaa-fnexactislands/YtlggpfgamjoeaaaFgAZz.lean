/-
  The program's Walk and Islands.
  The program's Islands.
-/
import Derived.Test.YtlggpfgamjoeaaaFg9Zz
import Derived.Test.YtlggpfgamjoeaaaFeWk2Zz
namespace Go.Proofs.Ytlggpfgamjoeaaa
open Go Go.RowKit

theorem walkG_ne (ms : List Mk) (ls : List (List Int)) (q : List Int) (x : Int) : walkG ms ls q x ≠ [] := by
  unfold walkG
  cases rkW ms q x with
  | zero => simp [walkF]
  | succ n => simp only [walkF]; split <;> simp
theorem dd_far {ms : List Mk} {q : List Int} (h : toldB ms q = true) : ddQ ms q = farD ms q := by
  funext x
  have hq : okB q = true := by
    simp only [toldB, Bool.and_eq_true] at h
    exact h.1.2
  have h4 := okB_len hq
  unfold ddQ farD
  rw [if_neg (by omega), farV_comm]
theorem told_web {ms : List Mk} {ls : List (List Int)} {fr : Int} {q : List Int} (h : toldW ms ls fr q = true) : LkWeb ms ls q ∧ 0 ≤ zFind ms fr ∧ ddQ ms q = farD ms q := by
  obtain ⟨h1, h2, h3⟩ := (toldW_iff _ _ _ _).1 h
  refine ⟨⟨h1, fun _ i hi => ?_⟩, h3, dd_far h2⟩
  have hm := web_marks h1
  simp only [toldB, Bool.and_eq_true, Bool.or_eq_true, decide_eq_true_eq] at h2
  obtain ⟨⟨-, hq⟩, hl⟩ := h2
  have a := (mOkAt_iff ms i).1 (marksB_at hm hi)
  have hlen : q.length = (mat ms i).length := by
    rcases hl with e | e
    · omega
    · omega
  unfold twoB
  simp [hq, a.2.2.1, hlen]

set_option maxRecDepth 100000 in
set_option maxHeartbeats 1000000 in
theorem iWalk14 : IWalk := by
  intro am cm ms al cl ls fr aq cq q w hm hl hqv hsm hcs hql hcm hcl hcq
  obtain ⟨W, hW⟩ : ∃ W, w.alloc (.cells #[.slice am ms.length cm, .slice al ls.length cl] 27) = W := ⟨_, rfl⟩
  have hB : Below w.heap.size w W := by rw [← hW]; exact (Below.refl _ _).alloc (Nat.le_refl _) _
  have hI : WebIn W w.heap.size am cm ms al cl ls := by rw [← hW]; exact WebIn.box hm hl
  have HML := hidP (iMayLook am al aq cm cl cq ms ls fr q W hI.mv hI.cv (hqv.next hB) hsm hcs hql hcm hcl)
  have HB := hidP hB
  have HI := hidP hI
  have HQ := hidP (hqv.next hB)
  have k0 := hI.c0
  have k1 := hI.c1
  clear hm hl hB hI hsm hcs hqv
  rcases ht : toldW ms ls fr q with _ | _
  · have HV : Hid (walkL ms ls fr q = []) := by show _ = _; simp [walkL, ht]
    rw [ht] at HML
    rw [HV.out]
    clear ht
    go_enter Try.func11, Try.ntmps11
    go_wp2_with fail
    refine HML.out.mono ?_
    rintro e w1 ⟨rfl, L1⟩
    have HL1 := hidP (chain HB.out L1)
    clear L1
    go_wp2_with fail
    go_ret
    exact ⟨none, 0, rfl, Or.inl ⟨rfl, rfl⟩, HL1.out⟩
  · obtain ⟨hw, hf, hdd⟩ := told_web ht
    have HV : Hid (walkL ms ls fr q = walkG ms ls q fr) := by show _ = _; simp [walkL, ht]
    rw [ht] at HML
    have HWF := hidP (And.intro hw (And.intro hf hdd))
    clear ht hw hf hdd
    go_enter Try.func11, Try.ntmps11
    go_wp2_with fail
    refine HML.out.mono ?_
    rintro e w1 ⟨rfl, L1⟩
    have hI1 := HI.out.below L1
    have HL1 := hidP (chain HB.out L1)
    have HLO := hidP (iLooked14 am al aq cm cl cq ms ls fr q 1 w1 ⟨hI1.mv, hI1.cv, HQ.out.next L1⟩ HWF.out.1 HWF.out.2.1)
    clear L1 k0 k1 hW
    have k0 := hI1.c0
    have k1 := hI1.c1
    clear hI1
    go_wp2_with fail
    refine HLO.out.mono ?_
    rintro e w2 ⟨G, rfl, s2, op2, hto, hend, as2, cs2, vs2, ao2, co2, hg⟩
    rw [HWF.out.2.2] at hto
    have HOP : Hid (walkL ms ls fr q = op2) := by show _ = _; rw [HV.out]; exact look_walk HWF.out.1.web HWF.out.2.1 hto hend
    obtain ⟨-, -, -, -, g4⟩ := hg.five.cells
    have HG := hidP hg
    clear hto hend hg k0 k1
    go_wp2_with fail
    go_ret
    have hL := HL1.out
    have hg := HG.out
    rw [HOP.out]
    refine ⟨ao2, co2, rfl, ?_, hL.trans (hg.bel.mono hL.size)⟩
    have hrow := hg.opr
    by_cases h0 : 0 < op2.length
    · obtain ⟨g, e, -, -, -⟩ := own_cell hrow (by rw [numC_len]; exact h0)
      subst e
      refine Or.inr ⟨g, co2, rfl, ?_⟩
      obtain ⟨h1, h2⟩ := hrow
      refine ⟨h1, ?_⟩
      rcases h2 with ⟨e1, e2⟩ | ⟨g', cp, cur, e1, hb, h5⟩
      · omega
      · exact Or.inr ⟨g', cp, cur, e1, Nat.le_trans hL.size hb, h5⟩
    · obtain rfl : op2 = [] := List.length_eq_zero_iff.1 (by omega)
      exact absurd HOP.out (by
        rw [HV.out]
        intro e
        have := walkG_ne ms ls q fr
        exact this e)
end Go.Proofs.Ytlggpfgamjoeaaa
namespace Go.Proofs.Ytlggpfgamjoeaaa
open Go Go.RowKit

set_option maxRecDepth 100000 in
set_option maxHeartbeats 2000000 in
theorem iIslands14 : IIslands := by
  intro am cm ms al cl ls w hm hl hsm hcs hcm hcl
  obtain ⟨W, hW⟩ : ∃ W, w.alloc (.cells #[.slice am ms.length cm, .slice al ls.length cl] 27) = W := ⟨_, rfl⟩
  have hB : Below w.heap.size w W := by rw [← hW]; exact (Below.refl _ _).alloc (Nat.le_refl _) _
  have hI : WebIn W w.heap.size am cm ms al cl ls := by rw [← hW]; exact WebIn.box hm hl
  have HOK := hidP (iWebOk14 am cm ms al cl ls W hI.mv hI.cv hsm hcs hcm hcl)
  have HB := hidP hB
  have HI := hidP hI
  have HLI : Hid (LkIn w am ms al ls none []) := ⟨hm, hl, Or.inl rfl⟩
  have k0 := hI.c0
  have k1 := hI.c1
  clear hm hl hB hI hsm hcs
  rcases hwb : webB ms ls with _ | _
  · have HV : Hid (islV ms ls = -1) := by show _ = _; simp [islV, hwb]
    rw [hwb] at HOK
    rw [HV.out]
    clear hwb
    go_enter Try.func22, Try.ntmps22
    go_wp2_with fail
    refine HOK.out.mono ?_
    rintro e w1 ⟨rfl, L1⟩
    have HL1 := hidP (chain HB.out L1)
    clear L1
    go_wp2_with fail
    go_ret
    exact ⟨rfl, HL1.out⟩
  · have HV : Hid (islV ms ls = (islN ms ls ms.length : Nat)) := by show _ = _; simp [islV, hwb]
    have HWB : Hid (LkWeb ms ls []) := ⟨hwb, fun h => absurd rfl h⟩
    rw [hwb] at HOK
    have hm60 := marksB_len (web_marks hwb)
    clear hwb
    go_enter Try.func22, Try.ntmps22
    go_wp2_with fail
    refine HOK.out.mono ?_
    rintro e w1 ⟨rfl, L1⟩
    have hI1 := HI.out.below L1
    have HI1 := hidP hI1
    have HL1 := hidP (chain HB.out L1)
    clear L1 k0 k1 hW
    have k0 := hI1.c0
    have k1 := hI1.c1
    obtain ⟨W2, hW2⟩ : ∃ W, w1.alloc (.cells #[.slice am ms.length cm, .slice al ls.length cl, .slice none 0 0, .slice none 0 0, .slice none 0 0] 72) = W := ⟨_, rfl⟩
    have L2 : Below w1.heap.size w1 W2 := by rw [← hW2]; exact (Below.refl _ _).alloc (Nat.le_refl _) _
    have hF : Fiv W2 w1.heap.size (.slice am ms.length cm) (.slice al ls.length cl) (.slice none 0 0) (.slice none 0 0) (.slice none 0 0) 72 := by rw [← hW2]; exact Fiv.new w1 _ _ _ _ _ _
    have HG2 := hidP (gz_start w am al none cm cl 0 ms ls [] W2 w1.heap.size (chain HL1.out L2) hF HL1.out.size)
    have hBl := hI1.lt
    have HW2 := hidP hW2
    clear L2 hF hI1 hW2
    go_wp2_with fail
    rw [HW2.out]
    clear hBl k0 k1 HW2
    generalize w1.heap.size = G at *
    go_loopw [15, 4] (fun i pv wr => ∃ (k : Nat) (s : List Ht) (op : List Int) (as2 : Option Addr) (cs2 : Nat) (vs2 : List Value) (ao2 : Option Addr) (co2 : Nat), k ≤ ms.length ∧ i = .int .i64 k ∧ pv = .int .i64 (islN ms ls k : Nat) ∧ IslOk ms ls (ddQ ms []) k s op ∧ Gz w wr G am cm ms al cl ls none 0 [] s op as2 cs2 vs2 ao2 co2) (fun i _ _ => ms.length - (intOf i).toNat)
    case atStart => exact ⟨0, [], [], none, 0, [], none, 0, Nat.zero_le _, rfl, rfl, IslOk.start ms ls _, HG2.out⟩
    case round =>
      obtain ⟨k, s, op, as2, cs2, vs2, ao2, co2, hk, rfl, rfl, his, hg⟩ := hrel
      have hil := islN_le ms ls k
      by_cases hlt : k < ms.length
      · obtain ⟨b, off, rfl, hbr, hs⟩ := MSeg.seg (HLI.out.mv.next hg.bel) (by omega)
        obtain ⟨c0, ao, cc, c1, -⟩ := hs.at (i := k) hlt
        have hk0 : (0 : Int) ≤ (k : Int) := Int.natCast_nonneg _
        have hk1 : (k : Int) < (ms.length : Int) := by omega
        have hfm := zFind_mid (web_marks HWB.out.web) hlt
        obtain ⟨V, hV⟩ : ∃ V, wr.alloc (.cells #[.int .i64 (mid ms k), .slice ao (mat ms k).length cc] 36) = V := ⟨_, rfl⟩
        have LV : Below wr.heap.size wr V := by rw [← hV]; exact (Below.refl _ _).alloc (Nat.le_refl _) _
        have hm0 : V.cell? ⟨wr.heap.size, 0, none⟩ = some (.int .i64 (mid ms k)) := by rw [← hV]; simp
        have hsh := his.ok.short
        have HSE := hidP (iSee w V G cm cl 0 cs2 co2 _ al none as2 ao2 ms ls [] op s vs2 (mid ms k) (hg.next LV) HLI.out HWB.out his.ok.look (by omega) (by omega))
        have HNB := hidP (his.old HWB.out.web hlt)
        have HIS := hidP his
        have hnn : (islN ms ls (k + 1) : Nat) = islN ms ls k + if newB ms ls k = true then 1 else 0 := rfl
        have HNN := hidP hnn
        clear hs hfm LV his hg hnn hsh
        rcases hb : hasB (idsH s) (mid ms k) with _ | _
        · have HN1 : Hid (((islN ms ls (k + 1) : Nat) : Int) = (islN ms ls k : Nat) + 1) := by
            show _ = _
            rw [HNN.out, HNB.out, hb]
            simp
          have h0s : 0 < (seeD (ddQ ms []) s (mid ms k)).length := by
            obtain ⟨j, hj, -⟩ := idsH_at (seeD_mem (dd := ddQ ms []) (s := s) (x := mid ms k) (y := mid ms k) |>.2 (Or.inl rfl))
            omega
          rw [hb] at HSE
          clear hb HNN HNB
          go_wp2_with fail
          refine HSE.out.mono ?_
          rintro e w3 ⟨rfl, as3, cs3, vs3, hg3⟩
          have HFM := zFind_mid (web_marks HWB.out.web) hlt
          have HOF := hidP (iOpenFirst w w3 G cm cl 0 cs3 co2 _ al none as3 ao2 ms ls [] op _ vs3 60 hg3 HLI.out HWB.out (HIS.out.ok.see (by omega)) h0s)
          clear hg3 HFM hV hm0 c0 c1
          go_wp2_with fail
          refine HOF.out.mono ?_
          rintro e w4 ⟨rfl, s4, op4, hto, hend, as4, cs4, vs4, ao4, co4, hg4⟩
          have HIK := hidP (HIS.out.more HWB.out.web hlt (by omega) hto hend)
          have HG4 := hidP hg4
          clear hto hend hg4
          generalize islN ms ls k = nk at *
          go_wp2_with fail
          go_roundw
          case rel => exact ⟨k + 1, s4, op4, as4, cs4, vs4, ao4, co4, by omega, by go_num, by rw [HN1.out], HIK.out, HG4.out⟩
          case measure => simp [intOf]; omega
        · have HN1 : Hid (islN ms ls (k + 1) = islN ms ls k) := by
            show _ = _
            rw [HNN.out, HNB.out, hb]
            simp
          have HS : Hid (seeD (ddQ ms []) s (mid ms k) = s) := by show _ = _; unfold seeD; rw [hb]; rfl
          have HIK := hidP (HIS.out.pass ((hasB_iff _ _).1 hb))
          rw [hb] at HSE
          clear hb HNN HNB
          go_wp2_with fail
          refine HSE.out.mono ?_
          rintro e w3 ⟨rfl, as3, cs3, vs3, hg3⟩
          rw [HS.out] at hg3
          have HG3 := hidP hg3
          clear hg3 hV hm0 c0 c1
          go_wp2_with fail
          go_roundw
          case rel => exact ⟨k + 1, s, op, as3, cs3, vs3, ao2, co2, by omega, by go_num, by rw [HN1.out], HIK.out, HG3.out⟩
          case measure => simp [intOf]; omega
      · obtain rfl : k = ms.length := by omega
        have HG := hidP hg
        clear hg his
        go_wp2_with fail
        go_ret
        exact ⟨ret_int HV.out.symm, HG.out.bel⟩
end Go.Proofs.Ytlggpfgamjoeaaa
