/-
  FnBeams over the program's Beam and Islands: true distances in order, and one as wide as all tells all of an island.
-/
import Derived.Test.YtmembegdbceooaaFeDrZz
import Derived.Test.YtmembegdbceooaaFeWkZz
import Derived.Test.YtmembegdbceooaaMathZz
import Derived.Test.YtmembegdbceooaaWithZz
import Derived.Test.YtmembegdbceooaaHHokZz
import Derived.Test.YtmembegdbceooaaBytesZz
import Derived.Deep.CutRange
import Derived.Deep.CutBlock
namespace Go.Proofs.Ytmembegdbceooaa
open Go Go.RowKit

/-- Is this number among the first m? -/
def fndB (s : List Ht) (y : Int) (m : Nat) : Bool := (s.take m).any (fun h => h.1 == y)
theorem fndB_succ {s : List Ht} {m : Nat} (h : m < s.length) (y : Int) : fndB s y (m + 1) = (fndB s y m || ((hnth s m).1 == y)) := by
  unfold fndB
  rw [List.take_add_one, List.getElem?_eq_getElem h, List.any_append]
  simp [hnth, List.getD, h]
theorem fndB_all {s : List Ht} {y : Int} {m : Nat} (h : m < s.length) (e : (hnth s m).1 = y) : fndB s y s.length = true := by
  unfold fndB
  rw [List.take_length, List.any_eq_true]
  refine ⟨hnth s m, by simp [hnth, List.getD, h], by simp [e]⟩
theorem hits_at {ms : List Mk} {q : List Int} {x : Ht} (h : x ∈ hitsL ms q) : ∃ n, n < ms.length ∧ mid ms n = x.1 ∧ farV (mat ms n) q = x.2 := by
  obtain ⟨m, hm, rfl⟩ := List.mem_map.1 h
  obtain ⟨n, hn, e⟩ := List.mem_iff_getElem.1 hm
  refine ⟨n, hn, ?_, ?_⟩
  · simp [mid, List.getD, hn, e, hitF]
  · simp [mat, List.getD, hn, e, hitF]

set_option maxRecDepth 100000 in
set_option maxHeartbeats 40000000 in
theorem walkBeams (HI0 : IBeam) (HJ0 : IIslands) (ao0 : Option Addr) (len0 cap0 : Nat) (w : World) (hv0 : CodeV w ao0 len0) :
    Calls Try.prog 3 #[.slice ao0 len0 cap0] w fun e w' => e = .returned (.bool true) ∧ Below w.heap.size w w' := by
  have HI := hidP HI0
  have HJ := hidP HJ0
  clear HI0 HJ0
  by_cases hbig : 4096 < len0
  · have hbb : decide (4096 < (len0 : Int)) = true := by simp; omega
    go_enter Try.func3, Try.ntmps3
    go_wp2_with fail
    refine (bigC ao0 len0 cap0 _).mono ?_
    rintro e w1 ⟨rfl, hw1⟩
    subst hw1
    go_wp2_with fail
    go_ret
    exact ⟨rfl, Below.refl _ _⟩
  have hbb : decide (4096 < (len0 : Int)) = false := by simp; omega
  have hn : len0 ≤ 4096 := by omega
  have HV0 := hidP hv0
  clear hbig hv0
  go_enter Try.func3, Try.ntmps3
  go_wp2_with fail
  refine (bigC ao0 len0 cap0 _).mono ?_
  rintro e w0 ⟨rfl, hw0⟩
  subst hw0
  rw [hbb]
  clear hbb
  go_wp2_with fail
  refine (cDrawBeam ao0 len0 cap0 _ HV0.out hn).mono ?_
  rintro e w1 ⟨am, cm, al, cl, ms, ls, fr, aq, cq, q, wide, rfl, hd, L1⟩
  obtain ⟨A, hA⟩ : ∃ A, A = w1.heap.size := ⟨_, rfl⟩
  obtain ⟨W2, hW2⟩ : ∃ W, w1.alloc (.cells #[.slice am ms.length cm, .slice al ls.length cl] 27) = W := ⟨_, rfl⟩
  have L2 : Below w1.heap.size w1 W2 := by rw [← hW2]; exact (Below.refl _ _).alloc (Nat.le_refl _) _
  have hI2 : WebIn W2 A am cm ms al cl ls := by rw [← hW2, hA]; exact WebIn.box hd.mv hd.cv
  have HW2 := hidP hW2
  have HB2 := hidP (chain L1 L2)
  have HD := hidP hd
  have HQ2 := hidP (hd.qv.next L2)
  have HI2 := hidP hI2
  clear hW2 L1 L2 hd HV0
  have HWK := hidP (HI.out am cm ms al cl ls fr aq cq q wide W2 hI2.mv hI2.cv HQ2.out HD.out.msm HD.out.csm (by have := HD.out.q6; omega) HD.out.mc HD.out.lc HD.out.qc)
  have k0 := hI2.c0
  have k1 := hI2.c1
  clear hI2
  obtain ⟨b1, b2, b3, b4⟩ := beam_ok ms ls fr q wide
  go_wp2_with fail
  rw [HW2.out, ← hA]
  clear HW2 hA
  refine HWK.out.mono ?_
  rintro e w3 ⟨a, c, rfl, hout, L3⟩
  have hI3 := HI2.out.below L3
  have HQ3 := hidP (HQ2.out.next L3)
  have HHV3 : Hid (HView w3 a (beamL ms ls fr q wide)) := hout.slice
  have HB3 := hidP (chain HB2.out L3)
  have HSW := hidP (sBeam am al aq cm cl cq ms ls q fr wide w3 hI3.mv hI3.cv HQ3.out HD.out.msm HD.out.csm (by have := HD.out.q6; omega))
  have HI3 := hidP hI3
  clear hout L3 HWK k0 k1
  have k0 := hI3.c0
  have k1 := hI3.c1
  clear hI3
  obtain ⟨hb, hhb⟩ : ∃ hb, beamL ms ls fr q wide = hb := ⟨_, rfl⟩
  rw [hhb] at b1 b2 b3 b4 HHV3 HSW ⊢
  have HHB := hidP hhb
  clear hhb
  have HBT := hidP b2
  clear b2
  have HGOAL : Hid (((hb.length : Int) > wide) → ¬ (wide > 0)) := fun h1 h2 => by have := b3 h2; omega
  clear b3
  go_upto_region 5 with fail
  go_cut [59] from 29 to 153 (fun v wx => v = .bool false ∧ Below w3.heap.size w3 wx)
  case first =>
    go_wp2_with fail
    refine HSW.out.mono ?_
    rintro e w4 ⟨g4, c4, rfl, hrow4, L4⟩
    have HI4 := hidP (HI3.out.below L4)
    have HQ4 := hidP (HQ3.out.next L4)
    have HHV4 := hidP (HHV3.out.next L4)
    have HL4 := hidP L4
    have HLK := hidP (likeHS a (some ⟨g4, 0, none⟩) c c4 hb hb w4 HHV4.out hrow4.view (by omega))
    rw [decide_eq_true rfl] at HLK
    clear hrow4 L4 HSW k0 k1
    go_wp2_with fail
    refine HLK.out.mono ?_
    rintro e w5 ⟨rfl, n5, hw5⟩
    subst hw5
    have HOK5 := hidP (iHitsOk14 a c hb (w4.drewN n5) HHV4.out (by omega))
    rw [b1] at HOK5
    go_wp2_with fail
    refine HOK5.out.mono ?_
    rintro e w6 ⟨rfl, L6'⟩
    have L6 : Below w4.heap.size w4 w6 := chain (below_drewN (Below.refl _ _) n5) L6'
    have HI6 := hidP (HI4.out.below L6)
    have HQ6 := hidP (HQ4.out.next L6)
    have HHV6 := hidP (HHV4.out.next L6)
    have HB6 := hidP (chain HL4.out L6)
    have HTR := hidP (trulyS a am aq c cm cq hb ms q w6 HHV6.out HI6.out.mv HQ6.out (by omega) HD.out.msm (by have := HD.out.q6; omega) (fun i hi => hits_at (HBT.out _ (by simp [hnth, List.getD, hi]))))
    have k0 := HI6.out.c0
    have k1 := HI6.out.c1
    clear L6 L6' HOK5 HLK HI4 HQ4 HHV4 HL4
    go_wp2_with fail
    refine HTR.out.mono ?_
    rintro e w7 ⟨rfl, n7, hw7⟩
    subst hw7
    clear HTR k0 k1
    by_cases h1 : (hb.length : Int) > wide
    · have h2 := HGOAL.out h1
      go_wp2_with fail
      go_meet
      exact ⟨congrArg Value.bool (decide_eq_false (by omega)), below_drewN HB6.out n7⟩
    · go_wp2_with fail
      go_meet
      exact ⟨rfl, below_drewN HB6.out n7⟩
  case rest =>
    obtain ⟨rfl, L7⟩ := hcut
    generalize hwc : wc = w7 at *
    clear hwc wc k0 k1
    have hI7 := HI3.out.below L7
    have HQ7 := hidP (HQ3.out.next L7)
    have HB7 := hidP (chain HB3.out L7)
    have HWA := hidP (HI.out am cm ms al cl ls fr aq cq q 60 w7 hI7.mv hI7.cv HQ7.out HD.out.msm HD.out.csm (by have := HD.out.q6; omega) HD.out.mc HD.out.lc HD.out.qc)
    have HI7 := hidP hI7
    have k0 := hI7.c0
    have k1 := hI7.c1
    obtain ⟨-, -, -, s60⟩ := beam_ok ms ls fr q 60
    clear hI7 L7 HI3 HQ3 HB3 HSW HHV3 HBT HGOAL b1
    go_wp2_with fail
    refine HWA.out.mono ?_
    rintro e w8 ⟨a8, c8, rfl, hout8, L8⟩
    have hI8 := HI7.out.below L8
    have HQ8 := hidP (HQ7.out.next L8)
    have HHV8 : Hid (HView w8 a8 (beamL ms ls fr q 60)) := hout8.slice
    have HB8 := hidP (chain HB7.out L8)
    have HI8 := hidP hI8
    clear hout8 L8 HWA HI7 HQ7 HB7 k0 k1
    have HBN := hidP (fun h : beamL ms ls fr q 60 = [] => beam_none h wide)
    rw [HHB.out] at HBN
    have HTO : Hid (beamL ms ls fr q 60 ≠ [] → toldW ms ls fr q = true) := fun h => by
      unfold beamL at h
      split at h
      · rename_i hc; exact hc.1
      · exact absurd rfl h
    rcases hs0 : beamL ms ls fr q 60 with _ | ⟨h0, s0⟩
    · have hb0 : hb = [] := HBN.out hs0
      rw [hb0]
      go_wp2_with fail
      go_ret
      exact ⟨rfl, HB8.out⟩
    have ht := HTO.out (by rw [hs0]; simp)
    obtain ⟨ids, hbo, hfr, hcl⟩ := beam_all ht
    rw [← hs0]
    have hs1 : 0 < (beamL ms ls fr q 60).length := by rw [hs0]; simp
    clear hs0
    have HONE := hidP (fun h1 : islN ms ls ms.length = 1 => beam_one ht h1)
    obtain ⟨hw, -, -⟩ := told_parts ht
    obtain ⟨s, hs⟩ : ∃ s, beamL ms ls fr q 60 = s := ⟨_, rfl⟩
    rw [hs] at s60 HHV8 hbo hs1 HONE ⊢
    have HAT : Hid (∀ i, i < s.length → (hnth s i).1 ∈ ids) := fun i hi => (hbo.at hi).1
    have HFA : Hid (∀ y ∈ ids, fndB s y s.length = true) := fun y hy => by
      obtain ⟨m, hm, e⟩ := hbo.mem hy
      exact fndB_all hm (by rw [e]; rfl)
    have HFR := hidP (HFA.out fr hfr)
    have HLN : Hid (∀ i k n, i < s.length → k < ms.length → mid ms k = (hnth s i).1 → n < (cn ls k).length → fndB s (nth (cn ls k) n) s.length = true) := fun i k n hi hk e hn' => by
      have hz := (zFind_mid (web_marks hw) hk).2
      have hx := HAT.out i hi
      rw [← e] at hx
      have := hcl _ hx (nth (cn ls k) n)
      rw [hz] at this
      exact HFA.out _ (this (by simp [nth, List.getD, hn']))
    have HWEB := hidP hw
    have HLLN := hidP (web_len hw)
    have h9 := HD.out.n9
    have hcs := HD.out.csm
    clear hs hbo hfr hcl HTO HBN ht hw HAT HFA
    obtain ⟨hb8, ho8, rfl, hbl8, hsg⟩ : ∃ b off, a8 = some ⟨b, off, none⟩ ∧ b < w8.heap.size ∧ HSeg w8 b off s := by
      rcases HHV8.out with h | h
      · rw [h] at hs1; simp at hs1
      · exact h
    have HSG := hidP hsg
    have hne : ((s.length : Int) == 0) = false := by rw [beq_eq_false_iff_ne]; omega
    have k0 := hI8.c0
    have k1 := hI8.c1
    clear hsg hI8
    go_wp2_with fail
    clear hne
    go_loopg [9, 10] s.length (fun gk ov iv wr => ∃ (i nn : Nat), i ≤ s.length ∧ s.length - i ≤ gk ∧ ov = .bool (fndB s fr i) ∧ iv = .int .i64 i ∧ wr = w8.drewN nn)
    case atStart => exact ⟨0, 0, Nat.zero_le _, Nat.sub_le _ _, rfl, rfl, rfl⟩
    case round =>
      obtain ⟨i, nn, hi, hgk, rfl, rfl, hwr⟩ := hrel
      subst hwr
      by_cases hlt : i < s.length
      · have hi0 : (0 : Int) ≤ (i : Int) := Int.natCast_nonneg _
        have hi1 : (i : Int) < (s.length : Int) := by omega
        have ci := (HSG.out i hlt).1
        have HSU := hidP (fndB_succ hlt fr)
        generalize hix : (hnth s i).1 = x at *
        have HIX := hidP hix
        clear hix
        go_upto_region 14 with fail
        go_cut [9] from 76 to 86 (fun v wx => v = .bool (fndB s fr (i + 1)) ∧ ∃ nq, wx = w8.drewN nq)
        case first =>
          rcases hf : fndB s fr i with _ | _
          · have HFE : Hid (fndB s fr (i + 1) = (x == fr)) := by show _ = _; rw [HSU.out, hf]; simp
            go_wp2_with fail
            go_meet
            exact ⟨by rw [HFE.out], nn, rfl⟩
          · have HFE : Hid (fndB s fr (i + 1) = true) := by show _ = _; rw [HSU.out, hf]; simp
            go_wp2_with fail
            go_meet
            exact ⟨by rw [HFE.out], nn, rfl⟩
        case rest =>
          obtain ⟨rfl, nq, hwq⟩ := hcut
          subst hwq
          clear HSU
          go_wp2_with fail
          go_loopg [11] ms.length (fun gk kv wr => ∃ (k nn : Nat), k ≤ ms.length ∧ ms.length - k ≤ gk ∧ kv = .int .i64 k ∧ wr = w8.drewN nn)
          case atStart => exact ⟨0, nq, Nat.zero_le _, Nat.sub_le _ _, rfl, rfl⟩
          case round =>
            obtain ⟨k, n2, hk, hgk2, rfl, hwr⟩ := hrel
            subst hwr
            by_cases hkl : k < ms.length
            · have hk0 : (0 : Int) ≤ (k : Int) := Int.natCast_nonneg _
              have hk1 : (k : Int) < (ms.length : Int) := by omega
              have hk2 : (k : Int) < (ls.length : Int) := by have := HLLN.out; omega
              obtain ⟨mb, mo, rfl, hmb, hms⟩ := MSeg.seg HI8.out.mv (by omega)
              have cmk := (hms.at (i := k) hkl).1
              obtain ⟨gb, go2, rfl, hgb, hcsg⟩ := HI8.out.cv.seg (by have := HLLN.out; omega)
              obtain ⟨ra, rc, lk, hlkv⟩ := hcsg k (by have := HLLN.out; omega)
              have hck := hcs.2 k
              have HLN2 := hidP (fun n => HLN.out i k n hlt hkl)
              rw [HIX.out] at HLN2
              clear hms hcsg
              by_cases hmx : mid ms k = x
              · have hb1 : (mid ms k != x) = false := by simp [hmx]
                have HLN3 := hidP (fun n => HLN2.out n hmx)
                clear hmx HLN2
                generalize mid ms k = mk at *
                generalize hrow : cn ls k = row at *
                clear hrow
                go_wp2_with fail
                refine wp_region_quiet_lit (by kernel_rfl) (by kernel_rfl) ?_
                try simp only [List.append_eq, List.cons_append, List.nil_append]
                repeat (go_big_quiet_step (fail))
                refine wpQuiet_nil ?_
                intro _ hw'
                obtain ⟨nq3, hw''⟩ := hw'
                subst hw''
                go_wp2_with fail
                go_loopg [12] row.length (fun gk nv wr => ∃ (n nn : Nat), n ≤ row.length ∧ row.length - n ≤ gk ∧ nv = .int .i64 n ∧ wr = w8.drewN nn)
                case atStart => exact ⟨0, n2 + nq3, Nat.zero_le _, Nat.sub_le _ _, rfl, by first | rfl | simp⟩
                case round =>
                  obtain ⟨n, n4, hn4, hgk4, rfl, hwr⟩ := hrel
                  subst hwr
                  by_cases hnl : n < row.length
                  · have hn0 : (0 : Int) ≤ (n : Int) := Int.natCast_nonneg _
                    have hn1 : (n : Int) < (row.length : Int) := by omega
                    obtain ⟨rb, ro, rfl, hrb, hrs⟩ : ∃ b off, ra = some ⟨b, off, none⟩ ∧ b < w8.heap.size ∧ Seg w8 b off row := by
                      rcases hlkv with h | h
                      · rw [h] at hnl; simp at hnl
                      · exact h
                    have cy := hrs n hnl
                    have HFD := hidP (HLN3.out n hnl)
                    generalize hyy : nth row n = y at *
                    clear hyy hrs
                    go_wp2_with fail
                    go_loopw [13, 14] (fun fv mv wr => ∃ (m nn : Nat), m ≤ s.length ∧ fv = .bool (fndB s y m) ∧ mv = .int .i64 m ∧ wr = w8.drewN nn) (fun _ mv _ => s.length - (intOf mv).toNat)
                    case atStart => exact ⟨0, n4, Nat.zero_le _, rfl, rfl, rfl⟩
                    case round =>
                      obtain ⟨m, n5, hm, rfl, rfl, hwr⟩ := hrel
                      subst hwr
                      by_cases hml : m < s.length
                      · have hm0 : (0 : Int) ≤ (m : Int) := Int.natCast_nonneg _
                        have hm1 : (m : Int) < (s.length : Int) := by omega
                        have cm' := (HSG.out m hml).1
                        have HSU := hidP (fndB_succ hml y)
                        generalize (hnth s m).1 = hx at *
                        rcases hf : fndB s y m with _ | _
                        · have HFE : Hid (fndB s y (m + 1) = (hx == y)) := by show _ = _; rw [HSU.out, hf]; simp
                          clear hf HSU
                          go_wp2_with fail
                          refine wp_region_quiet_lit (by kernel_rfl) (by kernel_rfl) ?_
                          try simp only [List.append_eq, List.cons_append, List.nil_append]
                          repeat (go_big_quiet_step (fail))
                          refine wpQuiet_nil ?_
                          intro _ hw'
                          obtain ⟨nq6, hw''⟩ := hw'
                          subst hw''
                          go_wp2_with fail
                          go_roundw
                          case rel => exact ⟨m + 1, n5 + nq6, by omega, by rw [HFE.out], by go_num, by first | rfl | simp⟩
                          case measure => simp [intOf]; omega
                        · have HFE : Hid (fndB s y (m + 1) = true) := by show _ = _; rw [HSU.out, hf]; simp
                          clear hf HSU
                          go_wp2_with fail
                          refine wp_region_quiet_lit (by kernel_rfl) (by kernel_rfl) ?_
                          try simp only [List.append_eq, List.cons_append, List.nil_append]
                          repeat (go_big_quiet_step (fail))
                          refine wpQuiet_nil ?_
                          intro _ hw'
                          obtain ⟨nq6, hw''⟩ := hw'
                          subst hw''
                          go_wp2_with fail
                          go_roundw
                          case rel => exact ⟨m + 1, n5 + nq6, by omega, by rw [HFE.out], by go_num, by first | rfl | simp⟩
                          case measure => simp [intOf]; omega
                      · have hmn : ¬ ((m : Int) < (s.length : Int)) := by omega
                        obtain rfl : m = s.length := by omega
                        rw [HFD.out]
                        go_wp2_with fail
                        go_roundg (row.length - (n + 1))
                        case rel => exact ⟨n + 1, n5, by omega, Nat.le_refl _, by go_num, rfl⟩
                        case measure => omega
                  · have hnn : ¬ ((n : Int) < (row.length : Int)) := by omega
                    go_wp2_with fail
                    go_roundg (ms.length - (k + 1))
                    case rel => exact ⟨k + 1, n4, by omega, Nat.le_refl _, by go_num, rfl⟩
                    case measure => omega
              · have hb1 : (mid ms k != x) = true := by simp [hmx]
                clear hmx HLN2
                generalize mid ms k = mk at *
                go_wp2_with fail
                refine wp_region_quiet_lit (by kernel_rfl) (by kernel_rfl) ?_
                try simp only [List.append_eq, List.cons_append, List.nil_append]
                repeat (go_big_quiet_step (fail))
                refine wpQuiet_nil ?_
                intro _ hw'
                obtain ⟨nq3, hw''⟩ := hw'
                subst hw''
                go_wp2_with fail
                go_roundg (ms.length - (k + 1))
                case rel => exact ⟨k + 1, n2 + nq3, by omega, Nat.le_refl _, by go_num, by first | rfl | simp⟩
                case measure => omega
            · have hkn : ¬ ((k : Int) < (ms.length : Int)) := by omega
              go_wp2_with fail
              go_roundg (s.length - (i + 1))
              case rel => exact ⟨i + 1, n2, by omega, Nat.le_refl _, rfl, by go_num, rfl⟩
              case measure => omega
      · have hin : ¬ ((i : Int) < (s.length : Int)) := by omega
        obtain rfl : i = s.length := by omega
        rw [HFR.out]
        have hI9 : WebIn (w8.drewN nn) A am cm ms al cl ls := HI8.out.below (below_drewN (Below.refl _ _) nn)
        have HQ9 : Hid (View (w8.drewN nn) aq q) := HQ8.out.next (below_drewN (Below.refl _ _) nn)
        have HJJ := hidP (HJ.out am cm ms al cl ls (w8.drewN nn) hI9.mv hI9.cv HD.out.msm HD.out.csm HD.out.mc HD.out.lc)
        have HIV : Hid (islV ms ls = (islN ms ls ms.length : Nat)) := by show _ = _; unfold islV; rw [if_pos HWEB.out]
        have HB9 : Hid (Below w.heap.size w (w8.drewN nn)) := below_drewN HB8.out nn
        have HI9 := hidP hI9
        have HV9 : Hid (HView (w8.drewN nn) (some ⟨hb8, ho8, none⟩) s) := HHV8.out.next (below_drewN (Below.refl _ _) nn)
        generalize hw9 : w8.drewN nn = w9 at *
        clear hw9 hI9 k0 k1
        have k0 := HI9.out.c0
        have k1 := HI9.out.c1
        go_wp2_with fail
        refine HJJ.out.mono ?_
        rintro e w10 ⟨rfl, L10⟩
        have hIA := HI9.out.below L10
        have HQA := hidP (HQ9.out.next L10)
        have HVA := hidP (HV9.out.next L10)
        have HBA := hidP (chain HB9.out L10)
        have HNR := hidP (sNear am aq cm cq ms q 60 w10 hIA.mv HQA.out HD.out.msm (by have := HD.out.q6; omega))
        have v0 := hIA.c0
        clear hIA L10 k0 k1 HJJ
        by_cases h1 : islV ms ls = 1
        · have hb1 : (islV ms ls != 1) = false := by simp [h1]
          have HSN : Hid (s = nearL ms q 60) := HONE.out (by have := HIV.out; omega)
          rw [← HSN.out] at HNR
          clear h1
          generalize islV ms ls = iv at *
          go_wp2_with fail
          refine HNR.out.mono ?_
          rintro e w11 ⟨g11, c11, rfl, hrow11, L11⟩
          have HLK := hidP (likeHS (some ⟨hb8, ho8, none⟩) (some ⟨g11, 0, none⟩) c8 c11 s s w11 (HVA.out.next L11) hrow11.view (by omega))
          rw [decide_eq_true rfl] at HLK
          have HBB := hidP (chain HBA.out L11)
          clear hrow11 L11
          go_wp2_with fail
          refine HLK.out.mono ?_
          rintro e w12 ⟨rfl, n12, hw12⟩
          subst hw12
          go_wp2_with fail
          go_ret
          exact ⟨rfl, below_drewN HBB.out n12⟩
        · have hb1 : (islV ms ls != 1) = true := by simp [h1]
          clear h1
          generalize islV ms ls = iv at *
          go_wp2_with fail
          go_ret
          exact ⟨rfl, HBA.out⟩
end Go.Proofs.Ytmembegdbceooaa
