/-
  The given Given and Cost of chapter 10.
-/
import Derived.Test.YthcjkneifkmkdaaJRwZz
import Derived.Deep.Cut
import Derived.Deep.AppendLies
namespace Go.Proofs.Ythcjkneifkmkdaa
open Go Go.RowKit

theorem givenL_in {ms : List Mk} {cs : List (List Int)} (h : ctrsB ms cs = true) : givenL ms cs = tabL (givF ms cs) ms.length := by rw [givenL, if_pos h]
theorem givenL_no {ms : List Mk} {cs : List (List Int)} (h : ctrsB ms cs = false) : givenL ms cs = [] := by rw [givenL, h]; rfl
theorem costV_in {ms : List Mk} {cs : List (List Int)} (h : ctrsB ms cs = true) : costV ms cs = sumTo (costF ms cs) ms.length := by rw [costV, if_pos h]
theorem costV_no {ms : List Mk} {cs : List (List Int)} (h : ctrsB ms cs = false) : costV ms cs = -1 := by rw [costV, h]; rfl
theorem givF_def (ms : List Mk) (cs : List (List Int)) (k : Nat) : ((givI cs (mat ms k) cs.length : Nat) : Int) = givF ms cs k := rfl

set_option maxRecDepth 100000 in
set_option maxHeartbeats 2000000 in
theorem sGiven (ao ao' : Option Addr) (cap cap' : Nat) (ms : List Mk) (cs : List (List Int)) (w : World) (hv : MView w ao ms) (hv' : CView w ao' cs) (hsm : MSmall ms) (hcm : CSmall cs) :
    Calls Try.prog 16 #[.slice ao ms.length cap, .slice ao' cs.length cap'] w fun e w' => ∃ g c, e = .returned (.slice (some ⟨g, 0, none⟩) (givenL ms cs).length c) ∧ IRow w.heap.size w' g c (givenL ms cs) ∧ w.heap.size ≤ g ∧ Below w.heap.size w w' := by
  obtain ⟨w1, hw1⟩ : ∃ w1, w.alloc (.cells #[] 2) = w1 := ⟨_, rfl⟩
  have R1 := hidP (show IRow w.heap.size w1 w.heap.size 0 [] by rw [← hw1]; exact IRow.start w w.heap.size (Nat.le_refl _))
  have L1 := hidP (show Below w.heap.size w w1 by rw [← hw1]; exact (Below.refl w.heap.size w).alloc (Nat.le_refl _) (.cells #[] 2))
  have HT := hidP (sCtr ao ao' cap cap' ms cs w1 (hv.next L1.out) (hv'.next L1.out) hsm hcm)
  rcases hc : ctrsB ms cs with _ | _
  · have HV := hidP (givenL_no hc)
    rw [HV.out]
    rw [hc] at HT
    go_enter Try.func16, Try.ntmps16
    go_upto_region 2 with fail
    clear hw1
    go_wp2_with fail
    refine HT.out.mono ?_
    rintro e w2 ⟨rfl, n2, rfl⟩
    go_wp2_with fail
    go_ret
    exact ⟨w.heap.size, 0, rfl, R1.out.below (below_drewN (Below.refl _ _) n2), Nat.le_refl _, below_drewN L1.out n2⟩
  · obtain ⟨i0, hi0, hz0, hz1, hz2⟩ := info_parts Try.info2
    have hm60 : ms.length ≤ 60 := marksB_len (toldB_of (ctrsB_of hc).2.2.2).1
    have HV := hidP (givenL_in hc)
    have HL := hidP (tabL_length (givF ms cs) ms.length)
    rw [HV.out, HL.out]
    rw [hc] at HT
    have HMV := hidP hv
    have HCV := hidP hv'
    have HSM := hidP hsm.2
    clear hv hv' hc
    go_enter Try.func16, Try.ntmps16
    go_upto_region 2 with fail
    clear hw1
    go_wp2_with fail
    refine HT.out.mono ?_
    rintro e w2 ⟨rfl, hw2⟩
    have P2 : Hid (IRow w.heap.size w2 w.heap.size 0 [] ∧ Below w.heap.size w w2) := by obtain ⟨n2, rfl⟩ := hw2; exact ⟨R1.out.below (below_drewN (Below.refl _ _) n2), below_drewN L1.out n2⟩
    clear hw2 R1 L1 HT
    go_wp2_with fail
    go_loopw [5, 6] (fun v i wr => ∃ (k g c : Nat), k ≤ ms.length ∧ i = .int .i64 k ∧ v = .slice (some ⟨g, 0, none⟩) k c ∧ IRow w.heap.size wr g c (tabL (givF ms cs) k) ∧ Below w.heap.size w wr) (fun _ i _ => ms.length - (intOf i).toNat)
    case atStart => exact ⟨0, w.heap.size, 0, Nat.zero_le _, rfl, rfl, P2.out.1, P2.out.2⟩
    case round =>
      obtain ⟨k, g, c, hk, rfl, rfl, hrow, L⟩ := hrel
      have HR := hidP hrow
      have HLL := hidP L
      have hgl := hrow.lt
      have hz := L.size
      by_cases hlt : k < ms.length
      · obtain ⟨b, off, rfl, hb, hs⟩ := MSeg.seg (HMV.out.next L) (by omega)
        obtain ⟨-, ae, ce, hc1, hve⟩ := hs.at hlt
        have HG := hidP (sGivI ae ao' ce cap' (mat ms k) cs wr hve (HCV.out.next L) (HSM.out k) hcm)
        rw [givF_def] at HG
        have HTS := hidP (tabL_succ (givF ms cs) k)
        have hi0' : (0 : Int) ≤ (k : Int) := Int.natCast_nonneg _
        have hi1 : (k : Int) < (ms.length : Int) := by omega
        clear hs hve hrow L
        generalize givF ms cs k = y at *
        go_wp2_with fail
        refine HG.out.mono ?_
        rintro e W ⟨rfl, hW⟩
        have HOW := hidP (show W.ownsRow w.heap.size 2 1 (.slice (some ⟨g, 0, none⟩) k c) k ((tabL (givF ms cs) k).map (Value.int .i64)) by obtain ⟨n, rfl⟩ := hW; have := HR.out.below (below_drewN (Below.refl _ _) n); unfold IRow at this; rw [tabL_length] at this; exact this)
        have HLW := hidP (show Below w.heap.size w W by obtain ⟨n, rfl⟩ := hW; exact below_drewN HLL.out n)
        have hzW : wr.heap.size ≤ W.heap.size := by obtain ⟨n, rfl⟩ := hW; exact Nat.le_refl _
        clear hW HG HR HLL
        go_wp2_with (at_builtin; refine wpList_append_lies _ rfl (.tmp 19) (.tmp 27) 29 rfl w.heap.size 2 i0 _ 1 8 Try.underlying29 hi0 hz0 hz1 hz2 rfl (by omega) (.slice (some ⟨g, 0, none⟩) k c) k ((tabL (givF ms cs) k).map (Value.int .i64)) rfl (World.ownsRow.alloc HOW.out _) ⟨W.heap.size, 0, none⟩ 1 1 [.int .i64 y] rfl rfl (World.news_of_block (cs := #[.int .i64 y]) (t := 2) (fr := (0, 0)) (heap_alloc_new W _)) (by simp [Value.oneCell']) (by omega) (by unfold maxLen; omega) (by omega) (by simp; omega) (W.heap.size + 1) (by simp) ?_; intro gg cc w8 hown hgrow hat8 hlt8)
        go_roundw
        case rel =>
          refine ⟨k + 1, gg, cc, by omega, by go_num, rfl, ?_, ?_⟩
          · rw [HTS.out]; exact IRow.of hown (by simp [tabL_length]) (by simp)
          · refine (HLW.out.alloc (by omega) _).grown hgrow (by simp; omega) ?_
            intro q hq
            simp [Value.ownBlock] at hq
            omega
        case measure => simp [intOf]; omega
      · obtain rfl : k = ms.length := by omega
        clear hrow L
        go_wp2
        go_ret
        exact ⟨g, c, rfl, HR.out, hgl.1, HLL.out⟩

set_option maxRecDepth 100000 in
set_option maxHeartbeats 2000000 in
theorem sCost (ao ao' : Option Addr) (cap cap' : Nat) (ms : List Mk) (cs : List (List Int)) (w : World) (hv : MView w ao ms) (hv' : CView w ao' cs) (hsm : MSmall ms) (hcm : CSmall cs) :
    Calls Try.prog 18 #[.slice ao ms.length cap, .slice ao' cs.length cap'] w fun e w' => e = .returned (.int .i64 (costV ms cs)) ∧ ∃ n, w' = w.drewN n := by
  have HT := hidP (sCtr ao ao' cap cap' ms cs w hv hv' hsm hcm)
  rcases hc : ctrsB ms cs with _ | _
  · have HV := hidP (costV_no hc)
    rw [HV.out]
    rw [hc] at HT
    go_enter Try.func18, Try.ntmps18
    go_wp2_with fail
    refine HT.out.mono ?_
    rintro e w2 ⟨rfl, n2, rfl⟩
    go_wp2_with fail
    go_ret
    exact ⟨rfl, n2, rfl⟩
  · have hm60 : ms.length ≤ 60 := marksB_len (toldB_of (ctrsB_of hc).2.2.2).1
    have h1 := (ctrsB_of hc).1
    have HV := hidP (costV_in hc)
    rw [HV.out]
    rw [hc] at HT
    have HMV := hidP hv
    have HCV := hidP hv'
    have HSM := hidP hsm.2
    have HCM := hidP hcm.2
    have HFB : Hid (∀ j, -1 ≤ costF ms cs j ∧ costF ms cs j ≤ 16000000) := fun j => farV_bd _ _
    have hcl := hcm.1
    clear hv hv' hc
    go_enter Try.func18, Try.ntmps18
    go_wp2_with fail
    refine HT.out.mono ?_
    rintro e w2 ⟨rfl, hw2⟩
    have HW2 := hidP hw2
    clear hw2 HT
    go_wp2_with fail
    go_loopw [5, 6] (fun v i wr => ∃ (k : Nat), k ≤ ms.length ∧ i = .int .i64 k ∧ v = .int .i64 (sumTo (costF ms cs) k) ∧ ∃ n, wr = w.drewN n) (fun _ i _ => ms.length - (intOf i).toNat)
    case atStart => exact ⟨0, Nat.zero_le _, rfl, rfl, HW2.out⟩
    case round =>
      obtain ⟨k, hk, rfl, rfl, hw⟩ := hrel
      have HW := hidP hw
      clear hw
      by_cases hlt : k < ms.length
      · have v1 : MView wr ao ms := by obtain ⟨n, rfl⟩ := HW.out; exact HMV.out.drewN n
        have v2 : CView wr ao' cs := by obtain ⟨n, rfl⟩ := HW.out; exact HCV.out.drewN n
        obtain ⟨b, off, rfl, hb, hs⟩ := MSeg.seg v1 (by omega)
        obtain ⟨-, ae, ce, hc1, hve⟩ := hs.at hlt
        have hgl := givN_lt (ms := ms) h1 k
        have HG := hidP (fun n => sGivI ae ao' ce cap' (mat ms k) cs (wr.drewN n) (hve.drewN n) (v2.drewN n) (HSM.out k) hcm)
        obtain ⟨b', off', rfl, hb', s2⟩ := v2.seg (by omega)
        obtain ⟨a2, c2, e2, va2⟩ := s2 (givN ms cs k) hgl
        have HF := hidP (fun n => sFar ae a2 ce c2 (mat ms k) (cn cs (givN ms cs k)) (wr.drewN n) (hve.drewN n) (va2.drewN n) (HSM.out k) (HCM.out _))
        have HGE : Hid (givI cs (mat ms k) cs.length = givN ms cs k) := rfl
        rw [HGE.out] at HG
        have HFE : Hid (farV (mat ms k) (cn cs (givN ms cs k)) = costF ms cs k) := rfl
        rw [HFE.out] at HF
        have hfb := HFB.out k
        have hsum := sumTo_le (costF ms cs) (-1) 16000000 HFB.out k
        have HN : Hid (sumTo (costF ms cs) (k + 1) = sumTo (costF ms cs) k + costF ms cs k) := rfl
        have hi0 : (0 : Int) ≤ (k : Int) := Int.natCast_nonneg _
        have hi1 : (k : Int) < (ms.length : Int) := by omega
        generalize givN ms cs k = y at *
        generalize costF ms cs k = f at *
        have hj0 : (0 : Int) ≤ (y : Int) := Int.natCast_nonneg _
        have hj1 : (y : Int) < (cs.length : Int) := by omega
        clear hs hve v1 s2 va2 HGE HFE
        go_wp2_with fail
        go_quiet (first | (go_at_call 43; exact Calls.quiet_of (HG.out _)) | (go_at_call 21; exact Calls.quiet_of (HF.out _)))
        go_wp2_with fail
        go_roundw
        case rel => exact ⟨k + 1, by omega, by go_num, by rw [HN.out], by obtain ⟨n, hn⟩ := HW.out; exact ⟨n + nq, by rw [hn]; simp⟩⟩
        case measure => simp [intOf]; omega
      · obtain rfl : k = ms.length := by omega
        go_wp2
        go_ret
        exact ⟨rfl, HW.out⟩

end Go.Proofs.Ythcjkneifkmkdaa
