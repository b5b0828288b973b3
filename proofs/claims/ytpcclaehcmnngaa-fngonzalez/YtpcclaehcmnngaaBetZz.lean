/-
  Between: the given one and the program's own, each answers betV.
  How far the farthest is, and the diameter: the given ones and the program's own answer mostV and diaV.
  The program's Diameter, and the middle: the given one and the program's own answer diaV and midV.
  The program's nearestGap and radiusAbout, of one center or more.
-/
import Derived.Test.YtpcclaehcmnngaaCopyZz
import Derived.Test.YtpcclaehcmnngaaMCopyZz
import Derived.Deep.RegionHeld3
namespace Go.Proofs.Ytpcclaehcmnngaa
open Go Go.RowKit

theorem betV_1 (xs ys : List Int) : betV xs ys 1 = farV xs ys := by simp [betV]
theorem betV_2 (xs ys : List Int) : betV xs ys 2 = stepsV xs ys := by simp [betV]
theorem betV_3 (xs ys : List Int) : betV xs ys 3 = reachV xs ys := by simp [betV]
theorem betV_no (xs ys : List Int) {k : Int} (h1 : k ≠ 1) (h2 : k ≠ 2) (h3 : k ≠ 3) : betV xs ys k = -1 := by simp [betV, h1, h2, h3]
theorem betV_apart (xs ys : List Int) (k : Int) (h : twoB xs ys = false) : betV xs ys k = -1 := by simp [betV, farV, stepsV, reachV, h]

set_option maxHeartbeats 400000 in
theorem sBet (ao ao' : Option Addr) (cap cap' : Nat) (xs ys : List Int) (k : Int) (w : World) (hv : View w ao xs) (hv' : View w ao' ys) (hn : xs.length ≤ 1048576) (hn' : ys.length ≤ 1048576) :
    Calls Try.prog 66 #[.slice ao xs.length cap, .slice ao' ys.length cap', .int .i64 k] w fun e w' => e = .returned (.int .i64 (betV xs ys k)) ∧ ∃ n, w' = w.drewN n := by
  by_cases h1 : k = 1
  · subst h1
    rw [betV_1]
    go_enter Try.func66, Try.ntmps66
    go_wp2_with fail
    refine (sFar ao ao' cap cap' xs ys _ hv hv' hn hn').mono ?_
    rintro e w1 ⟨rfl, n1, rfl⟩
    go_wp2_with fail
    go_ret
    exact ⟨rfl, n1, rfl⟩
  · have b1 : (k == 1) = false := by simp [h1]
    by_cases h2 : k = 2
    · subst h2
      rw [betV_2]
      go_enter Try.func66, Try.ntmps66
      go_wp2_with fail
      refine (sSteps ao ao' cap cap' xs ys _ hv hv' hn hn').mono ?_
      rintro e w1 ⟨rfl, n1, rfl⟩
      go_wp2_with fail
      go_ret
      exact ⟨rfl, n1, rfl⟩
    · have b2 : (k == 2) = false := by simp [h2]
      by_cases h3 : k = 3
      · subst h3
        rw [betV_3]
        go_enter Try.func66, Try.ntmps66
        go_wp2_with fail
        refine (sReach ao ao' cap cap' xs ys _ hv hv' hn hn').mono ?_
        rintro e w1 ⟨rfl, n1, rfl⟩
        go_wp2_with fail
        go_ret
        exact ⟨rfl, n1, rfl⟩
      · have b3 : (k == 3) = false := by simp [h3]
        have HV := hidP (betV_no xs ys h1 h2 h3)
        go_enter Try.func66, Try.ntmps66
        go_wp2_with fail
        go_ret
        exact ⟨ret_int HV.out.symm, 0, rfl⟩

set_option maxHeartbeats 400000 in
theorem pTimes2 (b off cap k : Nat) (x : Int) (xs : List Int) (w : World) (hs : Seg w b off xs) (hk : k < xs.length) (h1 : 0 ≤ nth xs k) (h2 : nth xs k ≤ 2000) (h3 : 0 ≤ x) (h4 : x ≤ 2000) :
    Calls Try.prog 82 #[.slice (some ⟨b, off, none⟩) xs.length cap, .int .i64 k, .int .i64 x] w fun e w' => e = .returned (.int .i64 (nth xs k * x)) ∧ ∃ n, w' = w.drewN n := by
  have hc := hs k hk
  have hb := mul_bd (x := nth xs k) (y := x) (m := 2000) (by omega) (by omega) (by omega)
  go_enter Try.func82, Try.ntmps82
  go_wp2
  go_ret
  exact ⟨rfl, 0, rfl⟩

theorem below_two {w w1 w2 : World} (h : Below w.heap.size w w1) (k : Below w1.heap.size w1 w2) : Below w.heap.size w w2 := h.trans (k.mono h.size)

set_option maxHeartbeats 1000000 in
theorem pBet (b off cap b' off' cap' : Nat) (xs ys : List Int) (k : Int) (w : World) (hs : Seg w b off xs) (hs' : Seg w b' off' ys) (hb : b < w.heap.size) (hb' : b' < w.heap.size) (ht : twoB xs ys = true) :
    Calls Try.prog 72 #[.slice (some ⟨b, off, none⟩) xs.length cap, .slice (some ⟨b', off', none⟩) ys.length cap', .int .i64 k] w fun e w' => e = .returned (.int .i64 (betV xs ys k)) ∧ Below w.heap.size w w' := by
  obtain ⟨ha, hbo, hl⟩ := twoB_of ht
  have h4 := okB_len hbo
  have HL : Hid (xs.length = ys.length) := hl
  have HZ : Hid ((tabL (gapF xs ys) ys.length).length = ys.length) := tabL_length _ _
  have HE : Hid (Calls Try.prog 80 #[.slice (some ⟨b', off', none⟩) ys.length cap', .func (Fn.func 81) #[.slice (some ⟨b, off, none⟩) xs.length cap] #[]] w fun e w' =>
      e = .returned (.slice (some ⟨w.heap.size, 0, none⟩) ys.length ys.length) ∧ Own w' w.heap.size (tabL (gapF xs ys) ys.length) ∧ Below w.heap.size w w') :=
    pEachGap (gapF xs ys) b off cap b' off' cap' xs.length xs ys w hs hs' hb hb' h4.2 (fun W k hk hS => by
      have hx := okB_at ha k
      have hy := okB_at hbo k
      exact pGap b off cap k (nth ys k) xs W hS (by rw [hl]; exact hk) hx.1 hx.2 hy.1 hy.2)
  have HG : Hid (∀ i, 0 ≤ nth (tabL (gapF xs ys) ys.length) i ∧ nth (tabL (gapF xs ys) ys.length) i ≤ 2000) := fun i => tab_bd _ _ 0 2000 (by omega) (by omega) (fun i => gapF_bd ha hbo i) i
  clear hl
  by_cases h1 : k = 1
  · subst h1
    have HV : Hid (betV xs ys 1 = sumTo (sqF xs ys) ys.length) := by show betV xs ys 1 = _; rw [betV_1]; simp [farV, ht, HL.out]
    go_enter Try.func72, Try.ntmps72
    go_wp2_with fail
    refine HE.out.mono ?_
    rintro e w1 ⟨rfl, o1, L1⟩
    have hsz1 : w.heap.size < w1.heap.size := o1.lt
    go_wp2_with fail
    have hcall := pEachTimes (sqF xs ys) w.heap.size 0 ys.length w.heap.size 0 ys.length ys.length (tabL (gapF xs ys) ys.length) (tabL (gapF xs ys) ys.length) w1 o1.seg o1.seg hsz1 hsz1 (by rw [HZ.out]; exact h4.2) (fun W j hj hS => by
      have hx := HG.out j
      have hc := pTimes2 w.heap.size 0 ys.length j (nth (tabL (gapF xs ys) ys.length) j) (tabL (gapF xs ys) ys.length) W hS hj hx.1 hx.2 hx.1 hx.2
      rw [HZ.out] at hc hj
      rw [tabL_getD _ _ _ hj] at *
      rw [sqF_gap]
      exact hc)
    rw [HZ.out] at hcall
    refine hcall.mono ?_
    rintro e w2 ⟨rfl, o2, L2⟩
    clear hcall
    have L3 := below_two L1 L2
    go_wp2_with fail
    have hend := pTotal w1.heap.size 0 ys.length (tabL (sqF xs ys) ys.length) w2 o2.seg (by rw [tabL_length]; exact h4.2) (tab_bd _ _ (-4000000) 4000000 (by omega) (by omega) (fun i => by have := sqF_bd ha hbo i; omega))
    rw [sum_tab, tabL_length] at hend
    refine hend.mono ?_
    rintro e w3 ⟨rfl, rfl⟩
    clear hend
    go_wp2_with fail
    go_ret
    exact ⟨ret_int HV.out.symm, L3⟩
  · have b1 : (k == 1) = false := by simp [h1]
    by_cases h2 : k = 2
    · subst h2
      have HV : Hid (betV xs ys 2 = sumTo (gapF xs ys) ys.length) := by show betV xs ys 2 = _; rw [betV_2]; simp [stepsV, ht, HL.out]
      go_enter Try.func72, Try.ntmps72
      go_wp2_with fail
      refine HE.out.mono ?_
      rintro e w1 ⟨rfl, o1, L1⟩
      go_wp2_with fail
      have hend := pTotal w.heap.size 0 ys.length (tabL (gapF xs ys) ys.length) w1 o1.seg (by rw [tabL_length]; exact h4.2) (fun i => by have := HG.out i; omega)
      rw [sum_tab, tabL_length] at hend
      refine hend.mono ?_
      rintro e w3 ⟨rfl, rfl⟩
      clear hend
      go_wp2_with fail
      go_ret
      exact ⟨ret_int HV.out.symm, L1⟩
    · have b2 : (k == 2) = false := by simp [h2]
      by_cases h3 : k = 3
      · subst h3
        have HV : Hid (betV xs ys 3 = maxTo (gapF xs ys) ys.length) := by show betV xs ys 3 = _; rw [betV_3]; simp [reachV, ht, HL.out]
        go_enter Try.func72, Try.ntmps72
        go_wp2_with fail
        refine HE.out.mono ?_
        rintro e w1 ⟨rfl, o1, L1⟩
        go_wp2_with fail
        have hend := pMax w.heap.size 0 ys.length (tabL (gapF xs ys) ys.length) w1 o1.seg (by rw [tabL_length]; exact h4.1) (by rw [tabL_length]; exact h4.2) HG.out
        rw [max_tab, tabL_length] at hend
        refine hend.mono ?_
        rintro e w3 ⟨rfl, rfl⟩
        clear hend
        go_wp2_with fail
        go_ret
        exact ⟨ret_int HV.out.symm, L1⟩
      · have b3 : (k == 3) = false := by simp [h3]
        have HV := hidP (betV_no xs ys h1 h2 h3)
        go_enter Try.func72, Try.ntmps72
        go_wp2_with fail
        refine HE.out.mono ?_
        rintro e w1 ⟨rfl, o1, L1⟩
        go_wp2_with fail
        go_ret
        exact ⟨ret_int HV.out.symm, L1⟩

set_option maxHeartbeats 400000 in
theorem iBet (ao ao' : Option Addr) (cap cap' : Nat) (xs ys : List Int) (k : Int) (w : World) (hv : View w ao xs) (hv' : View w ao' ys) (hn : xs.length ≤ 1048576) (hn' : ys.length ≤ 1048576) :
    Calls Try.prog 58 #[.slice ao xs.length cap, .slice ao' ys.length cap', .int .i64 k] w fun e w' => e = .returned (.int .i64 (betV xs ys k)) ∧ Below w.heap.size w w' := by
  rcases ht : twoB xs ys with _ | _
  · have HV := hidP (betV_apart xs ys k ht)
    go_enter Try.func58, Try.ntmps58
    go_wp2_with fail
    refine (pPairs ao ao' cap cap' xs ys _ hv hv' hn hn').mono ?_
    rintro e w1 ⟨rfl, rfl⟩
    go_wp2_with fail
    go_ret
    exact ⟨ret_int HV.out.symm, Below.refl _ _⟩
  · obtain ⟨ha, hb, hl⟩ := twoB_of ht
    have h4 := okB_len ha
    obtain ⟨b, off, rfl, hbs, hs⟩ : ∃ b off, ao = some ⟨b, off, none⟩ ∧ b < w.heap.size ∧ Seg w b off xs := by
      rcases hv with rfl | h
      · simp at h4
      · exact h
    obtain ⟨b', off', rfl, hbs', hs'⟩ : ∃ b off, ao' = some ⟨b, off, none⟩ ∧ b < w.heap.size ∧ Seg w b off ys := by
      rcases hv' with rfl | h
      · simp at hl; rw [hl] at h4; simp at h4
      · exact h
    clear ha hb hl h4
    go_enter Try.func58, Try.ntmps58
    go_wp2_with fail
    refine (pPairs _ _ cap cap' xs ys _ (Or.inr ⟨b, off, rfl, hbs, hs⟩) (Or.inr ⟨b', off', rfl, hbs', hs'⟩) hn hn').mono ?_
    rintro e w1 ⟨rfl, rfl⟩
    go_wp2_with fail
    refine (pBet b off cap b' off' cap' xs ys k _ hs hs' hbs hbs' ht).mono ?_
    rintro e w2 ⟨rfl, L2⟩
    go_wp2_with fail
    go_ret
    exact ⟨rfl, L2⟩

end Go.Proofs.Ytpcclaehcmnngaa
namespace Go.Proofs.Ytpcclaehcmnngaa
open Go Go.RowKit

theorem maxV_bet (ms : List Mk) (p : List Int) (kd : Int) (k : Nat) : maxTo (betF ms p kd) (k + 1) = maxV (maxTo (betF ms p kd) k) (betV p (mat ms k) kd) := rfl
theorem max_bet (ms : List Mk) (p : List Int) (kd : Int) (k : Nat) : maxTo (betF ms p kd) (k + 1) = max (maxTo (betF ms p kd) k) (betV p (mat ms k) kd) := rfl
theorem maxV_most (ms : List Mk) (kd : Int) (k : Nat) : maxTo (mostF ms kd) (k + 1) = maxV (maxTo (mostF ms kd) k) (mostV ms (mat ms k) kd) := rfl

set_option maxHeartbeats 1000000 in
theorem iMost (ao ao' : Option Addr) (cap cap' : Nat) (ms : List Mk) (m : Mk) (kd : Int) (w : World) (hv : MView w ao ms) (hv' : View w ao' m.2) (hsm : MSmall ms) (hp : m.2.length ≤ 1048576) :
    Calls Try.prog 55 #[.slice ao ms.length cap, .agg #[.int .i64 m.1, .slice ao' m.2.length cap'], .int .i64 kd] w fun e w' => e = .returned (.int .i64 (mostV ms m.2 kd)) ∧ Below w.heap.size w w' := by
  obtain ⟨hn, hat⟩ := hsm
  have HV : Hid (mostV ms m.2 kd = maxTo (betF ms m.2 kd) ms.length) := rfl
  have L0 : Below w.heap.size w (w.alloc (.cells #[.int .i64 m.1, .slice ao' m.2.length cap'] 55)) := (Below.refl _ _).alloc (Nat.le_refl _) _
  have c1 : (w.alloc (.cells #[.int .i64 m.1, .slice ao' m.2.length cap'] 55)).cell? ⟨w.heap.size, 1, none⟩ = some (.slice ao' m.2.length cap') := by go_simp
  have hsz : (w.alloc (.cells #[.int .i64 m.1, .slice ao' m.2.length cap'] 55)).heap.size = w.heap.size + 1 := by simp
  go_enter Try.func55, Try.ntmps55
  go_wp2_with fail
  generalize (w.alloc (.cells #[.int .i64 m.1, .slice ao' m.2.length cap'] 55)) = W0 at *
  have HM := hidP (hv.next L0)
  have HP := hidP (View.next hv' L0)
  have HL0 := hidP L0
  clear hv hv' L0
  go_loopw [7, 12] (fun s i wr => ∃ k : Nat, k ≤ ms.length ∧ i = .int .i64 k ∧ s = .int .i64 (maxTo (betF ms m.2 kd) k) ∧ Below W0.heap.size W0 wr) (fun _ i _ => ms.length - (intOf i).toNat)
  case atStart => exact ⟨0, Nat.zero_le _, rfl, rfl, Below.refl _ _⟩
  case round =>
    obtain ⟨k, hk, rfl, rfl, L⟩ := hrel
    by_cases hlt : k < ms.length
    · obtain ⟨b, off, rfl, hb, hs⟩ := MSeg.seg HM.out (by omega)
      obtain ⟨hc0, ae, ce, hc1, hve⟩ := (hs.below hb (Nat.le_refl _) L).at hlt
      have hz := L.size
      have hd := (L.cell (p := ⟨w.heap.size, 1, none⟩) (by simp; omega)).trans c1
      have hpw := View.next HP.out L
      have L1 : Below wr.heap.size wr (wr.alloc (.cells #[.int .i64 (mid ms k), .slice ae (mat ms k).length ce] 55)) := (Below.refl _ _).alloc (Nat.le_refl _) _
      have HC := hidP (iBet ao' ae cap' ce m.2 (mat ms k) kd _ (View.next hpw L1) (View.next hve L1) hp (hat k))
      have HL := hidP (below_two L L1)
      have hlt0 : w.heap.size < wr.heap.size := by omega
      clear L hpw hve L1
      have HN := hidP (max_bet ms m.2 kd k)
      go_wp2_with fail
      refine HC.out.mono ?_
      rintro e w1 ⟨rfl, L2⟩
      have LF := hidP (below_two HL.out L2)
      clear L2
      go_wp2_with fail
      all_goals
        go_roundw
        case rel => exact ⟨k + 1, by omega, by go_num, by rw [HN.out]; congr 1; omega, LF.out⟩
        case measure => simp [intOf]; omega
    · go_wp2_with fail
      go_ret
      obtain rfl : k = ms.length := by omega
      exact ⟨ret_int HV.out.symm, below_two HL0.out L⟩

end Go.Proofs.Ytpcclaehcmnngaa
namespace Go.Proofs.Ytpcclaehcmnngaa
open Go Go.RowKit

def diaI (ms : List Mk) (kd : Int) (k : Nat) : Int := if k = 0 then -1 else maxTo (mostF ms kd) k
theorem diaI_le (ms : List Mk) (kd : Int) (k : Nat) : -1 ≤ diaI ms kd k ∧ diaI ms kd k ≤ 16000000 := by
  have := dia_le ms kd k
  unfold diaI; split <;> omega
theorem diaI_next (ms : List Mk) (kd : Int) (k : Nat) : diaI ms kd (k + 1) = max (diaI ms kd k) (mostV ms (mat ms k) kd) := by
  have h := mostF_le ms kd k
  have h' : mostF ms kd k = mostV ms (mat ms k) kd := rfl
  unfold diaI
  rw [if_neg (by omega)]
  split
  · rename_i hk; subst hk; simp only [maxTo]; omega
  · simp only [maxTo]; omega
theorem diaI_all (ms : List Mk) (kd : Int) (hm : marksB ms = true) (hk : kindB kd = true) : diaV ms kd = diaI ms kd ms.length := by
  unfold diaI
  split
  · rename_i h; simp [diaV, noneB_nil h]
  · rename_i h; simp [diaV, noneB_false h hm hk]

set_option maxHeartbeats 1000000 in
theorem iDia (ao : Option Addr) (cap : Nat) (ms : List Mk) (kd : Int) (w : World) (hv : MView w ao ms) (hsm : MSmall ms) :
    Calls Try.prog 33 #[.slice ao ms.length cap, .int .i64 kd] w fun e w' => e = .returned (.int .i64 (diaV ms kd)) ∧ Below w.heap.size w w' := by
  have HC := hidP (iMarks ao cap ms w hv hsm)
  rcases hm : marksB ms with _ | _
  · have HV : Hid (diaV ms kd = -1) := by show diaV ms kd = _; simp [diaV, noneB_bad hm]
    rw [hm] at HC
    go_enter Try.func33, Try.ntmps33
    go_wp2_with fail
    refine HC.out.mono ?_
    rintro e w1 ⟨rfl, L1⟩
    go_wp2_with fail
    go_ret
    exact ⟨ret_int HV.out.symm, L1⟩
  · rw [hm] at HC
    have HK := fun w => hidP (iKind kd w)
    rcases hkd : kindB kd with _ | _
    · have HV : Hid (diaV ms kd = -1) := by show diaV ms kd = _; simp [diaV, noneB_kind hkd]
      rw [hkd] at HK
      go_enter Try.func33, Try.ntmps33
      go_wp2_with fail
      refine HC.out.mono ?_
      rintro e w1 ⟨rfl, L1⟩
      go_wp2_with fail
      refine (HK _).out.mono ?_
      rintro e w2 ⟨rfl, rfl⟩
      go_wp2_with fail
      go_ret
      exact ⟨ret_int HV.out.symm, L1⟩
    · have HV := hidP (diaI_all ms kd hm hkd)
      rw [hkd] at HK
      have hn := hsm.1
      have hat := hsm.2
      go_enter Try.func33, Try.ntmps33
      go_wp2_with fail
      refine HC.out.mono ?_
      rintro e w1 ⟨rfl, L1⟩
      go_wp2_with fail
      refine (HK _).out.mono ?_
      rintro e w2 ⟨rfl, rfl⟩
      have HVW := hidP hv
      have HSM := hidP hsm
      clear hv hsm
      go_wp2_with fail
      clear HK HC
      go_loopw [5, 18] (fun s i wr => ∃ k : Nat, k ≤ ms.length ∧ i = .int .i64 k ∧ s = .int .i64 (diaI ms kd k) ∧ Below w.heap.size w wr) (fun _ i _ => ms.length - (intOf i).toNat)
      case atStart => exact ⟨0, Nat.zero_le _, rfl, rfl, L1⟩
      case round =>
        obtain ⟨k, hk, rfl, rfl, L⟩ := hrel
        by_cases hlt : k < ms.length
        · have hvw := HVW.out.next L
          obtain ⟨b, off, rfl, hb, hs⟩ := MSeg.seg hvw (by omega)
          obtain ⟨hc0, ae, ce, hc1, hve⟩ := hs.at hlt
          have L2 : Below wr.heap.size wr (wr.alloc (.cells #[.int .i64 (mid ms k), .slice ae (mat ms k).length ce] 55)) := (Below.refl _ _).alloc (Nat.le_refl _) _
          have HCM := hidP (iMost _ ae cap ce ms (mnth ms k) kd _ (hvw.next L2) (View.next hve L2) HSM.out (hat k))
          have HN := hidP (diaI_next ms kd k)
          have HL := hidP (below_two L L2)
          have hbd := mostF_le ms kd k
          have hmx := diaI_le ms kd k
          clear L hvw hve L2 hs hb
          go_wp2_with fail
          refine HCM.out.mono ?_
          rintro e w2 ⟨rfl, L3⟩
          have LF := hidP (below_two HL.out L3)
          rw [mnth_2] at *
          clear L3
          go_wp2_with fail
          all_goals
            go_roundw
            case rel => exact ⟨k + 1, by omega, by go_num, by rw [HN.out]; congr 1; omega, LF.out⟩
            case measure => simp [intOf]; omega
        · go_wp2_with fail
          go_ret
          obtain rfl : k = ms.length := by omega
          exact ⟨ret_int HV.out.symm, L⟩

theorem bestI_yes (ms : List Mk) (kd : Int) (k : Nat) (h : mostF ms kd k < mostF ms kd (bestI ms kd k)) : bestI ms kd (k + 1) = k := by simp [bestI, h]
theorem bestI_no (ms : List Mk) (kd : Int) (k : Nat) (h : ¬ mostF ms kd k < mostF ms kd (bestI ms kd k)) : bestI ms kd (k + 1) = bestI ms kd k := by simp [bestI, h]
theorem mostF_V (ms : List Mk) (kd : Int) (k : Nat) : mostF ms kd k = mostV ms (mat ms k) kd := rfl

end Go.Proofs.Ytpcclaehcmnngaa
namespace Go.Proofs.Ytpcclaehcmnngaa
open Go Go.RowKit

def gapTo (kd : Int) (cs : List Mk) (p : List Int) : Nat → Int
  | 0 => betV (mat cs 0) p kd
  | k + 1 => min (gapTo kd cs p k) (betV (mat cs (k + 1)) p kd)
def gapV (kd : Int) (cs : List Mk) (p : List Int) : Int := gapTo kd cs p (cs.length - 1)
def zGapF (kd : Int) (cs ms : List Mk) (i : Nat) : Int := gapV kd cs (mat ms i)
theorem gapTo_bd (kd : Int) (cs : List Mk) (p : List Int) (k : Nat) : -1 ≤ gapTo kd cs p k ∧ gapTo kd cs p k ≤ 16000000 := by
  induction k with
  | zero => exact betV_le _ _ _
  | succ k ih => have := betV_le (mat cs (k + 1)) p kd; simp only [gapTo]; omega

set_option maxRecDepth 100000 in
set_option maxHeartbeats 2000000 in
theorem iGap (ac ap : Option Addr) (cc cp : Nat) (cs : List Mk) (m : Mk) (kd : Int) (w : World) (hv : MView w ac cs) (hp : View w ap m.2) (h0 : 0 < cs.length) (hcap : cs.length ≤ cc) (hsm : MSmall cs) (hpl : m.2.length ≤ 1048576) :
    Calls Try.prog 57 #[.slice ac cs.length cc, .agg #[.int .i64 m.1, .slice ap m.2.length cp], .int .i64 kd] w fun e w' => e = .returned (.int .i64 (gapV kd cs m.2)) ∧ Below w.heap.size w w' := by
  obtain ⟨hn, hat⟩ := hsm
  obtain ⟨b, off, rfl, hb, hs⟩ := MSeg.seg hv h0
  obtain ⟨W0, hW0⟩ : ∃ W0, W0 = w.alloc (.cells #[.int .i64 m.1, .slice ap m.2.length cp] 55) := ⟨_, rfl⟩
  have L0 : Below w.heap.size w W0 := by rw [hW0]; exact (Below.refl _ _).alloc (Nat.le_refl _) _
  have c1 : W0.cell? ⟨w.heap.size, 1, none⟩ = some (.slice ap m.2.length cp) := by rw [hW0]; go_simp
  have hsz : w.heap.size < W0.heap.size := by rw [hW0]; simp
  have HS := hidP (hs.below hb (Nat.le_refl _) L0)
  have HP := hidP (View.next hp L0)
  have HL0 := hidP L0
  have HV : Hid (gapV kd cs m.2 = gapTo kd cs m.2 (cs.length - 1)) := rfl
  obtain ⟨-, ae, ce, hc1, hve⟩ := HS.out.at (i := 0) h0
  rw [Nat.zero_mul, Nat.add_zero] at hc1
  have hbw : b < W0.heap.size := by omega
  have hi1 : (0 : Int) < (cs.length : Int) := by omega
  have hi3 : cs ≠ [] := by intro h; rw [h] at h0; simp at h0
  have HC := hidP (iBet ae ap ce cp (mat cs 0) m.2 kd W0.drew hve.drew HP.out.drew (hat 0) hpl)
  have H1 : Hid (gapTo kd cs m.2 0 = betV (mat cs 0) m.2 kd) := rfl
  clear hv hp hs L0 hve
  go_enter Try.func57, Try.ntmps57
  go_wp2_with fail
  rw [← hW0]
  clear hW0
  go_region_held3 (fun w' => w'.cell? ⟨b, off + 1, none⟩ = some (.slice ae (mat cs 0).length ce) ∧ w'.cell? ⟨w.heap.size, 1, none⟩ = some (.slice ap m.2.length cp))
    (first
      | go_keep
      | (refine ⟨(L3.cell (p := ⟨b, off + 1, none⟩) hbw).trans hc1, (L3.cell (p := ⟨w.heap.size, 1, none⟩) hsz).trans c1⟩))
    (first
      | (go_at_call 58; refine HC.out.mono ?_; rintro e w3 ⟨rfl, L3⟩))
  have L4 : Below W0.heap.size W0 w3 := (Below.refl _ _).drew.trans L3
  have HLF := hidP L4
  clear L3 HC hc1 L4
  go_wp2_with fail
  all_goals
    go_loopw [7, 21] (fun s i wr => ∃ k : Nat, k ≤ cs.length - 1 ∧ i = .int .i64 k ∧ s = .int .i64 (gapTo kd cs m.2 k) ∧ Below W0.heap.size W0 wr) (fun _ i _ => cs.length - (intOf i).toNat)
    case atStart => exact ⟨0, Nat.zero_le _, rfl, by rw [H1.out], HLF.out⟩
    case round =>
      obtain ⟨k, hk, rfl, rfl, L⟩ := hrel
      by_cases hlt : k < cs.length - 1
      · first
        | (exfalso; omega)
        | (
            obtain ⟨hc0, ae, ce, hc1, hve⟩ := (HS.out.below hbw (Nat.le_refl _) L).at (i := k + 1) (by omega)
            rw [show off + (k + 1) * 2 = off + 2 + k * 2 by omega] at hc0 hc1
            have hd := (L.cell (p := ⟨w.heap.size, 1, none⟩) hsz).trans c1
            have hz := L.size
            have hlt0 : w.heap.size < wr.heap.size := by omega
            have L2 : Below wr.heap.size wr (wr.alloc (.cells #[.int .i64 (mid cs (k + 1)), .slice ae (mat cs (k + 1)).length ce] 55)) := (Below.refl _ _).alloc (Nat.le_refl _) _
            have HC := hidP (iBet ae ap ce cp (mat cs (k + 1)) m.2 kd _ (View.next hve L2) (View.next (View.next HP.out L) L2) (hat (k + 1)) hpl)
            have HL := hidP (below_two L L2)
            have hbd := gapTo_bd kd cs m.2 k
            have HN : Hid (gapTo kd cs m.2 (k + 1) = min (gapTo kd cs m.2 k) (betV (mat cs (k + 1)) m.2 kd)) := rfl
            clear L hve L2
            go_wp2_with fail
            refine HC.out.mono ?_
            rintro e w4 ⟨rfl, L3⟩
            have LF2 := hidP (below_two HL.out L3)
            clear L3
            go_wp2_with fail
            all_goals
              go_roundw
              case rel => exact ⟨k + 1, by omega, by go_num, by rw [HN.out]; congr 1; omega, LF2.out⟩
              case measure => simp [intOf]; omega)
      · go_wp2_with fail
        go_ret
        have hk1 : k = cs.length - 1 := by omega
        exact ⟨ret_int (by rw [hk1]; exact HV.out.symm), below_two HL0.out L⟩

theorem zGap_max (kd : Int) (cs ms : List Mk) (k : Nat) : maxTo (zGapF kd cs ms) (k + 1) = max (maxTo (zGapF kd cs ms) k) (gapV kd cs (mat ms k)) := rfl
theorem zGap_bd (kd : Int) (cs ms : List Mk) (k : Nat) : 0 ≤ maxTo (zGapF kd cs ms) k ∧ maxTo (zGapF kd cs ms) k ≤ 16000000 :=
  maxTo_le _ _ (by omega) (fun _ => (gapTo_bd _ _ _ _).2) k

set_option maxRecDepth 100000 in
set_option maxHeartbeats 1000000 in
theorem iAbout (ac ao : Option Addr) (cc cap : Nat) (cs ms : List Mk) (kd : Int) (w : World) (hc : MView w ac cs) (hv : MView w ao ms) (h0 : 0 < cs.length) (hcap : cs.length ≤ cc) (hcm : MSmall cs) (hsm : MSmall ms) :
    Calls Try.prog 35 #[.slice ac cs.length cc, .slice ao ms.length cap, .int .i64 kd] w fun e w' => e = .returned (.int .i64 (maxTo (zGapF kd cs ms) ms.length)) ∧ Below w.heap.size w w' := by
  have hn := hsm.1
  have HAT := hidP hsm.2
  have HCM := hidP hcm
  have HVC := hidP hc
  have HVM := hidP hv
  clear hc hv hsm hcm
  go_enter Try.func35, Try.ntmps35
  go_wp2_with fail
  go_loopw [7, 12] (fun s i wr => ∃ k : Nat, k ≤ ms.length ∧ i = .int .i64 k ∧ s = .int .i64 (maxTo (zGapF kd cs ms) k) ∧ Below w.heap.size w wr) (fun _ i _ => ms.length - (intOf i).toNat)
  case atStart => exact ⟨0, Nat.zero_le _, rfl, rfl, Below.refl _ _⟩
  case round =>
    obtain ⟨k, hk, rfl, rfl, L⟩ := hrel
    by_cases hlt : k < ms.length
    · have hvw := HVM.out.next L
      obtain ⟨b, off, rfl, hb, hs⟩ := MSeg.seg hvw (by omega)
      obtain ⟨hc0, ae, ce, hc1, hve⟩ := hs.at hlt
      have L2 : Below wr.heap.size wr (wr.alloc (.cells #[.int .i64 (mid ms k), .slice ae (mat ms k).length ce] 55)) := (Below.refl _ _).alloc (Nat.le_refl _) _
      have HC := hidP (iGap ac ae cc ce cs (mnth ms k) kd _ ((HVC.out.next L).next L2) (View.next hve L2) h0 hcap HCM.out (HAT.out k))
      rw [mnth_2, mnth_1] at HC
      have HN := hidP (zGap_max kd cs ms k)
      have HL := hidP (below_two L L2)
      have hbd : -1 ≤ gapV kd cs (mat ms k) ∧ gapV kd cs (mat ms k) ≤ 16000000 := gapTo_bd kd cs (mat ms k) _
      have hmx := zGap_bd kd cs ms k
      generalize gapV kd cs (mat ms k) = y at *
      clear L hvw hve L2 hs hb
      go_wp2_with fail
      refine HC.out.mono ?_
      rintro e w2 ⟨rfl, L3⟩
      have LF := hidP (below_two HL.out L3)
      clear L3
      go_wp2_with fail
      all_goals
        go_roundw
        case rel => exact ⟨k + 1, by omega, by go_num, by rw [HN.out]; congr 1; omega, LF.out⟩
        case measure => simp [intOf]; omega
    · obtain rfl : k = ms.length := by omega
      go_wp2_with fail
      go_ret
      exact ⟨rfl, L⟩

end Go.Proofs.Ytpcclaehcmnngaa
