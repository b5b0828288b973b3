/-
  Between: the given one and the program's own, each answers betV.
  How far the farthest is, and the diameter: the given ones and the program's own answer mostV and diaV.
  The program's Diameter, and the middle: the given one and the program's own answer diaV and midV.
  The program's nearestGap and radiusAbout, of one center or more.
-/
import Derived.Test.YtfbindjacmaeoaaCopyZz
import Derived.Test.YtfbindjacmaeoaaMCopyZz
import Derived.Deep.RegionHeld3
namespace Go.Proofs.Ytfbindjacmaeoaa
open Go Go.RowKit

theorem betV_1 (xs ys : List Int) : betV xs ys 1 = farV xs ys := by simp [betV]
theorem betV_2 (xs ys : List Int) : betV xs ys 2 = stepsV xs ys := by simp [betV]
theorem betV_3 (xs ys : List Int) : betV xs ys 3 = reachV xs ys := by simp [betV]
theorem betV_no (xs ys : List Int) {k : Int} (h1 : k ≠ 1) (h2 : k ≠ 2) (h3 : k ≠ 3) : betV xs ys k = -1 := by simp [betV, h1, h2, h3]
theorem betV_apart (xs ys : List Int) (k : Int) (h : twoB xs ys = false) : betV xs ys k = -1 := by simp [betV, farV, stepsV, reachV, h]

set_option maxHeartbeats 400000 in
theorem sBet (ao ao' : Option Addr) (cap cap' : Nat) (xs ys : List Int) (k : Int) (w : World) (hv : View w ao xs) (hv' : View w ao' ys) (hn : xs.length ≤ 1048576) (hn' : ys.length ≤ 1048576) :
    Calls Try.prog 65 #[.slice ao xs.length cap, .slice ao' ys.length cap', .int .i64 k] w fun e w' => e = .returned (.int .i64 (betV xs ys k)) ∧ ∃ n, w' = w.drewN n := by
  by_cases h1 : k = 1
  · subst h1
    rw [betV_1]
    go_enter Try.func65, Try.ntmps65
    go_wp2_with fail
    refine (sFar ao ao' cap cap' xs ys _ hv hv' hn hn').mono ?_
    rintro e w1 ⟨rfl, n1, rfl⟩
    go_wp2_with fail
    go_ret
    exact ⟨rfl, n1, rfl⟩
  · have b1 : (k == 1) = false := by simp [h1]
    by_cases h2 : k = 2
    · subst h2
      rw [betV_2]
      go_enter Try.func65, Try.ntmps65
      go_wp2_with fail
      refine (sSteps ao ao' cap cap' xs ys _ hv hv' hn hn').mono ?_
      rintro e w1 ⟨rfl, n1, rfl⟩
      go_wp2_with fail
      go_ret
      exact ⟨rfl, n1, rfl⟩
    · have b2 : (k == 2) = false := by simp [h2]
      by_cases h3 : k = 3
      · subst h3
        rw [betV_3]
        go_enter Try.func65, Try.ntmps65
        go_wp2_with fail
        refine (sReach ao ao' cap cap' xs ys _ hv hv' hn hn').mono ?_
        rintro e w1 ⟨rfl, n1, rfl⟩
        go_wp2_with fail
        go_ret
        exact ⟨rfl, n1, rfl⟩
      · have b3 : (k == 3) = false := by simp [h3]
        have HV := hidP (betV_no xs ys h1 h2 h3)
        go_enter Try.func65, Try.ntmps65
        go_wp2_with fail
        go_ret
        exact ⟨ret_int HV.out.symm, 0, rfl⟩

set_option maxHeartbeats 400000 in
theorem pTimes2 (b off cap k : Nat) (x : Int) (xs : List Int) (w : World) (hs : Seg w b off xs) (hk : k < xs.length) (h1 : 0 ≤ nth xs k) (h2 : nth xs k ≤ 2000) (h3 : 0 ≤ x) (h4 : x ≤ 2000) :
    Calls Try.prog 104 #[.slice (some ⟨b, off, none⟩) xs.length cap, .int .i64 k, .int .i64 x] w fun e w' => e = .returned (.int .i64 (nth xs k * x)) ∧ ∃ n, w' = w.drewN n := by
  have hc := hs k hk
  have hb := mul_bd (x := nth xs k) (y := x) (m := 2000) (by omega) (by omega) (by omega)
  go_enter Try.func104, Try.ntmps104
  go_wp2
  go_ret
  exact ⟨rfl, 0, rfl⟩

theorem below_two {w w1 w2 : World} (h : Below w.heap.size w w1) (k : Below w1.heap.size w1 w2) : Below w.heap.size w w2 := h.trans (k.mono h.size)

set_option maxHeartbeats 1000000 in
theorem pBet (b off cap b' off' cap' : Nat) (xs ys : List Int) (k : Int) (w : World) (hs : Seg w b off xs) (hs' : Seg w b' off' ys) (hb : b < w.heap.size) (hb' : b' < w.heap.size) (ht : twoB xs ys = true) :
    Calls Try.prog 68 #[.slice (some ⟨b, off, none⟩) xs.length cap, .slice (some ⟨b', off', none⟩) ys.length cap', .int .i64 k] w fun e w' => e = .returned (.int .i64 (betV xs ys k)) ∧ Below w.heap.size w w' := by
  obtain ⟨ha, hbo, hl⟩ := twoB_of ht
  have h4 := okB_len hbo
  have HL : Hid (xs.length = ys.length) := hl
  have HZ : Hid ((tabL (gapF xs ys) ys.length).length = ys.length) := tabL_length _ _
  have HE : Hid (Calls Try.prog 102 #[.slice (some ⟨b', off', none⟩) ys.length cap', .func (Fn.func 103) #[.slice (some ⟨b, off, none⟩) xs.length cap] #[]] w fun e w' =>
      e = .returned (.slice (some ⟨w.heap.size, 0, none⟩) ys.length ys.length) ∧ Own w' w.heap.size (tabL (gapF xs ys) ys.length) ∧ Below w.heap.size w w') :=
    pEachGap (gapF xs ys) b off cap b' off' cap' xs.length xs ys w hs hs' hb hb' h4.2 (fun W k hk hS => by
      have hx := okB_at ha k
      have hy := okB_at hbo k
      exact pGap b off cap k (nth ys k) xs W hS (by rw [hl]; exact hk) hx.1 hx.2 hy.1 hy.2)
  have HG : Hid (∀ i, 0 ≤ nth (tabL (gapF xs ys) ys.length) i ∧ nth (tabL (gapF xs ys) ys.length) i ≤ 2000) := fun i => tab_bd _ _ 0 2000 (by omega) (by omega) (fun i => gapF_bd ha hbo i) i
  clear hl
  by_cases h1 : k = 1
  · subst h1
    have HV : Hid (betV xs ys 1 = sumTo (sqF xs ys) ys.length) := by show betV xs ys 1 = _; rw [betV_1]; simp [farV, ht, HL.out]
    go_enter Try.func68, Try.ntmps68
    go_wp2_with fail
    refine HE.out.mono ?_
    rintro e w1 ⟨rfl, o1, L1⟩
    have hsz1 : w.heap.size < w1.heap.size := o1.lt
    go_wp2_with fail
    have hcall := pEachTimes (sqF xs ys) w.heap.size 0 ys.length w.heap.size 0 ys.length ys.length (tabL (gapF xs ys) ys.length) (tabL (gapF xs ys) ys.length) w1 o1.seg o1.seg hsz1 hsz1 (by rw [HZ.out]; exact h4.2) (fun W j hj hS => by
      have hx := HG.out j
      have hc := pTimes2 w.heap.size 0 ys.length j (nth (tabL (gapF xs ys) ys.length) j) (tabL (gapF xs ys) ys.length) W hS hj hx.1 hx.2 hx.1 hx.2
      rw [HZ.out] at hc hj
      rw [tabL_getD _ _ _ hj] at *
      rw [sqF_gap]
      exact hc)
    rw [HZ.out] at hcall
    refine hcall.mono ?_
    rintro e w2 ⟨rfl, o2, L2⟩
    clear hcall
    have L3 := below_two L1 L2
    go_wp2_with fail
    have hend := pTotal w1.heap.size 0 ys.length (tabL (sqF xs ys) ys.length) w2 o2.seg (by rw [tabL_length]; exact h4.2) (tab_bd _ _ (-4000000) 4000000 (by omega) (by omega) (fun i => by have := sqF_bd ha hbo i; omega))
    rw [sum_tab, tabL_length] at hend
    refine hend.mono ?_
    rintro e w3 ⟨rfl, rfl⟩
    clear hend
    go_wp2_with fail
    go_ret
    exact ⟨ret_int HV.out.symm, L3⟩
  · have b1 : (k == 1) = false := by simp [h1]
    by_cases h2 : k = 2
    · subst h2
      have HV : Hid (betV xs ys 2 = sumTo (gapF xs ys) ys.length) := by show betV xs ys 2 = _; rw [betV_2]; simp [stepsV, ht, HL.out]
      go_enter Try.func68, Try.ntmps68
      go_wp2_with fail
      refine HE.out.mono ?_
      rintro e w1 ⟨rfl, o1, L1⟩
      go_wp2_with fail
      have hend := pTotal w.heap.size 0 ys.length (tabL (gapF xs ys) ys.length) w1 o1.seg (by rw [tabL_length]; exact h4.2) (fun i => by have := HG.out i; omega)
      rw [sum_tab, tabL_length] at hend
      refine hend.mono ?_
      rintro e w3 ⟨rfl, rfl⟩
      clear hend
      go_wp2_with fail
      go_ret
      exact ⟨ret_int HV.out.symm, L1⟩
    · have b2 : (k == 2) = false := by simp [h2]
      by_cases h3 : k = 3
      · subst h3
        have HV : Hid (betV xs ys 3 = maxTo (gapF xs ys) ys.length) := by show betV xs ys 3 = _; rw [betV_3]; simp [reachV, ht, HL.out]
        go_enter Try.func68, Try.ntmps68
        go_wp2_with fail
        refine HE.out.mono ?_
        rintro e w1 ⟨rfl, o1, L1⟩
        go_wp2_with fail
        have hend := pMax w.heap.size 0 ys.length (tabL (gapF xs ys) ys.length) w1 o1.seg (by rw [tabL_length]; exact h4.1) (by rw [tabL_length]; exact h4.2) HG.out
        rw [max_tab, tabL_length] at hend
        refine hend.mono ?_
        rintro e w3 ⟨rfl, rfl⟩
        clear hend
        go_wp2_with fail
        go_ret
        exact ⟨ret_int HV.out.symm, L1⟩
      · have b3 : (k == 3) = false := by simp [h3]
        have HV := hidP (betV_no xs ys h1 h2 h3)
        go_enter Try.func68, Try.ntmps68
        go_wp2_with fail
        refine HE.out.mono ?_
        rintro e w1 ⟨rfl, o1, L1⟩
        go_wp2_with fail
        go_ret
        exact ⟨ret_int HV.out.symm, L1⟩

set_option maxHeartbeats 400000 in
theorem iBet (ao ao' : Option Addr) (cap cap' : Nat) (xs ys : List Int) (k : Int) (w : World) (hv : View w ao xs) (hv' : View w ao' ys) (hn : xs.length ≤ 1048576) (hn' : ys.length ≤ 1048576) :
    Calls Try.prog 22 #[.slice ao xs.length cap, .slice ao' ys.length cap', .int .i64 k] w fun e w' => e = .returned (.int .i64 (betV xs ys k)) ∧ Below w.heap.size w w' := by
  rcases ht : twoB xs ys with _ | _
  · have HV := hidP (betV_apart xs ys k ht)
    go_enter Try.func22, Try.ntmps22
    go_wp2_with fail
    refine (pPairs ao ao' cap cap' xs ys _ hv hv' hn hn').mono ?_
    rintro e w1 ⟨rfl, rfl⟩
    go_wp2_with fail
    go_ret
    exact ⟨ret_int HV.out.symm, Below.refl _ _⟩
  · obtain ⟨ha, hb, hl⟩ := twoB_of ht
    have h4 := okB_len ha
    obtain ⟨b, off, rfl, hbs, hs⟩ : ∃ b off, ao = some ⟨b, off, none⟩ ∧ b < w.heap.size ∧ Seg w b off xs := by
      rcases hv with rfl | h
      · simp at h4
      · exact h
    obtain ⟨b', off', rfl, hbs', hs'⟩ : ∃ b off, ao' = some ⟨b, off, none⟩ ∧ b < w.heap.size ∧ Seg w b off ys := by
      rcases hv' with rfl | h
      · simp at hl; rw [hl] at h4; simp at h4
      · exact h
    clear ha hb hl h4
    go_enter Try.func22, Try.ntmps22
    go_wp2_with fail
    refine (pPairs _ _ cap cap' xs ys _ (Or.inr ⟨b, off, rfl, hbs, hs⟩) (Or.inr ⟨b', off', rfl, hbs', hs'⟩) hn hn').mono ?_
    rintro e w1 ⟨rfl, rfl⟩
    go_wp2_with fail
    refine (pBet b off cap b' off' cap' xs ys k _ hs hs' hbs hbs' ht).mono ?_
    rintro e w2 ⟨rfl, L2⟩
    go_wp2_with fail
    go_ret
    exact ⟨rfl, L2⟩

end Go.Proofs.Ytfbindjacmaeoaa
namespace Go.Proofs.Ytfbindjacmaeoaa
open Go Go.RowKit

theorem maxV_bet (ms : List Mk) (p : List Int) (kd : Int) (k : Nat) : maxTo (betF ms p kd) (k + 1) = maxV (maxTo (betF ms p kd) k) (betV p (mat ms k) kd) := rfl
theorem max_bet (ms : List Mk) (p : List Int) (kd : Int) (k : Nat) : maxTo (betF ms p kd) (k + 1) = max (maxTo (betF ms p kd) k) (betV p (mat ms k) kd) := rfl
theorem maxV_most (ms : List Mk) (kd : Int) (k : Nat) : maxTo (mostF ms kd) (k + 1) = maxV (maxTo (mostF ms kd) k) (mostV ms (mat ms k) kd) := rfl

end Go.Proofs.Ytfbindjacmaeoaa
namespace Go.Proofs.Ytfbindjacmaeoaa
open Go Go.RowKit

def diaI (ms : List Mk) (kd : Int) (k : Nat) : Int := if k = 0 then -1 else maxTo (mostF ms kd) k
theorem diaI_le (ms : List Mk) (kd : Int) (k : Nat) : -1 ≤ diaI ms kd k ∧ diaI ms kd k ≤ 16000000 := by
  have := dia_le ms kd k
  unfold diaI; split <;> omega
theorem diaI_next (ms : List Mk) (kd : Int) (k : Nat) : diaI ms kd (k + 1) = max (diaI ms kd k) (mostV ms (mat ms k) kd) := by
  have h := mostF_le ms kd k
  have h' : mostF ms kd k = mostV ms (mat ms k) kd := rfl
  unfold diaI
  rw [if_neg (by omega)]
  split
  · rename_i hk; subst hk; simp only [maxTo]; omega
  · simp only [maxTo]; omega
theorem diaI_all (ms : List Mk) (kd : Int) (hm : marksB ms = true) (hk : kindB kd = true) : diaV ms kd = diaI ms kd ms.length := by
  unfold diaI
  split
  · rename_i h; simp [diaV, noneB_nil h]
  · rename_i h; simp [diaV, noneB_false h hm hk]

theorem bestI_yes (ms : List Mk) (kd : Int) (k : Nat) (h : mostF ms kd k < mostF ms kd (bestI ms kd k)) : bestI ms kd (k + 1) = k := by simp [bestI, h]
theorem bestI_no (ms : List Mk) (kd : Int) (k : Nat) (h : ¬ mostF ms kd k < mostF ms kd (bestI ms kd k)) : bestI ms kd (k + 1) = bestI ms kd k := by simp [bestI, h]
theorem mostF_V (ms : List Mk) (kd : Int) (k : Nat) : mostF ms kd k = mostV ms (mat ms k) kd := rfl

end Go.Proofs.Ytfbindjacmaeoaa
namespace Go.Proofs.Ytfbindjacmaeoaa
open Go Go.RowKit

def gapTo (kd : Int) (cs : List Mk) (p : List Int) : Nat → Int
  | 0 => betV (mat cs 0) p kd
  | k + 1 => min (gapTo kd cs p k) (betV (mat cs (k + 1)) p kd)
def gapV (kd : Int) (cs : List Mk) (p : List Int) : Int := gapTo kd cs p (cs.length - 1)
def zGapF (kd : Int) (cs ms : List Mk) (i : Nat) : Int := gapV kd cs (mat ms i)
theorem gapTo_bd (kd : Int) (cs : List Mk) (p : List Int) (k : Nat) : -1 ≤ gapTo kd cs p k ∧ gapTo kd cs p k ≤ 16000000 := by
  induction k with
  | zero => exact betV_le _ _ _
  | succ k ih => have := betV_le (mat cs (k + 1)) p kd; simp only [gapTo]; omega

theorem zGap_max (kd : Int) (cs ms : List Mk) (k : Nat) : maxTo (zGapF kd cs ms) (k + 1) = max (maxTo (zGapF kd cs ms) k) (gapV kd cs (mat ms k)) := rfl
theorem zGap_bd (kd : Int) (cs ms : List Mk) (k : Nat) : 0 ≤ maxTo (zGapF kd cs ms) k ∧ maxTo (zGapF kd cs ms) k ≤ 16000000 :=
  maxTo_le _ _ (by omega) (fun _ => (gapTo_bd _ _ _ _).2) k

end Go.Proofs.Ytfbindjacmaeoaa
