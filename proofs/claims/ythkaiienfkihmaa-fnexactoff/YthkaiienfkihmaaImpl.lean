/-
  The program's own Far, Dot, Steps, Reach and Moved: each answers as its plain function, and writes nothing that was there.
-/
import Derived.Test.YthkaiienfkihmaaEach
namespace Go.Proofs.Ythkaiienfkihmaa
open Go Go.RowKit

theorem sum_tab (g : Nat → Int) (n : Nat) : sumTo (nth (tabL g n)) (tabL g n).length = sumTo g n := by
  rw [tabL_length]; exact sumTo_congr _ _ _ (fun i hi => tabL_getD g n i hi)
theorem max_tab (g : Nat → Int) (n : Nat) : maxTo (nth (tabL g n)) (tabL g n).length = maxTo g n := by
  rw [tabL_length]; exact maxTo_congr _ _ _ (fun i hi => tabL_getD g n i hi)
theorem tab_bd (g : Nat → Int) (n : Nat) (lo hi : Int) (h0 : lo ≤ 0) (h1 : 0 ≤ hi) (h : ∀ i, lo ≤ g i ∧ g i ≤ hi) (i : Nat) : lo ≤ nth (tabL g n) i ∧ nth (tabL g n) i ≤ hi := by
  by_cases hi : i < n
  · rw [tabL_getD g n i hi]; exact h i
  · have : nth (tabL g n) i = 0 := by simp [nth, tabL, List.getD, hi]
    rw [this]; exact ⟨h0, h1⟩

set_option maxHeartbeats 400000 in
theorem pSteps (b off cap b' off' cap' : Nat) (xs ys : List Int) (w : World) (hs : Seg w b off xs) (hs' : Seg w b' off' ys) (hb : b < w.heap.size) (hb' : b' < w.heap.size) (ht : twoB xs ys = true) :
    Calls Try.prog 55 #[.slice (some ⟨b, off, none⟩) xs.length cap, .slice (some ⟨b', off', none⟩) ys.length cap'] w fun e w' => e = .returned (.int .i64 (sumTo (gapF xs ys) xs.length)) ∧ Below w.heap.size w w' := by
  obtain ⟨ha, hbo, hl⟩ := twoB_of ht
  have h4 := okB_len hbo
  have HR : Hid (sumTo (nth (tabL (gapF xs ys) ys.length)) (tabL (gapF xs ys) ys.length).length = sumTo (gapF xs ys) xs.length) := by
    show _ = _
    rw [sum_tab, hl]
  have HL : Hid (xs.length = ys.length) := hl
  have HZ : Hid ((tabL (gapF xs ys) ys.length).length = ys.length) := tabL_length _ _
  clear hl
  go_enter Try.func55, Try.ntmps55
  go_wp2_with fail
  refine (pEachGap (gapF xs ys) b off cap b' off' cap' xs.length xs ys _ hs hs' hb hb' h4.2 (fun W k hk hS => ?_)).mono ?_
  · have hx := okB_at ha k
    have hy := okB_at hbo k
    exact pGap b off cap k (nth ys k) xs W hS (by rw [HL.out]; exact hk) hx.1 hx.2 hy.1 hy.2
  rintro e w1 ⟨rfl, o1, L1⟩
  go_wp2_with fail
  have hend := pTotal w.heap.size 0 ys.length (tabL (gapF xs ys) ys.length) w1 o1.seg (by rw [HZ.out]; exact h4.2) (tab_bd _ _ (-4000000) 4000000 (by omega) (by omega) (fun i => by have := gapF_bd ha hbo i; omega))
  rw [HZ.out, ← HL.out] at hend
  rw [← HL.out]
  refine hend.mono ?_
  rintro e w2 ⟨rfl, rfl⟩
  go_wp2_with fail
  go_ret
  exact ⟨ret_int (by have := HR.out; rwa [HZ.out, ← HL.out] at this), L1⟩

set_option maxHeartbeats 400000 in
theorem mSteps (ao ao' : Option Addr) (cap cap' : Nat) (xs ys : List Int) (w : World) (r : Int) (hv : View w ao xs) (hv' : View w ao' ys) (hn : xs.length ≤ 1048576) (hn' : ys.length ≤ 1048576) :
    Calls Try.prog 54 #[.slice ao xs.length cap, .slice ao' ys.length cap', .func (Fn.func 55) #[] #[], .int .i64 r] w fun e w' => e = .returned (.int .i64 (if twoB xs ys = true then sumTo (gapF xs ys) xs.length else r)) ∧ Below w.heap.size w w' := by
  rcases ht : twoB xs ys with _ | _
  · go_enter Try.func54, Try.ntmps54
    go_wp2_with fail
    refine (pPairs ao ao' cap cap' xs ys _ hv hv' hn hn').mono ?_
    rintro e w1 ⟨rfl, rfl⟩
    go_wp2_with fail
    go_ret
    exact ⟨ret_int (by simp), Below.refl _ _⟩
  · obtain ⟨ha, hb, hl⟩ := twoB_of ht
    have h4 := okB_len ha
    obtain ⟨b, off, rfl, hbs, hs⟩ : ∃ b off, ao = some ⟨b, off, none⟩ ∧ b < w.heap.size ∧ Seg w b off xs := by
      rcases hv with rfl | h
      · simp at h4
      · exact h
    obtain ⟨b', off', rfl, hbs', hs'⟩ : ∃ b off, ao' = some ⟨b, off, none⟩ ∧ b < w.heap.size ∧ Seg w b off ys := by
      rcases hv' with rfl | h
      · simp at hl; rw [hl] at h4; simp at h4
      · exact h
    clear ha hb hl h4
    go_enter Try.func54, Try.ntmps54
    go_wp2_with fail
    refine (pPairs _ _ cap cap' xs ys _ (Or.inr ⟨b, off, rfl, hbs, hs⟩) (Or.inr ⟨b', off', rfl, hbs', hs'⟩) hn hn').mono ?_
    rintro e w1 ⟨rfl, rfl⟩
    go_wp2_with fail
    refine (pSteps b off cap b' off' cap' xs ys _ hs hs' hbs hbs' ht).mono ?_
    rintro e w2 ⟨rfl, L2⟩
    go_wp2_with fail
    go_ret
    exact ⟨ret_int (by simp), L2⟩

set_option maxHeartbeats 400000 in
theorem iSteps (ao ao' : Option Addr) (cap cap' : Nat) (xs ys : List Int) (w : World) (hv : View w ao xs) (hv' : View w ao' ys) (hn : xs.length ≤ 1048576) (hn' : ys.length ≤ 1048576) :
    Calls Try.prog 24 #[.slice ao xs.length cap, .slice ao' ys.length cap'] w fun e w' => e = .returned (.int .i64 (stepsV xs ys)) ∧ Below w.heap.size w w' := by
  go_enter Try.func24, Try.ntmps24
  go_wp2_with fail
  refine (mSteps ao ao' cap cap' xs ys _ (-1) hv hv' hn hn').mono ?_
  rintro e w1 ⟨rfl, L1⟩
  have HV : Hid (stepsV xs ys = if twoB xs ys = true then sumTo (gapF xs ys) xs.length else -1) := rfl
  generalize (if twoB xs ys = true then sumTo (gapF xs ys) xs.length else -1) = r at *
  go_wp2_with fail
  go_ret
  exact ⟨ret_int HV.out.symm, L1⟩

end Go.Proofs.Ythkaiienfkihmaa
