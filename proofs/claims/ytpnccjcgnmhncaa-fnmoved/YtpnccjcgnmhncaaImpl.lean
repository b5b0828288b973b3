/-
  The program's own Far, Dot, Steps, Reach and Moved: each answers as its plain function, and writes nothing that was there.
-/
import Derived.Test.YtpnccjcgnmhncaaEach
namespace Go.Proofs.Ytpnccjcgnmhncaa
open Go Go.RowKit

theorem sum_tab (g : Nat → Int) (n : Nat) : sumTo (nth (tabL g n)) (tabL g n).length = sumTo g n := by
  rw [tabL_length]; exact sumTo_congr _ _ _ (fun i hi => tabL_getD g n i hi)
theorem max_tab (g : Nat → Int) (n : Nat) : maxTo (nth (tabL g n)) (tabL g n).length = maxTo g n := by
  rw [tabL_length]; exact maxTo_congr _ _ _ (fun i hi => tabL_getD g n i hi)
theorem tab_bd (g : Nat → Int) (n : Nat) (lo hi : Int) (h0 : lo ≤ 0) (h1 : 0 ≤ hi) (h : ∀ i, lo ≤ g i ∧ g i ≤ hi) (i : Nat) : lo ≤ nth (tabL g n) i ∧ nth (tabL g n) i ≤ hi := by
  by_cases hi : i < n
  · rw [tabL_getD g n i hi]; exact h i
  · have : nth (tabL g n) i = 0 := by simp [nth, tabL, List.getD, hi]
    rw [this]; exact ⟨h0, h1⟩

set_option maxHeartbeats 400000 in
theorem pMax (b off cap : Nat) (xs : List Int) (w : World) (hs : Seg w b off xs) (h1 : 1 ≤ xs.length) (hn : xs.length ≤ 4) (hbd : ∀ i, 0 ≤ nth xs i ∧ nth xs i ≤ 2000) :
    Calls Try.prog 54 #[.slice (some ⟨b, off, none⟩) xs.length cap] w fun e w' => e = .returned (.int .i64 (maxTo (nth xs) xs.length)) ∧ w' = w := by
  have HB : Hid (∀ i, 0 ≤ nth xs i ∧ nth xs i ≤ 2000) := hbd
  clear hbd
  have hc0 := hs 0 (by omega)
  rw [Nat.add_zero] at hc0
  go_enter Try.func54, Try.ntmps54
  go_wp2
  clear hc0
  go_loop [3, 4] (fun m i => ∃ k : Nat, 1 ≤ k ∧ k ≤ xs.length ∧ i = .int .i64 k ∧ m = .int .i64 (maxTo (nth xs) k)) (fun _ i => xs.length - (intOf i).toNat)
  case atStart =>
    refine ⟨1, Nat.le_refl _, h1, rfl, ?_⟩
    have := HB.out 0
    have e : maxTo (nth xs) 1 = nth xs 0 := by simp only [maxTo]; omega
    rw [e]
  case round =>
    obtain ⟨k, hk1, hk, rfl, rfl⟩ := hrel
    by_cases hlt : k < xs.length
    · have hc := hs k hlt
      have HN : Hid (maxTo (nth xs) (k + 1) = max (maxTo (nth xs) k) (nth xs k)) := rfl
      go_wp2
      all_goals
        go_round
        case rel => exact ⟨k + 1, by omega, by omega, by go_num, by rw [HN.out]; congr 1; omega⟩
        case measure => simp [intOf]; omega
    · go_wp2
      go_ret
      obtain rfl : k = xs.length := by omega
      exact ⟨rfl, rfl⟩

set_option maxHeartbeats 400000 in
theorem pFar (b off cap b' off' cap' : Nat) (xs ys : List Int) (w : World) (hs : Seg w b off xs) (hs' : Seg w b' off' ys) (hb : b < w.heap.size) (hb' : b' < w.heap.size) (ht : twoB xs ys = true) :
    Calls Try.prog 38 #[.slice (some ⟨b, off, none⟩) xs.length cap, .slice (some ⟨b', off', none⟩) ys.length cap'] w fun e w' => e = .returned (.int .i64 (sumTo (sqF xs ys) xs.length)) ∧ Below w.heap.size w w' := by
  obtain ⟨ha, hbo, hl⟩ := twoB_of ht
  have h4 := okB_len hbo
  have HR : Hid (sumTo (nth (tabL (sqF xs ys) ys.length)) (tabL (sqF xs ys) ys.length).length = sumTo (sqF xs ys) xs.length) := by
    show _ = _
    rw [sum_tab, hl]
  have HL : Hid (xs.length = ys.length) := hl
  have HZ : Hid ((tabL (sqF xs ys) ys.length).length = ys.length) := tabL_length _ _
  clear hl
  go_enter Try.func38, Try.ntmps38
  go_wp2_with fail
  refine (pEachSquare (sqF xs ys) b off cap b' off' cap' xs.length xs ys _ hs hs' hb hb' h4.2 (fun W k hk hS => ?_)).mono ?_
  · have hx := okB_at ha k
    have hy := okB_at hbo k
    exact pSquare b off cap k (nth ys k) xs W hS (by rw [HL.out]; exact hk) hx.1 hx.2 hy.1 hy.2
  rintro e w1 ⟨rfl, o1, L1⟩
  go_wp2_with fail
  have hend := pTotal w.heap.size 0 ys.length (tabL (sqF xs ys) ys.length) w1 o1.seg (by rw [HZ.out]; exact h4.2) (tab_bd _ _ (-4000000) 4000000 (by omega) (by omega) (fun i => by have := sqF_bd ha hbo i; omega))
  rw [HZ.out, ← HL.out] at hend
  rw [← HL.out]
  refine hend.mono ?_
  rintro e w2 ⟨rfl, rfl⟩
  go_wp2_with fail
  go_ret
  exact ⟨ret_int (by have := HR.out; rwa [HZ.out, ← HL.out] at this), L1⟩

set_option maxHeartbeats 400000 in
theorem pDot (b off cap b' off' cap' : Nat) (xs ys : List Int) (w : World) (hs : Seg w b off xs) (hs' : Seg w b' off' ys) (hb : b < w.heap.size) (hb' : b' < w.heap.size) (ht : twoB xs ys = true) :
    Calls Try.prog 39 #[.slice (some ⟨b, off, none⟩) xs.length cap, .slice (some ⟨b', off', none⟩) ys.length cap'] w fun e w' => e = .returned (.int .i64 (sumTo (mulF xs ys) xs.length)) ∧ Below w.heap.size w w' := by
  obtain ⟨ha, hbo, hl⟩ := twoB_of ht
  have h4 := okB_len hbo
  have HR : Hid (sumTo (nth (tabL (mulF xs ys) ys.length)) (tabL (mulF xs ys) ys.length).length = sumTo (mulF xs ys) xs.length) := by
    show _ = _
    rw [sum_tab, hl]
  have HL : Hid (xs.length = ys.length) := hl
  have HZ : Hid ((tabL (mulF xs ys) ys.length).length = ys.length) := tabL_length _ _
  clear hl
  go_enter Try.func39, Try.ntmps39
  go_wp2_with fail
  refine (pEachTimes (mulF xs ys) b off cap b' off' cap' xs.length xs ys _ hs hs' hb hb' h4.2 (fun W k hk hS => ?_)).mono ?_
  · have hx := okB_at ha k
    have hy := okB_at hbo k
    exact pTimes b off cap k (nth ys k) xs W hS (by rw [HL.out]; exact hk) hx.1 hx.2 hy.1 hy.2
  rintro e w1 ⟨rfl, o1, L1⟩
  go_wp2_with fail
  have hend := pTotal w.heap.size 0 ys.length (tabL (mulF xs ys) ys.length) w1 o1.seg (by rw [HZ.out]; exact h4.2) (tab_bd _ _ (-4000000) 4000000 (by omega) (by omega) (fun i => by have := mulF_bd ha hbo i; omega))
  rw [HZ.out, ← HL.out] at hend
  rw [← HL.out]
  refine hend.mono ?_
  rintro e w2 ⟨rfl, rfl⟩
  go_wp2_with fail
  go_ret
  exact ⟨ret_int (by have := HR.out; rwa [HZ.out, ← HL.out] at this), L1⟩

set_option maxHeartbeats 400000 in
theorem pSteps (b off cap b' off' cap' : Nat) (xs ys : List Int) (w : World) (hs : Seg w b off xs) (hs' : Seg w b' off' ys) (hb : b < w.heap.size) (hb' : b' < w.heap.size) (ht : twoB xs ys = true) :
    Calls Try.prog 41 #[.slice (some ⟨b, off, none⟩) xs.length cap, .slice (some ⟨b', off', none⟩) ys.length cap'] w fun e w' => e = .returned (.int .i64 (sumTo (gapF xs ys) xs.length)) ∧ Below w.heap.size w w' := by
  obtain ⟨ha, hbo, hl⟩ := twoB_of ht
  have h4 := okB_len hbo
  have HR : Hid (sumTo (nth (tabL (gapF xs ys) ys.length)) (tabL (gapF xs ys) ys.length).length = sumTo (gapF xs ys) xs.length) := by
    show _ = _
    rw [sum_tab, hl]
  have HL : Hid (xs.length = ys.length) := hl
  have HZ : Hid ((tabL (gapF xs ys) ys.length).length = ys.length) := tabL_length _ _
  clear hl
  go_enter Try.func41, Try.ntmps41
  go_wp2_with fail
  refine (pEachGap (gapF xs ys) b off cap b' off' cap' xs.length xs ys _ hs hs' hb hb' h4.2 (fun W k hk hS => ?_)).mono ?_
  · have hx := okB_at ha k
    have hy := okB_at hbo k
    exact pGap b off cap k (nth ys k) xs W hS (by rw [HL.out]; exact hk) hx.1 hx.2 hy.1 hy.2
  rintro e w1 ⟨rfl, o1, L1⟩
  go_wp2_with fail
  have hend := pTotal w.heap.size 0 ys.length (tabL (gapF xs ys) ys.length) w1 o1.seg (by rw [HZ.out]; exact h4.2) (tab_bd _ _ (-4000000) 4000000 (by omega) (by omega) (fun i => by have := gapF_bd ha hbo i; omega))
  rw [HZ.out, ← HL.out] at hend
  rw [← HL.out]
  refine hend.mono ?_
  rintro e w2 ⟨rfl, rfl⟩
  go_wp2_with fail
  go_ret
  exact ⟨ret_int (by have := HR.out; rwa [HZ.out, ← HL.out] at this), L1⟩

set_option maxHeartbeats 400000 in
theorem pReach (b off cap b' off' cap' : Nat) (xs ys : List Int) (w : World) (hs : Seg w b off xs) (hs' : Seg w b' off' ys) (hb : b < w.heap.size) (hb' : b' < w.heap.size) (ht : twoB xs ys = true) :
    Calls Try.prog 43 #[.slice (some ⟨b, off, none⟩) xs.length cap, .slice (some ⟨b', off', none⟩) ys.length cap'] w fun e w' => e = .returned (.int .i64 (maxTo (gapF xs ys) xs.length)) ∧ Below w.heap.size w w' := by
  obtain ⟨ha, hbo, hl⟩ := twoB_of ht
  have h4 := okB_len hbo
  have HR : Hid (maxTo (nth (tabL (gapF xs ys) ys.length)) (tabL (gapF xs ys) ys.length).length = maxTo (gapF xs ys) xs.length) := by
    show _ = _
    rw [max_tab, hl]
  have HL : Hid (xs.length = ys.length) := hl
  have HZ : Hid ((tabL (gapF xs ys) ys.length).length = ys.length) := tabL_length _ _
  clear hl
  go_enter Try.func43, Try.ntmps43
  go_wp2_with fail
  refine (pEachGap (gapF xs ys) b off cap b' off' cap' xs.length xs ys _ hs hs' hb hb' h4.2 (fun W k hk hS => ?_)).mono ?_
  · have hx := okB_at ha k
    have hy := okB_at hbo k
    exact pGap b off cap k (nth ys k) xs W hS (by rw [HL.out]; exact hk) hx.1 hx.2 hy.1 hy.2
  rintro e w1 ⟨rfl, o1, L1⟩
  go_wp2_with fail
  have hend := pMax w.heap.size 0 ys.length (tabL (gapF xs ys) ys.length) w1 o1.seg (by rw [HZ.out]; exact h4.1) (by rw [HZ.out]; exact h4.2) (tab_bd _ _ 0 2000 (by omega) (by omega) (fun i => gapF_bd ha hbo i))
  rw [HZ.out, ← HL.out] at hend
  rw [← HL.out]
  refine hend.mono ?_
  rintro e w2 ⟨rfl, rfl⟩
  go_wp2_with fail
  go_ret
  exact ⟨ret_int (by have := HR.out; rwa [HZ.out, ← HL.out] at this), L1⟩

set_option maxHeartbeats 400000 in
theorem mFar (ao ao' : Option Addr) (cap cap' : Nat) (xs ys : List Int) (w : World) (r : Int) (hv : View w ao xs) (hv' : View w ao' ys) (hn : xs.length ≤ 1048576) (hn' : ys.length ≤ 1048576) :
    Calls Try.prog 37 #[.slice ao xs.length cap, .slice ao' ys.length cap', .func (Fn.func 38) #[] #[], .int .i64 r] w fun e w' => e = .returned (.int .i64 (if twoB xs ys = true then sumTo (sqF xs ys) xs.length else r)) ∧ Below w.heap.size w w' := by
  rcases ht : twoB xs ys with _ | _
  · go_enter Try.func37, Try.ntmps37
    go_wp2_with fail
    refine (pPairs ao ao' cap cap' xs ys _ hv hv' hn hn').mono ?_
    rintro e w1 ⟨rfl, rfl⟩
    go_wp2_with fail
    go_ret
    exact ⟨ret_int (by simp), Below.refl _ _⟩
  · obtain ⟨ha, hb, hl⟩ := twoB_of ht
    have h4 := okB_len ha
    obtain ⟨b, off, rfl, hbs, hs⟩ : ∃ b off, ao = some ⟨b, off, none⟩ ∧ b < w.heap.size ∧ Seg w b off xs := by
      rcases hv with rfl | h
      · simp at h4
      · exact h
    obtain ⟨b', off', rfl, hbs', hs'⟩ : ∃ b off, ao' = some ⟨b, off, none⟩ ∧ b < w.heap.size ∧ Seg w b off ys := by
      rcases hv' with rfl | h
      · simp at hl; rw [hl] at h4; simp at h4
      · exact h
    clear ha hb hl h4
    go_enter Try.func37, Try.ntmps37
    go_wp2_with fail
    refine (pPairs _ _ cap cap' xs ys _ (Or.inr ⟨b, off, rfl, hbs, hs⟩) (Or.inr ⟨b', off', rfl, hbs', hs'⟩) hn hn').mono ?_
    rintro e w1 ⟨rfl, rfl⟩
    go_wp2_with fail
    refine (pFar b off cap b' off' cap' xs ys _ hs hs' hbs hbs' ht).mono ?_
    rintro e w2 ⟨rfl, L2⟩
    go_wp2_with fail
    go_ret
    exact ⟨ret_int (by simp), L2⟩

set_option maxHeartbeats 400000 in
theorem iFar (ao ao' : Option Addr) (cap cap' : Nat) (xs ys : List Int) (w : World) (hv : View w ao xs) (hv' : View w ao' ys) (hn : xs.length ≤ 1048576) (hn' : ys.length ≤ 1048576) :
    Calls Try.prog 17 #[.slice ao xs.length cap, .slice ao' ys.length cap'] w fun e w' => e = .returned (.int .i64 (farV xs ys)) ∧ Below w.heap.size w w' := by
  go_enter Try.func17, Try.ntmps17
  go_wp2_with fail
  refine (mFar ao ao' cap cap' xs ys _ (-1) hv hv' hn hn').mono ?_
  rintro e w1 ⟨rfl, L1⟩
  have HV : Hid (farV xs ys = if twoB xs ys = true then sumTo (sqF xs ys) xs.length else -1) := rfl
  generalize (if twoB xs ys = true then sumTo (sqF xs ys) xs.length else -1) = r at *
  go_wp2_with fail
  go_ret
  exact ⟨ret_int HV.out.symm, L1⟩

set_option maxHeartbeats 400000 in
theorem mDot (ao ao' : Option Addr) (cap cap' : Nat) (xs ys : List Int) (w : World) (r : Int) (hv : View w ao xs) (hv' : View w ao' ys) (hn : xs.length ≤ 1048576) (hn' : ys.length ≤ 1048576) :
    Calls Try.prog 37 #[.slice ao xs.length cap, .slice ao' ys.length cap', .func (Fn.func 39) #[] #[], .int .i64 r] w fun e w' => e = .returned (.int .i64 (if twoB xs ys = true then sumTo (mulF xs ys) xs.length else r)) ∧ Below w.heap.size w w' := by
  rcases ht : twoB xs ys with _ | _
  · go_enter Try.func37, Try.ntmps37
    go_wp2_with fail
    refine (pPairs ao ao' cap cap' xs ys _ hv hv' hn hn').mono ?_
    rintro e w1 ⟨rfl, rfl⟩
    go_wp2_with fail
    go_ret
    exact ⟨ret_int (by simp), Below.refl _ _⟩
  · obtain ⟨ha, hb, hl⟩ := twoB_of ht
    have h4 := okB_len ha
    obtain ⟨b, off, rfl, hbs, hs⟩ : ∃ b off, ao = some ⟨b, off, none⟩ ∧ b < w.heap.size ∧ Seg w b off xs := by
      rcases hv with rfl | h
      · simp at h4
      · exact h
    obtain ⟨b', off', rfl, hbs', hs'⟩ : ∃ b off, ao' = some ⟨b, off, none⟩ ∧ b < w.heap.size ∧ Seg w b off ys := by
      rcases hv' with rfl | h
      · simp at hl; rw [hl] at h4; simp at h4
      · exact h
    clear ha hb hl h4
    go_enter Try.func37, Try.ntmps37
    go_wp2_with fail
    refine (pPairs _ _ cap cap' xs ys _ (Or.inr ⟨b, off, rfl, hbs, hs⟩) (Or.inr ⟨b', off', rfl, hbs', hs'⟩) hn hn').mono ?_
    rintro e w1 ⟨rfl, rfl⟩
    go_wp2_with fail
    refine (pDot b off cap b' off' cap' xs ys _ hs hs' hbs hbs' ht).mono ?_
    rintro e w2 ⟨rfl, L2⟩
    go_wp2_with fail
    go_ret
    exact ⟨ret_int (by simp), L2⟩

set_option maxHeartbeats 400000 in
theorem iDot (ao ao' : Option Addr) (cap cap' : Nat) (xs ys : List Int) (w : World) (hv : View w ao xs) (hv' : View w ao' ys) (hn : xs.length ≤ 1048576) (hn' : ys.length ≤ 1048576) :
    Calls Try.prog 19 #[.slice ao xs.length cap, .slice ao' ys.length cap'] w fun e w' => e = .returned (.int .i64 (dotV xs ys)) ∧ Below w.heap.size w w' := by
  go_enter Try.func19, Try.ntmps19
  go_wp2_with fail
  refine (mDot ao ao' cap cap' xs ys _ (0) hv hv' hn hn').mono ?_
  rintro e w1 ⟨rfl, L1⟩
  have HV : Hid (dotV xs ys = if twoB xs ys = true then sumTo (mulF xs ys) xs.length else 0) := rfl
  generalize (if twoB xs ys = true then sumTo (mulF xs ys) xs.length else 0) = r at *
  go_wp2_with fail
  go_ret
  exact ⟨ret_int HV.out.symm, L1⟩

set_option maxHeartbeats 400000 in
theorem mSteps (ao ao' : Option Addr) (cap cap' : Nat) (xs ys : List Int) (w : World) (r : Int) (hv : View w ao xs) (hv' : View w ao' ys) (hn : xs.length ≤ 1048576) (hn' : ys.length ≤ 1048576) :
    Calls Try.prog 37 #[.slice ao xs.length cap, .slice ao' ys.length cap', .func (Fn.func 41) #[] #[], .int .i64 r] w fun e w' => e = .returned (.int .i64 (if twoB xs ys = true then sumTo (gapF xs ys) xs.length else r)) ∧ Below w.heap.size w w' := by
  rcases ht : twoB xs ys with _ | _
  · go_enter Try.func37, Try.ntmps37
    go_wp2_with fail
    refine (pPairs ao ao' cap cap' xs ys _ hv hv' hn hn').mono ?_
    rintro e w1 ⟨rfl, rfl⟩
    go_wp2_with fail
    go_ret
    exact ⟨ret_int (by simp), Below.refl _ _⟩
  · obtain ⟨ha, hb, hl⟩ := twoB_of ht
    have h4 := okB_len ha
    obtain ⟨b, off, rfl, hbs, hs⟩ : ∃ b off, ao = some ⟨b, off, none⟩ ∧ b < w.heap.size ∧ Seg w b off xs := by
      rcases hv with rfl | h
      · simp at h4
      · exact h
    obtain ⟨b', off', rfl, hbs', hs'⟩ : ∃ b off, ao' = some ⟨b, off, none⟩ ∧ b < w.heap.size ∧ Seg w b off ys := by
      rcases hv' with rfl | h
      · simp at hl; rw [hl] at h4; simp at h4
      · exact h
    clear ha hb hl h4
    go_enter Try.func37, Try.ntmps37
    go_wp2_with fail
    refine (pPairs _ _ cap cap' xs ys _ (Or.inr ⟨b, off, rfl, hbs, hs⟩) (Or.inr ⟨b', off', rfl, hbs', hs'⟩) hn hn').mono ?_
    rintro e w1 ⟨rfl, rfl⟩
    go_wp2_with fail
    refine (pSteps b off cap b' off' cap' xs ys _ hs hs' hbs hbs' ht).mono ?_
    rintro e w2 ⟨rfl, L2⟩
    go_wp2_with fail
    go_ret
    exact ⟨ret_int (by simp), L2⟩

set_option maxHeartbeats 400000 in
theorem iSteps (ao ao' : Option Addr) (cap cap' : Nat) (xs ys : List Int) (w : World) (hv : View w ao xs) (hv' : View w ao' ys) (hn : xs.length ≤ 1048576) (hn' : ys.length ≤ 1048576) :
    Calls Try.prog 21 #[.slice ao xs.length cap, .slice ao' ys.length cap'] w fun e w' => e = .returned (.int .i64 (stepsV xs ys)) ∧ Below w.heap.size w w' := by
  go_enter Try.func21, Try.ntmps21
  go_wp2_with fail
  refine (mSteps ao ao' cap cap' xs ys _ (-1) hv hv' hn hn').mono ?_
  rintro e w1 ⟨rfl, L1⟩
  have HV : Hid (stepsV xs ys = if twoB xs ys = true then sumTo (gapF xs ys) xs.length else -1) := rfl
  generalize (if twoB xs ys = true then sumTo (gapF xs ys) xs.length else -1) = r at *
  go_wp2_with fail
  go_ret
  exact ⟨ret_int HV.out.symm, L1⟩

set_option maxHeartbeats 400000 in
theorem mReach (ao ao' : Option Addr) (cap cap' : Nat) (xs ys : List Int) (w : World) (r : Int) (hv : View w ao xs) (hv' : View w ao' ys) (hn : xs.length ≤ 1048576) (hn' : ys.length ≤ 1048576) :
    Calls Try.prog 37 #[.slice ao xs.length cap, .slice ao' ys.length cap', .func (Fn.func 43) #[] #[], .int .i64 r] w fun e w' => e = .returned (.int .i64 (if twoB xs ys = true then maxTo (gapF xs ys) xs.length else r)) ∧ Below w.heap.size w w' := by
  rcases ht : twoB xs ys with _ | _
  · go_enter Try.func37, Try.ntmps37
    go_wp2_with fail
    refine (pPairs ao ao' cap cap' xs ys _ hv hv' hn hn').mono ?_
    rintro e w1 ⟨rfl, rfl⟩
    go_wp2_with fail
    go_ret
    exact ⟨ret_int (by simp), Below.refl _ _⟩
  · obtain ⟨ha, hb, hl⟩ := twoB_of ht
    have h4 := okB_len ha
    obtain ⟨b, off, rfl, hbs, hs⟩ : ∃ b off, ao = some ⟨b, off, none⟩ ∧ b < w.heap.size ∧ Seg w b off xs := by
      rcases hv with rfl | h
      · simp at h4
      · exact h
    obtain ⟨b', off', rfl, hbs', hs'⟩ : ∃ b off, ao' = some ⟨b, off, none⟩ ∧ b < w.heap.size ∧ Seg w b off ys := by
      rcases hv' with rfl | h
      · simp at hl; rw [hl] at h4; simp at h4
      · exact h
    clear ha hb hl h4
    go_enter Try.func37, Try.ntmps37
    go_wp2_with fail
    refine (pPairs _ _ cap cap' xs ys _ (Or.inr ⟨b, off, rfl, hbs, hs⟩) (Or.inr ⟨b', off', rfl, hbs', hs'⟩) hn hn').mono ?_
    rintro e w1 ⟨rfl, rfl⟩
    go_wp2_with fail
    refine (pReach b off cap b' off' cap' xs ys _ hs hs' hbs hbs' ht).mono ?_
    rintro e w2 ⟨rfl, L2⟩
    go_wp2_with fail
    go_ret
    exact ⟨ret_int (by simp), L2⟩

set_option maxHeartbeats 400000 in
theorem iReach (ao ao' : Option Addr) (cap cap' : Nat) (xs ys : List Int) (w : World) (hv : View w ao xs) (hv' : View w ao' ys) (hn : xs.length ≤ 1048576) (hn' : ys.length ≤ 1048576) :
    Calls Try.prog 23 #[.slice ao xs.length cap, .slice ao' ys.length cap'] w fun e w' => e = .returned (.int .i64 (reachV xs ys)) ∧ Below w.heap.size w w' := by
  go_enter Try.func23, Try.ntmps23
  go_wp2_with fail
  refine (mReach ao ao' cap cap' xs ys _ (-1) hv hv' hn hn').mono ?_
  rintro e w1 ⟨rfl, L1⟩
  have HV : Hid (reachV xs ys = if twoB xs ys = true then maxTo (gapF xs ys) xs.length else -1) := rfl
  generalize (if twoB xs ys = true then maxTo (gapF xs ys) xs.length else -1) = r at *
  go_wp2_with fail
  go_ret
  exact ⟨ret_int HV.out.symm, L1⟩

end Go.Proofs.Ytpnccjcgnmhncaa
