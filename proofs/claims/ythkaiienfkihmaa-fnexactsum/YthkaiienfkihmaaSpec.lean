/-
  The given Far, Dot, Steps and Reach: each answers as its plain function.
-/
import Derived.Test.YthkaiienfkihmaaOk
namespace Go.Proofs.Ythkaiienfkihmaa
open Go Go.RowKit

theorem ret_int {a b : Int} (h : a = b) : Ending.returned (.int .i64 a) = .returned (.int .i64 b) := by rw [h]

set_option maxHeartbeats 400000 in
theorem sTwo (ao ao' : Option Addr) (cap cap' : Nat) (xs ys : List Int) (w : World) (hv : View w ao xs) (hv' : View w ao' ys) (hn : xs.length ≤ 1048576) (hn' : ys.length ≤ 1048576) :
    Calls Try.prog 62 #[.slice ao xs.length cap, .slice ao' ys.length cap'] w fun e w' => e = .returned (.bool (twoB xs ys)) ∧ w' = w := by
  rcases ha : okB xs with _ | _
  · have HT := twoB_left (b := ys) ha
    go_enter Try.func62, Try.ntmps62
    go_wp2_with (go_at_call 46; refine (sOk ao cap xs _ hv hn).mono ?_; rintro e w' ⟨rfl, rfl⟩)
    go_ret
    exact ⟨ret_bool (by simp [HT]), rfl⟩
  · rcases hb : okB ys with _ | _
    · have HT := twoB_right (a := xs) hb
      go_enter Try.func62, Try.ntmps62
      go_wp2_with fail
      refine (sOk ao cap xs _ hv hn).mono ?_
      rintro e w' ⟨rfl, rfl⟩
      go_wp2_with fail
      refine (sOk ao' cap' ys _ hv' hn').mono ?_
      rintro e w' ⟨rfl, rfl⟩
      go_wp2_with fail
      go_ret
      exact ⟨ret_bool (by simp [HT]), rfl⟩
    · by_cases hl : xs.length = ys.length
      · have HT := twoB_true ha hb hl
        have hlb : ((xs.length : Int) == (ys.length : Int)) = true := by simp [hl]
        clear hl
        go_enter Try.func62, Try.ntmps62
        go_wp2_with fail
        refine (sOk ao cap xs _ hv hn).mono ?_
        rintro e w' ⟨rfl, rfl⟩
        go_wp2_with fail
        refine (sOk ao' cap' ys _ hv' hn').mono ?_
        rintro e w' ⟨rfl, rfl⟩
        go_wp2_with fail
        go_ret
        exact ⟨ret_bool (by simp [HT]), rfl⟩
      · have HT := twoB_len hl
        have hlb : ((xs.length : Int) == (ys.length : Int)) = false := by simp; omega
        clear hl
        go_enter Try.func62, Try.ntmps62
        go_wp2_with fail
        refine (sOk ao cap xs _ hv hn).mono ?_
        rintro e w' ⟨rfl, rfl⟩
        go_wp2_with fail
        refine (sOk ao' cap' ys _ hv' hn').mono ?_
        rintro e w' ⟨rfl, rfl⟩
        go_wp2_with fail
        go_ret
        exact ⟨ret_bool (by simp [HT]), rfl⟩

set_option maxHeartbeats 400000 in
theorem sAbs (x : Int) (w : World) (h1 : -2000 ≤ x) (h2 : x ≤ 2000) :
    Calls Try.prog 47 #[.int .i64 x] w fun e w' => e = .returned (.int .i64 (absV x)) ∧ w' = w := by
  by_cases h : x < 0
  · go_enter Try.func47, Try.ntmps47
    go_wp2
    go_ret
    exact ⟨ret_int (by unfold absV; omega), rfl⟩
  · go_enter Try.func47, Try.ntmps47
    go_wp2
    go_ret
    exact ⟨ret_int (by unfold absV; omega), rfl⟩

set_option maxHeartbeats 400000 in
theorem sMax (x y : Int) (w : World) :
    Calls Try.prog 45 #[.int .i64 x, .int .i64 y] w fun e w' => e = .returned (.int .i64 (maxV x y)) ∧ w' = w := by
  by_cases h : y < x
  · go_enter Try.func45, Try.ntmps45
    go_wp2
    go_ret
    exact ⟨ret_int (by unfold maxV; omega), rfl⟩
  · go_enter Try.func45, Try.ntmps45
    go_wp2
    go_ret
    exact ⟨ret_int (by unfold maxV; omega), rfl⟩

set_option maxHeartbeats 400000 in
theorem sSteps (ao ao' : Option Addr) (cap cap' : Nat) (xs ys : List Int) (w : World) (hv : View w ao xs) (hv' : View w ao' ys) (hn : xs.length ≤ 1048576) (hn' : ys.length ≤ 1048576) :
    Calls Try.prog 51 #[.slice ao xs.length cap, .slice ao' ys.length cap'] w fun e w' => e = .returned (.int .i64 (stepsV xs ys)) ∧ ∃ n, w' = w.drewN n := by
  rcases ht : twoB xs ys with _ | _
  · have HV : stepsV xs ys = -1 := by simp [stepsV, ht]
    go_enter Try.func51, Try.ntmps51
    go_wp2_with fail
    refine (sTwo ao ao' cap cap' xs ys _ hv hv' hn hn').mono ?_
    rintro e w' ⟨rfl, rfl⟩
    go_wp2_with fail
    go_ret
    exact ⟨ret_int HV.symm, 0, rfl⟩
  · obtain ⟨ha, hb, hl⟩ := twoB_of ht
    have h4 := okB_len ha
    have HV : Hid (stepsV xs ys = sumTo (gapF xs ys) xs.length) := by show stepsV xs ys = _; simp [stepsV, ht]
    obtain ⟨b, off, rfl, hbs, hs⟩ : ∃ b off, ao = some ⟨b, off, none⟩ ∧ b < w.heap.size ∧ Seg w b off xs := by
      rcases hv with rfl | h
      · simp at h4
      · exact h
    obtain ⟨b', off', rfl, hbs', hs'⟩ : ∃ b off, ao' = some ⟨b, off, none⟩ ∧ b < w.heap.size ∧ Seg w b off ys := by
      rcases hv' with rfl | h
      · simp at hl; rw [hl] at h4; simp at h4
      · exact h
    have HL : Hid (xs.length = ys.length) := hl
    clear hl
    go_enter Try.func51, Try.ntmps51
    go_wp2_with fail
    refine (sTwo _ _ cap cap' xs ys _ (Or.inr ⟨b, off, rfl, hbs, hs⟩) (Or.inr ⟨b', off', rfl, hbs', hs'⟩) hn hn').mono ?_
    rintro e w' ⟨rfl, rfl⟩
    go_wp2_with fail
    go_loopw [5, 6] (fun s i wr => ∃ k : Nat, k ≤ xs.length ∧ i = .int .i64 k ∧ s = .int .i64 (sumTo (gapF xs ys) k) ∧ ∃ n, wr = w'.drewN n) (fun _ i _ => xs.length - (intOf i).toNat)
    case atStart => exact ⟨0, Nat.zero_le _, rfl, rfl, 0, rfl⟩
    case round =>
      obtain ⟨k, hk, rfl, rfl, hw⟩ := hrel
      have HW : Hid (∃ n, wr = w'.drewN n) := hw
      clear hw
      by_cases hlt : k < xs.length
      · have hc : wr.cell? ⟨b, off + k, none⟩ = some (.int .i64 (nth xs k)) := by obtain ⟨n, rfl⟩ := HW.out; exact hs k hlt
        have hlt' : k < ys.length := by have := HL.out; omega
        have hc' : wr.cell? ⟨b', off' + k, none⟩ = some (.int .i64 (nth ys k)) := by obtain ⟨n, rfl⟩ := HW.out; exact hs' k hlt'
        have hx := okB_at ha k
        have hy := okB_at hb k
        have hg := gapF_bd ha hb k
        have hsum := sumTo_le (gapF xs ys) 0 2000 (gapF_bd ha hb) k
        have HN : Hid (sumTo (gapF xs ys) (k + 1) = sumTo (gapF xs ys) k + absV (nth xs k - nth ys k)) := by show sumTo (gapF xs ys) k + gapF xs ys k = _; rw [gapF_abs]
        rw [gapF_abs] at hg
        have hwr : IntKind.i64.wrap (nth xs k - nth ys k) = nth xs k - nth ys k := IntWalk.i64_in _ ⟨by omega, by omega⟩
        go_wp2
        go_quiet ((go_at_call 47; exact Calls.quiet_of_same (sAbs _ _ (by omega) (by omega))))
        go_wp2
        go_roundw
        case rel => exact ⟨k + 1, by omega, by go_num, by rw [HN.out], by obtain ⟨n, hn⟩ := HW.out; exact ⟨n + nq, by rw [hn]; simp⟩⟩
        case measure => simp [intOf]; omega
      · go_wp2
        go_ret
        obtain rfl : k = xs.length := by omega
        exact ⟨ret_int HV.out.symm, HW.out⟩

end Go.Proofs.Ythkaiienfkihmaa
