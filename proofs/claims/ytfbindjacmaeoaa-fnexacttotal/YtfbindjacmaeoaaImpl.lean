/-
  The program's own Far, Dot, Steps, Reach and Moved: each answers as its plain function, and writes nothing that was there.
-/
import Derived.Test.YtfbindjacmaeoaaEach
namespace Go.Proofs.Ytfbindjacmaeoaa
open Go Go.RowKit

theorem sum_tab (g : Nat → Int) (n : Nat) : sumTo (nth (tabL g n)) (tabL g n).length = sumTo g n := by
  rw [tabL_length]; exact sumTo_congr _ _ _ (fun i hi => tabL_getD g n i hi)
theorem max_tab (g : Nat → Int) (n : Nat) : maxTo (nth (tabL g n)) (tabL g n).length = maxTo g n := by
  rw [tabL_length]; exact maxTo_congr _ _ _ (fun i hi => tabL_getD g n i hi)
theorem tab_bd (g : Nat → Int) (n : Nat) (lo hi : Int) (h0 : lo ≤ 0) (h1 : 0 ≤ hi) (h : ∀ i, lo ≤ g i ∧ g i ≤ hi) (i : Nat) : lo ≤ nth (tabL g n) i ∧ nth (tabL g n) i ≤ hi := by
  by_cases hi : i < n
  · rw [tabL_getD g n i hi]; exact h i
  · have : nth (tabL g n) i = 0 := by simp [nth, tabL, List.getD, hi]
    rw [this]; exact ⟨h0, h1⟩

set_option maxHeartbeats 400000 in
theorem pMax (b off cap : Nat) (xs : List Int) (w : World) (hs : Seg w b off xs) (h1 : 1 ≤ xs.length) (hn : xs.length ≤ 4) (hbd : ∀ i, 0 ≤ nth xs i ∧ nth xs i ≤ 2000) :
    Calls Try.prog 106 #[.slice (some ⟨b, off, none⟩) xs.length cap] w fun e w' => e = .returned (.int .i64 (maxTo (nth xs) xs.length)) ∧ w' = w := by
  have HB : Hid (∀ i, 0 ≤ nth xs i ∧ nth xs i ≤ 2000) := hbd
  clear hbd
  have hc0 := hs 0 (by omega)
  rw [Nat.add_zero] at hc0
  go_enter Try.func106, Try.ntmps106
  go_wp2
  clear hc0
  go_loop [3, 4] (fun m i => ∃ k : Nat, 1 ≤ k ∧ k ≤ xs.length ∧ i = .int .i64 k ∧ m = .int .i64 (maxTo (nth xs) k)) (fun _ i => xs.length - (intOf i).toNat)
  case atStart =>
    refine ⟨1, Nat.le_refl _, h1, rfl, ?_⟩
    have := HB.out 0
    have e : maxTo (nth xs) 1 = nth xs 0 := by simp only [maxTo]; omega
    rw [e]
  case round =>
    obtain ⟨k, hk1, hk, rfl, rfl⟩ := hrel
    by_cases hlt : k < xs.length
    · have hc := hs k hlt
      have HN : Hid (maxTo (nth xs) (k + 1) = max (maxTo (nth xs) k) (nth xs k)) := rfl
      go_wp2
      all_goals
        go_round
        case rel => exact ⟨k + 1, by omega, by omega, by go_num, by rw [HN.out]; congr 1; omega⟩
        case measure => simp [intOf]; omega
    · go_wp2
      go_ret
      obtain rfl : k = xs.length := by omega
      exact ⟨rfl, rfl⟩

end Go.Proofs.Ytfbindjacmaeoaa
