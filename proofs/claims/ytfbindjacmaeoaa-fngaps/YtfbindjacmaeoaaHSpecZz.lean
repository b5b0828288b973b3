/-
  The given order of hits, the least of two, is a number there, HitsOk.
-/
import Derived.Test.YtfbindjacmaeoaaHCellsZz
import Derived.Test.YtfbindjacmaeoaaMCopyZz
import Derived.Deep.RegionHeld3
namespace Go.Proofs.Ytfbindjacmaeoaa
open Go Go.RowKit

theorem ahead_lt {a b : Ht} (h : a.2 < b.2) : aheadB a b = true := by rw [aheadB_iff]; omega
theorem ahead_id {a b : Ht} (h : a.2 = b.2) (h' : a.1 < b.1) : aheadB a b = true := by rw [aheadB_iff]; omega
theorem ahead_far {a b : Ht} (h : ¬ a.2 < b.2) (h' : ¬ a.2 = b.2) : aheadB a b = false := by rw [aheadB_false]; unfold leH; omega
theorem ahead_no {a b : Ht} (h : a.2 = b.2) (h' : ¬ a.1 < b.1) : aheadB a b = false := by rw [aheadB_false]; unfold leH; omega

set_option maxHeartbeats 400000 in
theorem sMin (x y : Int) (w : World) :
    Calls Try.prog 95 #[.int .i64 x, .int .i64 y] w fun e w' => e = .returned (.int .i64 (min x y)) ∧ w' = w := by
  by_cases h : x < y
  · have HV : Hid (min x y = x) := by show min x y = x; omega
    go_enter Try.func95, Try.ntmps95
    go_wp2
    go_ret
    exact ⟨ret_int HV.out.symm, rfl⟩
  · have HV : Hid (min x y = y) := by show min x y = y; omega
    go_enter Try.func95, Try.ntmps95
    go_wp2
    go_ret
    exact ⟨ret_int HV.out.symm, rfl⟩

theorem contains_nth {xs : List Int} {k : Nat} {x : Int} (hk : k < xs.length) (h : nth xs k = x) : hasB xs x = true := by
  simp only [hasB, List.contains_iff_mem]
  have e : nth xs k = xs[k] := by simp [nth, List.getD, hk]
  rw [← h, e]
  exact List.getElem_mem hk
theorem contains_none {xs : List Int} {x : Int} (h : ∀ j, j < xs.length → nth xs j ≠ x) : hasB xs x = false := by
  rcases hb : hasB xs x with _ | _
  · rfl
  · simp only [hasB, List.contains_iff_mem] at hb
    obtain ⟨i, hi, e⟩ := List.getElem_of_mem hb
    exact absurd (by rw [← e]; simp [nth, List.getD, hi]) (h i hi)

theorem hitOkAt_iff (hs : List Ht) (i : Nat) : hitOkAt hs i = true ↔ 1 ≤ (hnth hs i).1 ∧ 0 ≤ (hnth hs i).2 ∧ (i = 0 ∨ aheadB (hnth hs (i - 1)) (hnth hs i) = true) := by
  simp [hitOkAt, and_assoc]
theorem hitOkAt_false (hs : List Ht) (i : Nat) (h : ¬ (1 ≤ (hnth hs i).1 ∧ 0 ≤ (hnth hs i).2 ∧ (i = 0 ∨ aheadB (hnth hs (i - 1)) (hnth hs i) = true))) : hitOkAt hs i = false := by
  rcases hb : hitOkAt hs i with _ | _
  · rfl
  · exact absurd ((hitOkAt_iff hs i).1 hb) h

end Go.Proofs.Ytfbindjacmaeoaa
