/-
  The program's own Far, Dot, Steps, Reach and Moved: each answers as its plain function, and writes nothing that was there.
-/
import Derived.Test.YthcjkneifkmkdaaEach
namespace Go.Proofs.Ythcjkneifkmkdaa
open Go Go.RowKit

theorem sum_tab (g : Nat → Int) (n : Nat) : sumTo (nth (tabL g n)) (tabL g n).length = sumTo g n := by
  rw [tabL_length]; exact sumTo_congr _ _ _ (fun i hi => tabL_getD g n i hi)
theorem max_tab (g : Nat → Int) (n : Nat) : maxTo (nth (tabL g n)) (tabL g n).length = maxTo g n := by
  rw [tabL_length]; exact maxTo_congr _ _ _ (fun i hi => tabL_getD g n i hi)
theorem tab_bd (g : Nat → Int) (n : Nat) (lo hi : Int) (h0 : lo ≤ 0) (h1 : 0 ≤ hi) (h : ∀ i, lo ≤ g i ∧ g i ≤ hi) (i : Nat) : lo ≤ nth (tabL g n) i ∧ nth (tabL g n) i ≤ hi := by
  by_cases hi : i < n
  · rw [tabL_getD g n i hi]; exact h i
  · have : nth (tabL g n) i = 0 := by simp [nth, tabL, List.getD, hi]
    rw [this]; exact ⟨h0, h1⟩

set_option maxHeartbeats 400000 in
theorem pFar (b off cap b' off' cap' : Nat) (xs ys : List Int) (w : World) (hs : Seg w b off xs) (hs' : Seg w b' off' ys) (hb : b < w.heap.size) (hb' : b' < w.heap.size) (ht : twoB xs ys = true) :
    Calls Try.prog 56 #[.slice (some ⟨b, off, none⟩) xs.length cap, .slice (some ⟨b', off', none⟩) ys.length cap'] w fun e w' => e = .returned (.int .i64 (sumTo (sqF xs ys) xs.length)) ∧ Below w.heap.size w w' := by
  obtain ⟨ha, hbo, hl⟩ := twoB_of ht
  have h4 := okB_len hbo
  have HR : Hid (sumTo (nth (tabL (sqF xs ys) ys.length)) (tabL (sqF xs ys) ys.length).length = sumTo (sqF xs ys) xs.length) := by
    show _ = _
    rw [sum_tab, hl]
  have HL : Hid (xs.length = ys.length) := hl
  have HZ : Hid ((tabL (sqF xs ys) ys.length).length = ys.length) := tabL_length _ _
  clear hl
  go_enter Try.func56, Try.ntmps56
  go_wp2_with fail
  refine (pEachSquare (sqF xs ys) b off cap b' off' cap' xs.length xs ys _ hs hs' hb hb' h4.2 (fun W k hk hS => ?_)).mono ?_
  · have hx := okB_at ha k
    have hy := okB_at hbo k
    exact pSquare b off cap k (nth ys k) xs W hS (by rw [HL.out]; exact hk) hx.1 hx.2 hy.1 hy.2
  rintro e w1 ⟨rfl, o1, L1⟩
  go_wp2_with fail
  have hend := pTotal w.heap.size 0 ys.length (tabL (sqF xs ys) ys.length) w1 o1.seg (by rw [HZ.out]; exact h4.2) (tab_bd _ _ (-4000000) 4000000 (by omega) (by omega) (fun i => by have := sqF_bd ha hbo i; omega))
  rw [HZ.out, ← HL.out] at hend
  rw [← HL.out]
  refine hend.mono ?_
  rintro e w2 ⟨rfl, rfl⟩
  go_wp2_with fail
  go_ret
  exact ⟨ret_int (by have := HR.out; rwa [HZ.out, ← HL.out] at this), L1⟩

end Go.Proofs.Ythcjkneifkmkdaa
