/-
  The program's own point: pairs, each with a method value, total, and what is measured by them.
-/
import Derived.Test.YthkaiienfkihmaaSpec
namespace Go.Proofs.Ythkaiienfkihmaa
open Go Go.RowKit

set_option maxHeartbeats 400000 in
theorem pPairs (ao ao' : Option Addr) (cap cap' : Nat) (xs ys : List Int) (w : World) (hv : View w ao xs) (hv' : View w ao' ys) (hn : xs.length ≤ 1048576) (hn' : ys.length ≤ 1048576) :
    Calls Try.prog 64 #[.slice ao xs.length cap, .slice ao' ys.length cap'] w fun e w' => e = .returned (.bool (twoB xs ys)) ∧ w' = w := by
  by_cases hl : xs.length = ys.length
  · have hlb : ((xs.length : Int) == (ys.length : Int)) = true := by simp [hl]
    rcases ha : okB xs with _ | _
    · have HT := twoB_left (b := ys) ha
      clear hl
      go_enter Try.func64, Try.ntmps64
      go_wp2_with (go_at_call 60; refine (pOk ao cap xs _ hv hn).mono ?_; rintro e w' ⟨rfl, rfl⟩)
      go_ret
      exact ⟨ret_bool (by simp [HT]), rfl⟩
    · rcases hb : okB ys with _ | _
      · have HT := twoB_right (a := xs) hb
        clear hl
        go_enter Try.func64, Try.ntmps64
        go_wp2_with fail
        refine (pOk ao cap xs _ hv hn).mono ?_
        rintro e w' ⟨rfl, rfl⟩
        go_wp2_with fail
        refine (pOk ao' cap' ys _ hv' hn').mono ?_
        rintro e w' ⟨rfl, rfl⟩
        go_wp2_with fail
        go_ret
        exact ⟨ret_bool (by simp [HT]), rfl⟩
      · have HT := twoB_true ha hb hl
        clear hl
        go_enter Try.func64, Try.ntmps64
        go_wp2_with fail
        refine (pOk ao cap xs _ hv hn).mono ?_
        rintro e w' ⟨rfl, rfl⟩
        go_wp2_with fail
        refine (pOk ao' cap' ys _ hv' hn').mono ?_
        rintro e w' ⟨rfl, rfl⟩
        go_wp2_with fail
        go_ret
        exact ⟨ret_bool (by simp [HT]), rfl⟩
  · have HT := twoB_len hl
    have hlb : ((xs.length : Int) == (ys.length : Int)) = false := by simp; omega
    clear hl
    go_enter Try.func64, Try.ntmps64
    go_wp2_with fail
    go_ret
    exact ⟨ret_bool (by simp [HT]), rfl⟩

set_option maxHeartbeats 400000 in
theorem pTotal (b off cap : Nat) (xs : List Int) (w : World) (hs : Seg w b off xs) (hn : xs.length ≤ 4) (hbd : ∀ i, -4000000 ≤ nth xs i ∧ nth xs i ≤ 4000000) :
    Calls Try.prog 66 #[.slice (some ⟨b, off, none⟩) xs.length cap] w fun e w' => e = .returned (.int .i64 (sumTo (nth xs) xs.length)) ∧ w' = w := by
  have HB : Hid (∀ i, -4000000 ≤ nth xs i ∧ nth xs i ≤ 4000000) := hbd
  clear hbd
  go_enter Try.func66, Try.ntmps66
  go_wp2
  go_loop [3, 8] (fun s i => ∃ k : Nat, k ≤ xs.length ∧ i = .int .i64 k ∧ s = .int .i64 (sumTo (nth xs) k)) (fun _ i => xs.length - (intOf i).toNat)
  case atStart => exact ⟨0, Nat.zero_le _, rfl, rfl⟩
  case round =>
    obtain ⟨k, hk, rfl, rfl⟩ := hrel
    by_cases hlt : k < xs.length
    · have hc := hs k hlt
      have hx := HB.out k
      have hsum := sumTo_le (nth xs) (-4000000) 4000000 HB.out k
      have HN : Hid (sumTo (nth xs) (k + 1) = sumTo (nth xs) k + nth xs k) := rfl
      go_wp2
      go_round
      case rel => exact ⟨k + 1, by omega, by go_num, by rw [HN.out]⟩
      case measure => simp [intOf]; omega
    · go_wp2
      go_ret
      obtain rfl : k = xs.length := by omega
      exact ⟨rfl, rfl⟩

set_option maxHeartbeats 400000 in
theorem pGap (b off cap k : Nat) (x : Int) (xs : List Int) (w : World) (hs : Seg w b off xs) (hk : k < xs.length) (h1 : -1000 ≤ nth xs k) (h2 : nth xs k ≤ 1000) (h3 : -1000 ≤ x) (h4 : x ≤ 1000) :
    Calls Try.prog 65 #[.slice (some ⟨b, off, none⟩) xs.length cap, .int .i64 k, .int .i64 x] w fun e w' => e = .returned (.int .i64 (max (nth xs k - x) (x - nth xs k))) ∧ ∃ n, w' = w.drewN n := by
  have hc := hs k hk
  go_enter Try.func65, Try.ntmps65
  go_wp2
  go_quiet (fail)
  go_wp2
  all_goals
    go_ret
    exact ⟨ret_int (by omega), _, rfl⟩

set_option maxHeartbeats 400000 in
theorem pEachGap (g : Nat → Int) (b off cap b' off' cap' n : Nat) (xs ys : List Int) (w : World) (hs : Seg w b off xs) (hs' : Seg w b' off' ys) (hb : b < w.heap.size) (hb' : b' < w.heap.size) (hn : ys.length ≤ 4)
    (hcall : ∀ (W : World) (k : Nat), k < ys.length → Seg W b off xs → Calls Try.prog 65 #[.slice (some ⟨b, off, none⟩) n cap, .int .i64 k, .int .i64 (nth ys k)] W fun e w' => e = .returned (.int .i64 (g k)) ∧ ∃ m, w' = W.drewN m) :
    Calls Try.prog 39 #[.slice (some ⟨b', off', none⟩) ys.length cap', .func (Fn.func 65) #[.slice (some ⟨b, off, none⟩) n cap] #[]] w fun e w' =>
      e = .returned (.slice (some ⟨w.heap.size, 0, none⟩) ys.length ys.length) ∧ Own w' w.heap.size (tabL g ys.length) ∧ Below w.heap.size w w' := by
  have hmk := run_make_row' (P := Try.prog) 50 2 (.int .i64 0) 8 Try.underlying50 Try.info2 rfl .i64 .i64 ys.length (by omega) (by omega)
  have HH : Hid (∀ (W : World) (k : Nat), k < ys.length → Seg W b off xs → Calls Try.prog 65 #[.slice (some ⟨b, off, none⟩) n cap, .int .i64 k, .int .i64 (nth ys k)] W fun e w' => e = .returned (.int .i64 (g k)) ∧ ∃ m, w' = W.drewN m) := hcall
  clear hcall
  go_enter Try.func39, Try.ntmps39
  go_wp2
  clear hmk
  go_loopw [13] (fun i wr => ∃ k : Nat, k ≤ ys.length ∧ i = .int .i64 k ∧ ∃ m, wr = (w.alloc (.cells (filled g ys.length k) 2)).drewN m) (fun i _ => ys.length - (intOf i).toNat)
  case atStart => exact ⟨0, Nat.zero_le _, rfl, 0, by rw [filled_zero]; rfl⟩
  case round =>
    obtain ⟨k, hk, rfl, m, rfl⟩ := hrel
    by_cases hlt : k < ys.length
    · have hc := hs' k hlt
      have hnext := filled_next g ys.length k hlt
      go_wp2_with fail
      refine (HH.out _ k hlt ((hs.alloc hb _).drewN m)).mono ?_
      rintro e w1 ⟨rfl, m1, rfl⟩
      go_wp2
      go_roundw
      case rel => exact ⟨k + 1, by omega, by go_num, m + m1, by rw [← filled_set g ys.length k hlt, set_new]⟩
      case measure => simp [intOf]; omega
    · go_wp2
      go_ret
      obtain rfl : k = ys.length := by omega
      refine ⟨rfl, ?_, ?_⟩
      · rw [filled_all]; exact (Own.new w _).drewN m
      · exact below_drewN ((Below.refl _ _).alloc (Nat.le_refl _) _) m

end Go.Proofs.Ythkaiienfkihmaa
