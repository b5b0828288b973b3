/-
  The laws' own helpers over rows of numbers: toInt64S (a copy), eqInt64S (are two alike).
  What is a point: the given PointOk and the program's own, each answers okB.
  The given Far, Dot, Steps and Reach: each answers as its plain function.
  The program's own point: pairs, each with a method value, total, and what is measured by them.
  The program's own Far, Dot, Steps, Reach and Moved: each answers as its plain function, and writes nothing that was there.
  The given l1Same.
-/
import Derived.Test.YtbmljcpeonopmaaProg
import Derived.WalkKit
import Derived.WalkSpells
import Derived.WalkLawsBesides
import Derived.Deep.OwnRows
import Derived.Deep.QuietTactic
import Derived.BigQuiet
import Derived.Test.YtbmljcpeonopmaaCellsZz
namespace Go.Proofs.Ytbmljcpeonopmaa
open Go Go.RowKit

theorem Try.info2 : (Try.prog.info? 2).map (fun i => (i.zero, i.size, i.bytes)) = some (some (.int .i64 0), 1, 8) := by kernel_rfl

set_option maxHeartbeats 400000 in
theorem toS_seg (b off cap : Nat) (xs : List Int) (w : World) (hs : Seg w b off xs) (hb : b < w.heap.size) (hn : xs.length ≤ 1048576) :
    Calls Try.prog 48 #[.slice (some ⟨b, off, none⟩) xs.length cap] w fun e w' => e = .returned (.slice (some ⟨w.heap.size, 0, none⟩) xs.length xs.length) ∧ w' = w.alloc (.cells (rowC xs) 2) := by
  have hmk := run_make_row' (P := Try.prog) 41 2 (.int .i64 0) 8 Try.underlying41 Try.info2 rfl .i64 .i64 xs.length (by omega) (by omega)
  go_enter Try.func48, Try.ntmps48
  go_wp2
  clear hmk
  go_loopw [4] (fun i wr => ∃ k : Nat, k ≤ xs.length ∧ i = .int .i64 k ∧ wr = w.alloc (.cells (filled (nth xs) xs.length k) 2)) (fun i _ => xs.length - (intOf i).toNat)
  case atStart => exact ⟨0, Nat.zero_le _, rfl, by rw [filled_zero]⟩
  case round =>
    obtain ⟨k, hk, rfl, rfl⟩ := hrel
    by_cases hlt : k < xs.length
    · have hc := hs k hlt
      have hnext := filled_next (nth xs) xs.length k hlt
      go_wp2
      go_roundw
      case rel => exact ⟨k + 1, by omega, by go_num, by rw [← filled_set (nth xs) xs.length k hlt]⟩
      case measure => simp [intOf]; omega
    · go_wp2
      go_ret
      obtain rfl : k = xs.length := by omega
      exact ⟨rfl, by rw [filled_all, tabL_list]⟩

set_option maxHeartbeats 400000 in
theorem toS_nil (ao : Option Addr) (cap : Nat) (w : World) :
    Calls Try.prog 48 #[.slice ao 0 cap] w fun e w' => e = .returned (.slice (some ⟨w.heap.size, 0, none⟩) 0 0) ∧ w' = w.alloc (.cells (rowC []) 2) := by
  have hmk : ∀ w, (Instr.makeSlice 41 (.int .i64 0) (.int .i64 0)).run Try.prog w = .ok (.slice (some ⟨w.heap.size, 0, none⟩) 0 0) (w.alloc (.cells #[] 2)) := fun _ => by kernel_rfl
  go_enter Try.func48, Try.ntmps48
  go_wp2
  clear hmk
  refine wp_loop_rounds 1 ?_
  rw [rounds_succ]
  go_wp2
  go_ret
  exact ⟨rfl, rfl⟩

/-- toInt64S: a new row that reads as what was given. -/
theorem toS (ao : Option Addr) (cap : Nat) (xs : List Int) (w : World) (hv : View w ao xs) (hn : xs.length ≤ 1048576) :
    Calls Try.prog 48 #[.slice ao xs.length cap] w fun e w' => ∃ b, e = .returned (.slice (some ⟨b, 0, none⟩) xs.length xs.length) ∧ Own w' b xs ∧ w.heap.size ≤ b ∧ Below w.heap.size w w' := by
  rcases hv with rfl | ⟨b, off, rfl, hb, hs⟩
  · refine (toS_nil ao cap w).mono ?_
    rintro e w' ⟨rfl, rfl⟩
    exact ⟨_, rfl, Own.new w [], Nat.le_refl _, (Below.refl _ _).alloc (Nat.le_refl _) _⟩
  · refine (toS_seg b off cap xs w hs hb hn).mono ?_
    rintro e w' ⟨rfl, rfl⟩
    exact ⟨_, rfl, Own.new w xs, Nat.le_refl _, (Below.refl _ _).alloc (Nat.le_refl _) _⟩

set_option maxHeartbeats 400000 in
theorem eqS_ne (ao ao' : Option Addr) (n n' cap cap' : Nat) (w : World) (h : n ≠ n') :
    Calls Try.prog 51 #[.slice ao n cap, .slice ao' n' cap'] w fun e w' => e = .returned (.bool false) ∧ w' = w := by
  have hlb : ((n : Int) != (n' : Int)) = true := by simp; omega
  go_enter Try.func51, Try.ntmps51
  go_wp2
  go_ret
  exact ⟨rfl, rfl⟩

set_option maxHeartbeats 400000 in
theorem eqS_nil (ao ao' : Option Addr) (cap cap' : Nat) (w : World) :
    Calls Try.prog 51 #[.slice ao 0 cap, .slice ao' 0 cap'] w fun e w' => e = .returned (.bool true) ∧ w' = w := by
  go_enter Try.func51, Try.ntmps51
  go_wp2
  refine wp_loop_rounds 1 ?_
  rw [rounds_succ]
  go_wp2
  go_ret
  exact ⟨rfl, rfl⟩

theorem ret_bool {a b : Bool} (h : a = b) : Ending.returned (.bool a) = .returned (.bool b) := by rw [h]

set_option maxHeartbeats 400000 in
theorem eqS_seg (b off cap b' off' cap' : Nat) (xs ys : List Int) (w : World) (hs : Seg w b off xs) (hs' : Seg w b' off' ys) (hn : xs.length ≤ 1048576) (hl : xs.length = ys.length) :
    Calls Try.prog 51 #[.slice (some ⟨b, off, none⟩) xs.length cap, .slice (some ⟨b', off', none⟩) ys.length cap'] w fun e w' => e = .returned (.bool (decide (xs = ys))) ∧ ∃ n, w' = w.drewN n := by
  have hlb : ((xs.length : Int) != (ys.length : Int)) = false := by simp [hl]
  have HL : Hid (xs.length = ys.length) := hl
  have hn' : ys.length ≤ 1048576 := by omega
  clear hl
  go_enter Try.func51, Try.ntmps51
  go_wp2
  go_loopw [5] (fun i wr => ∃ k : Nat, k ≤ xs.length ∧ i = .int .i64 k ∧ (∀ j, j < k → nth xs j = nth ys j) ∧ ∃ n, wr = w.drewN n) (fun i _ => xs.length - (intOf i).toNat)
  case atStart => exact ⟨0, Nat.zero_le _, rfl, fun j hj => by omega, 0, rfl⟩
  case round =>
    obtain ⟨k, hk, rfl, hall, n, rfl⟩ := hrel
    have HA : Hid (∀ j, j < k → nth xs j = nth ys j) := hall
    clear hall
    by_cases hlt : k < xs.length
    · have hc := hs k hlt
      have hlt' : k < ys.length := by have := HL.out; omega
      have hc' := hs' k hlt'
      by_cases he : nth xs k = nth ys k
      · have heb : (nth xs k != nth ys k) = false := by simp [he]
        have HE : Hid (nth xs k = nth ys k) := he
        clear he
        go_wp2
        go_quiet (fail)
        go_wp2
        go_roundw
        case rel => exact ⟨k + 1, by omega, by go_num, fun j hj => by
          rcases Nat.lt_or_ge j k with h | h
          · exact HA.out j h
          · rw [show j = k by omega]; exact HE.out, _, rfl⟩
        case measure => simp [intOf]; omega
      · have heb : (nth xs k != nth ys k) = true := by simp [he]
        have HE : Hid (¬ nth xs k = nth ys k) := he
        clear he
        go_wp2
        go_quiet (fail)
        go_wp2
        go_ret
        exact ⟨ret_bool (Eq.symm (decide_eq_false (fun h => HE.out (by rw [h])))), n + nq, by simp⟩
    · go_wp2
      go_ret
      obtain rfl : k = xs.length := by omega
      exact ⟨ret_bool (Eq.symm (decide_eq_true (eq_of_nth HL.out HA.out))), _, rfl⟩

/-- eqInt64S: are two alike. -/
theorem eqS (ao ao' : Option Addr) (cap cap' : Nat) (xs ys : List Int) (w : World) (hv : View w ao xs) (hv' : View w ao' ys) (hn : xs.length ≤ 1048576) :
    Calls Try.prog 51 #[.slice ao xs.length cap, .slice ao' ys.length cap'] w fun e w' => e = .returned (.bool (decide (xs = ys))) ∧ ∃ n, w' = w.drewN n := by
  by_cases hl : xs.length = ys.length
  · rcases hv with rfl | ⟨b, off, rfl, _, hs⟩
    · obtain rfl : ys = [] := List.eq_nil_of_length_eq_zero (by simpa using hl.symm)
      refine (eqS_nil ao ao' cap cap' w).mono ?_
      rintro e w' ⟨rfl, rfl⟩
      exact ⟨rfl, 0, rfl⟩
    · rcases hv' with rfl | ⟨b', off', rfl, _, hs'⟩
      · obtain rfl : xs = [] := List.eq_nil_of_length_eq_zero (by simpa using hl)
        refine (eqS_nil _ ao' cap cap' w).mono ?_
        rintro e w' ⟨rfl, rfl⟩
        exact ⟨rfl, 0, rfl⟩
      · exact eqS_seg b off cap b' off' cap' xs ys w hs hs' hn hl
  · refine (eqS_ne ao ao' xs.length ys.length cap cap' w hl).mono ?_
    rintro e w' ⟨rfl, rfl⟩
    exact ⟨ret_bool (Eq.symm (decide_eq_false (fun h => hl (by rw [h])))), 0, rfl⟩
end Go.Proofs.Ytbmljcpeonopmaa
namespace Go.Proofs.Ytbmljcpeonopmaa
open Go Go.RowKit

set_option maxHeartbeats 400000 in
theorem sOk_bad (ao : Option Addr) (n cap : Nat) (w : World) (h : n < 1 ∨ 4 < n) (hn : n ≤ 1048576) :
    Calls Try.prog 47 #[.slice ao n cap] w fun e w' => e = .returned (.bool false) ∧ w' = w := by
  rcases h with h | h
  · go_enter Try.func47, Try.ntmps47
    go_wp2
    go_ret
    exact ⟨rfl, rfl⟩
  · have h1 : ¬ n < 1 := by omega
    go_enter Try.func47, Try.ntmps47
    go_wp2
    go_ret
    exact ⟨rfl, rfl⟩

set_option maxHeartbeats 400000 in
theorem sOk_seg (b off cap : Nat) (xs : List Int) (w : World) (hs : Seg w b off xs) (h1 : 1 ≤ xs.length) (h4 : xs.length ≤ 4) :
    Calls Try.prog 47 #[.slice (some ⟨b, off, none⟩) xs.length cap] w fun e w' => e = .returned (.bool (okB xs)) ∧ w' = w := by
  go_enter Try.func47, Try.ntmps47
  go_wp2
  go_loop [3] (fun i => ∃ k : Nat, k ≤ xs.length ∧ i = .int .i64 k ∧ ∀ j, j < k → -1000 ≤ nth xs j ∧ nth xs j ≤ 1000) (fun i => xs.length - (intOf i).toNat)
  case atStart => exact ⟨0, Nat.zero_le _, rfl, fun j hj => by omega⟩
  case round =>
    obtain ⟨k, hk, rfl, hall⟩ := hrel
    have HA : Hid (∀ j, j < k → -1000 ≤ nth xs j ∧ nth xs j ≤ 1000) := hall
    clear hall
    by_cases hlt : k < xs.length
    · have hc := hs k hlt
      by_cases ha : -1000 ≤ nth xs k
      · by_cases hb : nth xs k ≤ 1000
        · go_wp2
          go_round
          case rel => exact ⟨k + 1, by omega, by go_num, fun j hj => by
            rcases Nat.lt_or_ge j k with h | h
            · exact HA.out j h
            · rw [show j = k by omega]; exact ⟨ha, hb⟩⟩
          case measure => simp [intOf]; omega
        · go_wp2
          go_ret
          exact ⟨ret_bool (Eq.symm (okB_out k (by omega))), rfl⟩
      · go_wp2
        go_ret
        exact ⟨ret_bool (Eq.symm (okB_out k (by omega))), rfl⟩
    · go_wp2
      go_ret
      obtain rfl : k = xs.length := by omega
      exact ⟨ret_bool (Eq.symm (okB_mk h1 h4 HA.out)), rfl⟩

theorem sOk (ao : Option Addr) (cap : Nat) (xs : List Int) (w : World) (hv : View w ao xs) (hn : xs.length ≤ 1048576) :
    Calls Try.prog 47 #[.slice ao xs.length cap] w fun e w' => e = .returned (.bool (okB xs)) ∧ w' = w := by
  by_cases h : 1 ≤ xs.length ∧ xs.length ≤ 4
  · rcases hv with rfl | ⟨b, off, rfl, _, hs⟩
    · simp at h
    · exact sOk_seg b off cap xs w hs h.1 h.2
  · refine (sOk_bad ao xs.length cap w (by omega) hn).mono ?_
    rintro e w' ⟨rfl, rfl⟩
    refine ⟨ret_bool ?_, rfl⟩
    rcases Nat.lt_or_ge xs.length 1 with h1 | h1
    · exact (okB_short h1).symm
    · exact (okB_long (by omega)).symm

/-- As many numbers as a point has, each from lo to hi? -/
def keepB (lo hi : Int) (xs : List Int) : Bool := decide (1 ≤ xs.length) && decide (xs.length ≤ 4) && xs.all (fun x => decide (lo ≤ x) && decide (x ≤ hi))

theorem okB_keep (xs : List Int) : okB xs = keepB (-1000) 1000 xs := rfl

theorem keepB_len {lo hi : Int} {xs : List Int} (h : keepB lo hi xs = true) : 1 ≤ xs.length ∧ xs.length ≤ 4 := by
  simp [keepB] at h; omega

theorem keepB_at {lo hi : Int} {xs : List Int} (h : keepB lo hi xs = true) {i : Nat} (hi' : i < xs.length) : lo ≤ nth xs i ∧ nth xs i ≤ hi := by
  simp only [keepB, Bool.and_eq_true, List.all_eq_true, decide_eq_true_eq] at h
  have := h.2 xs[i] (List.getElem_mem hi')
  simpa [nth, List.getD, hi'] using this

theorem keepB_mk {lo hi : Int} {xs : List Int} (h1 : 1 ≤ xs.length) (h4 : xs.length ≤ 4) (h : ∀ i, i < xs.length → lo ≤ nth xs i ∧ nth xs i ≤ hi) : keepB lo hi xs = true := by
  simp only [keepB, Bool.and_eq_true, List.all_eq_true, decide_eq_true_eq]
  refine ⟨⟨h1, h4⟩, fun x hx => ?_⟩
  obtain ⟨i, hi, rfl⟩ := List.getElem_of_mem hx
  have := h i hi
  simpa [nth, List.getD, hi] using this

theorem keepB_short {lo hi : Int} {xs : List Int} (h : xs.length < 1) : keepB lo hi xs = false := by simp [keepB]; omega
theorem keepB_long {lo hi : Int} {xs : List Int} (h : 4 < xs.length) : keepB lo hi xs = false := by simp [keepB]; omega
theorem keepB_out {lo hi : Int} {xs : List Int} (i : Nat) (hl : i < xs.length) (h : nth xs i < lo ∨ hi < nth xs i) : keepB lo hi xs = false := by
  rcases hb : keepB lo hi xs with _ | _
  · rfl
  · have := keepB_at hb hl; omega

set_option maxHeartbeats 400000 in
theorem pKeeps_bad (lo hi : Int) (ao : Option Addr) (n cap : Nat) (w : World) (h : n < 1 ∨ 4 < n) (hn : n ≤ 1048576) :
    Calls Try.prog 121 #[.slice ao n cap, .int .i64 lo, .int .i64 hi] w fun e w' => e = .returned (.bool false) ∧ w' = w := by
  rcases h with h | h
  · go_enter Try.func121, Try.ntmps121
    go_wp2
    go_ret
    exact ⟨rfl, rfl⟩
  · have h1 : ¬ n < 1 := by omega
    go_enter Try.func121, Try.ntmps121
    go_wp2
    go_ret
    exact ⟨rfl, rfl⟩

set_option maxHeartbeats 400000 in
theorem pKeeps_seg (lo hi : Int) (b off cap : Nat) (xs : List Int) (w : World) (hs : Seg w b off xs) (h1 : 1 ≤ xs.length) (h4 : xs.length ≤ 4) :
    Calls Try.prog 121 #[.slice (some ⟨b, off, none⟩) xs.length cap, .int .i64 lo, .int .i64 hi] w fun e w' => e = .returned (.bool (keepB lo hi xs)) ∧ w' = w := by
  go_enter Try.func121, Try.ntmps121
  go_wp2
  go_loop [19] (fun i => ∃ k : Nat, k ≤ xs.length ∧ i = .int .i64 k ∧ ∀ j, j < k → lo ≤ nth xs j ∧ nth xs j ≤ hi) (fun i => xs.length - (intOf i).toNat)
  case atStart => exact ⟨0, Nat.zero_le _, rfl, fun j hj => by omega⟩
  case round =>
    obtain ⟨k, hk, rfl, hall⟩ := hrel
    have HA : Hid (∀ j, j < k → lo ≤ nth xs j ∧ nth xs j ≤ hi) := hall
    clear hall
    by_cases hlt : k < xs.length
    · have hc := hs k hlt
      by_cases ha : lo ≤ nth xs k
      · by_cases hb : nth xs k ≤ hi
        · go_wp2
          go_round
          case rel => exact ⟨k + 1, by omega, by go_num, fun j hj => by
            rcases Nat.lt_or_ge j k with h | h
            · exact HA.out j h
            · rw [show j = k by omega]; exact ⟨ha, hb⟩⟩
          case measure => simp [intOf]; omega
        · go_wp2
          go_ret
          exact ⟨ret_bool (Eq.symm (keepB_out k hlt (by omega))), rfl⟩
      · go_wp2
        go_ret
        exact ⟨ret_bool (Eq.symm (keepB_out k hlt (by omega))), rfl⟩
    · go_wp2
      go_ret
      obtain rfl : k = xs.length := by omega
      exact ⟨ret_bool (Eq.symm (keepB_mk h1 h4 HA.out)), rfl⟩

theorem pKeeps (lo hi : Int) (ao : Option Addr) (cap : Nat) (xs : List Int) (w : World) (hv : View w ao xs) (hn : xs.length ≤ 1048576) :
    Calls Try.prog 121 #[.slice ao xs.length cap, .int .i64 lo, .int .i64 hi] w fun e w' => e = .returned (.bool (keepB lo hi xs)) ∧ w' = w := by
  by_cases h : 1 ≤ xs.length ∧ xs.length ≤ 4
  · rcases hv with rfl | ⟨b, off, rfl, _, hs⟩
    · simp at h
    · exact pKeeps_seg lo hi b off cap xs w hs h.1 h.2
  · refine (pKeeps_bad lo hi ao xs.length cap w (by omega) hn).mono ?_
    rintro e w' ⟨rfl, rfl⟩
    refine ⟨ret_bool ?_, rfl⟩
    rcases Nat.lt_or_ge xs.length 1 with h1 | h1
    · exact (keepB_short h1).symm
    · exact (keepB_long (by omega)).symm

set_option maxHeartbeats 400000 in
theorem pOk (ao : Option Addr) (cap : Nat) (xs : List Int) (w : World) (hv : View w ao xs) (hn : xs.length ≤ 1048576) :
    Calls Try.prog 116 #[.slice ao xs.length cap] w fun e w' => e = .returned (.bool (okB xs)) ∧ w' = w := by
  go_enter Try.func116, Try.ntmps116
  go_wp2_with (go_at_call 121; refine (pKeeps (-1000) 1000 ao cap xs _ hv hn).mono ?_; rintro e w' ⟨rfl, rfl⟩)
  go_ret
  exact ⟨rfl, rfl⟩

set_option maxHeartbeats 400000 in
theorem iOk (ao : Option Addr) (cap : Nat) (xs : List Int) (w : World) (hv : View w ao xs) (hn : xs.length ≤ 1048576) :
    Calls Try.prog 111 #[.slice ao xs.length cap] w fun e w' => e = .returned (.bool (okB xs)) ∧ w' = w := by
  go_enter Try.func111, Try.ntmps111
  go_wp2_with (go_at_call 116; refine (pOk ao cap xs _ hv hn).mono ?_; rintro e w' ⟨rfl, rfl⟩)
  go_ret
  exact ⟨rfl, rfl⟩
end Go.Proofs.Ytbmljcpeonopmaa
namespace Go.Proofs.Ytbmljcpeonopmaa
open Go Go.RowKit

theorem ret_int {a b : Int} (h : a = b) : Ending.returned (.int .i64 a) = .returned (.int .i64 b) := by rw [h]

end Go.Proofs.Ytbmljcpeonopmaa
namespace Go.Proofs.Ytbmljcpeonopmaa
open Go Go.RowKit

end Go.Proofs.Ytbmljcpeonopmaa
namespace Go.Proofs.Ytbmljcpeonopmaa
open Go Go.RowKit

theorem sum_tab (g : Nat → Int) (n : Nat) : sumTo (nth (tabL g n)) (tabL g n).length = sumTo g n := by
  rw [tabL_length]; exact sumTo_congr _ _ _ (fun i hi => tabL_getD g n i hi)
theorem max_tab (g : Nat → Int) (n : Nat) : maxTo (nth (tabL g n)) (tabL g n).length = maxTo g n := by
  rw [tabL_length]; exact maxTo_congr _ _ _ (fun i hi => tabL_getD g n i hi)
theorem tab_bd (g : Nat → Int) (n : Nat) (lo hi : Int) (h0 : lo ≤ 0) (h1 : 0 ≤ hi) (h : ∀ i, lo ≤ g i ∧ g i ≤ hi) (i : Nat) : lo ≤ nth (tabL g n) i ∧ nth (tabL g n) i ≤ hi := by
  by_cases hi : i < n
  · rw [tabL_getD g n i hi]; exact h i
  · have : nth (tabL g n) i = 0 := by simp [nth, tabL, List.getD, hi]
    rw [this]; exact ⟨h0, h1⟩

end Go.Proofs.Ytbmljcpeonopmaa
namespace Go.Proofs.Ytbmljcpeonopmaa
open Go Go.RowKit

set_option maxHeartbeats 400000 in
theorem gsameS_ne (ao ao' : Option Addr) (n n' cap cap' : Nat) (w : World) (h : n ≠ n') :
    Calls Try.prog 65 #[.slice ao n cap, .slice ao' n' cap'] w fun e w' => e = .returned (.bool false) ∧ w' = w := by
  have hlb : ((n : Int) != (n' : Int)) = true := by simp; omega
  go_enter Try.func65, Try.ntmps65
  go_wp2
  go_ret
  exact ⟨rfl, rfl⟩

set_option maxHeartbeats 400000 in
theorem gsameS_nil (ao ao' : Option Addr) (cap cap' : Nat) (w : World) :
    Calls Try.prog 65 #[.slice ao 0 cap, .slice ao' 0 cap'] w fun e w' => e = .returned (.bool true) ∧ w' = w := by
  go_enter Try.func65, Try.ntmps65
  go_wp2
  refine wp_loop_rounds 1 ?_
  rw [rounds_succ]
  go_wp2
  go_ret
  exact ⟨rfl, rfl⟩

set_option maxHeartbeats 400000 in
theorem gsameS_seg (b off cap b' off' cap' : Nat) (xs ys : List Int) (w : World) (hs : Seg w b off xs) (hs' : Seg w b' off' ys) (hn : xs.length ≤ 1048576) (hl : xs.length = ys.length) :
    Calls Try.prog 65 #[.slice (some ⟨b, off, none⟩) xs.length cap, .slice (some ⟨b', off', none⟩) ys.length cap'] w fun e w' => e = .returned (.bool (decide (xs = ys))) ∧ ∃ n, w' = w.drewN n := by
  have hlb : ((xs.length : Int) != (ys.length : Int)) = false := by simp [hl]
  have HL : Hid (xs.length = ys.length) := hl
  have hn' : ys.length ≤ 1048576 := by omega
  clear hl
  go_enter Try.func65, Try.ntmps65
  go_wp2
  go_loopw [5] (fun i wr => ∃ k : Nat, k ≤ xs.length ∧ i = .int .i64 k ∧ (∀ j, j < k → nth xs j = nth ys j) ∧ ∃ n, wr = w.drewN n) (fun i _ => xs.length - (intOf i).toNat)
  case atStart => exact ⟨0, Nat.zero_le _, rfl, fun j hj => by omega, 0, rfl⟩
  case round =>
    obtain ⟨k, hk, rfl, hall, n, rfl⟩ := hrel
    have HA : Hid (∀ j, j < k → nth xs j = nth ys j) := hall
    clear hall
    by_cases hlt : k < xs.length
    · have hc := hs k hlt
      have hlt' : k < ys.length := by have := HL.out; omega
      have hc' := hs' k hlt'
      by_cases he : nth xs k = nth ys k
      · have heb : (nth xs k != nth ys k) = false := by simp [he]
        have HE : Hid (nth xs k = nth ys k) := he
        clear he
        go_wp2
        go_quiet (fail)
        go_wp2
        go_roundw
        case rel => exact ⟨k + 1, by omega, by go_num, fun j hj => by
          rcases Nat.lt_or_ge j k with h | h
          · exact HA.out j h
          · rw [show j = k by omega]; exact HE.out, _, rfl⟩
        case measure => simp [intOf]; omega
      · have heb : (nth xs k != nth ys k) = true := by simp [he]
        have HE : Hid (¬ nth xs k = nth ys k) := he
        clear he
        go_wp2
        go_quiet (fail)
        go_wp2
        go_ret
        exact ⟨ret_bool (Eq.symm (decide_eq_false (fun h => HE.out (by rw [h])))), n + nq, by simp⟩
    · go_wp2
      go_ret
      obtain rfl : k = xs.length := by omega
      exact ⟨ret_bool (Eq.symm (decide_eq_true (eq_of_nth HL.out HA.out))), _, rfl⟩

/-- eqInt64S: are two alike. -/
theorem gsameS (ao ao' : Option Addr) (cap cap' : Nat) (xs ys : List Int) (w : World) (hv : View w ao xs) (hv' : View w ao' ys) (hn : xs.length ≤ 1048576) :
    Calls Try.prog 65 #[.slice ao xs.length cap, .slice ao' ys.length cap'] w fun e w' => e = .returned (.bool (decide (xs = ys))) ∧ ∃ n, w' = w.drewN n := by
  by_cases hl : xs.length = ys.length
  · rcases hv with rfl | ⟨b, off, rfl, _, hs⟩
    · obtain rfl : ys = [] := List.eq_nil_of_length_eq_zero (by simpa using hl.symm)
      refine (gsameS_nil ao ao' cap cap' w).mono ?_
      rintro e w' ⟨rfl, rfl⟩
      exact ⟨rfl, 0, rfl⟩
    · rcases hv' with rfl | ⟨b', off', rfl, _, hs'⟩
      · obtain rfl : xs = [] := List.eq_nil_of_length_eq_zero (by simpa using hl)
        refine (gsameS_nil _ ao' cap cap' w).mono ?_
        rintro e w' ⟨rfl, rfl⟩
        exact ⟨rfl, 0, rfl⟩
      · exact gsameS_seg b off cap b' off' cap' xs ys w hs hs' hn hl
  · refine (gsameS_ne ao ao' xs.length ys.length cap cap' w hl).mono ?_
    rintro e w' ⟨rfl, rfl⟩
    exact ⟨ret_bool (Eq.symm (decide_eq_false (fun h => hl (by rw [h])))), 0, rfl⟩

end Go.Proofs.Ytbmljcpeonopmaa
