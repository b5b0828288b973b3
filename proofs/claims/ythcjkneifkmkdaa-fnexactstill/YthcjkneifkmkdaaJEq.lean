/-
  The program's slices.Equal and slices.EqualFunc over rows of rows.
-/
import Derived.Test.YthcjkneifkmkdaaJRw
namespace Go.Proofs.Ythcjkneifkmkdaa
open Go Go.RowKit

set_option maxHeartbeats 400000 in
theorem jeqS_ne (ao ao' : Option Addr) (n n' cap cap' : Nat) (w : World) (h : n ≠ n') :
    Calls Try.prog 45 #[.slice ao n cap, .slice ao' n' cap'] w fun e w' => e = .returned (.bool false) ∧ w' = w := by
  have hlb : ((n : Int) != (n' : Int)) = true := by simp; omega
  go_enter Try.func45, Try.ntmps45
  go_wp2
  go_ret
  exact ⟨rfl, rfl⟩

set_option maxHeartbeats 400000 in
theorem jeqS_nil (ao ao' : Option Addr) (cap cap' : Nat) (w : World) :
    Calls Try.prog 45 #[.slice ao 0 cap, .slice ao' 0 cap'] w fun e w' => e = .returned (.bool true) ∧ w' = w := by
  go_enter Try.func45, Try.ntmps45
  go_wp2
  refine wp_loop_rounds 1 ?_
  rw [rounds_succ]
  go_wp2
  go_ret
  exact ⟨rfl, rfl⟩

set_option maxHeartbeats 400000 in
theorem jeqS_seg (b off cap b' off' cap' : Nat) (xs ys : List Int) (w : World) (hs : Seg w b off xs) (hs' : Seg w b' off' ys) (hn : xs.length ≤ 1048576) (hl : xs.length = ys.length) :
    Calls Try.prog 45 #[.slice (some ⟨b, off, none⟩) xs.length cap, .slice (some ⟨b', off', none⟩) ys.length cap'] w fun e w' => e = .returned (.bool (decide (xs = ys))) ∧ ∃ n, w' = w.drewN n := by
  have hlb : ((xs.length : Int) != (ys.length : Int)) = false := by simp [hl]
  have HL : Hid (xs.length = ys.length) := hl
  have hn' : ys.length ≤ 1048576 := by omega
  clear hl
  go_enter Try.func45, Try.ntmps45
  go_wp2
  go_loopw [13] (fun i wr => ∃ k : Nat, k ≤ xs.length ∧ i = .int .i64 k ∧ (∀ j, j < k → nth xs j = nth ys j) ∧ ∃ n, wr = w.drewN n) (fun i _ => xs.length - (intOf i).toNat)
  case atStart => exact ⟨0, Nat.zero_le _, rfl, fun j hj => by omega, 0, rfl⟩
  case round =>
    obtain ⟨k, hk, rfl, hall, n, rfl⟩ := hrel
    have HA : Hid (∀ j, j < k → nth xs j = nth ys j) := hall
    clear hall
    by_cases hlt : k < xs.length
    · have hc := hs k hlt
      have hlt' : k < ys.length := by have := HL.out; omega
      have hc' := hs' k hlt'
      by_cases he : nth xs k = nth ys k
      · have heb : (nth xs k != nth ys k) = false := by simp [he]
        have HE : Hid (nth xs k = nth ys k) := he
        clear he
        go_wp2
        go_quiet (fail)
        go_wp2
        go_roundw
        case rel => exact ⟨k + 1, by omega, by go_num, fun j hj => by
          rcases Nat.lt_or_ge j k with h | h
          · exact HA.out j h
          · rw [show j = k by omega]; exact HE.out, _, rfl⟩
        case measure => simp [intOf]; omega
      · have heb : (nth xs k != nth ys k) = true := by simp [he]
        have HE : Hid (¬ nth xs k = nth ys k) := he
        clear he
        go_wp2
        go_quiet (fail)
        go_wp2
        go_ret
        exact ⟨ret_bool (Eq.symm (decide_eq_false (fun h => HE.out (by rw [h])))), n + nq, by simp⟩
    · go_wp2
      go_ret
      obtain rfl : k = xs.length := by omega
      exact ⟨ret_bool (Eq.symm (decide_eq_true (eq_of_nth HL.out HA.out))), _, rfl⟩

theorem jeqS (ao ao' : Option Addr) (cap cap' : Nat) (xs ys : List Int) (w : World) (hv : View w ao xs) (hv' : View w ao' ys) (hn : xs.length ≤ 1048576) :
    Calls Try.prog 45 #[.slice ao xs.length cap, .slice ao' ys.length cap'] w fun e w' => e = .returned (.bool (decide (xs = ys))) ∧ ∃ n, w' = w.drewN n := by
  by_cases hl : xs.length = ys.length
  · rcases hv with rfl | ⟨b, off, rfl, _, hs⟩
    · obtain rfl : ys = [] := List.eq_nil_of_length_eq_zero (by simpa using hl.symm)
      refine (jeqS_nil ao ao' cap cap' w).mono ?_
      rintro e w' ⟨rfl, rfl⟩
      exact ⟨rfl, 0, rfl⟩
    · rcases hv' with rfl | ⟨b', off', rfl, _, hs'⟩
      · obtain rfl : xs = [] := List.eq_nil_of_length_eq_zero (by simpa using hl)
        refine (jeqS_nil _ ao' cap cap' w).mono ?_
        rintro e w' ⟨rfl, rfl⟩
        exact ⟨rfl, 0, rfl⟩
      · exact jeqS_seg b off cap b' off' cap' xs ys w hs hs' hn hl
  · refine (jeqS_ne ao ao' xs.length ys.length cap cap' w hl).mono ?_
    rintro e w' ⟨rfl, rfl⟩
    exact ⟨ret_bool (Eq.symm (decide_eq_false (fun h => hl (by rw [h])))), 0, rfl⟩

theorem rows_ext {xs ys : List (List Int)} (hl : xs.length = ys.length) (h : ∀ j, j < xs.length → cn xs j = cn ys j) : xs = ys := by
  apply List.ext_getElem hl
  intro i h1 h2
  have := h i h1
  rwa [cn_at h1, cn_at h2] at this

set_option maxRecDepth 100000 in
set_option maxHeartbeats 1000000 in
theorem jeqF (ao ao' : Option Addr) (cap cap' : Nat) (xs ys : List (List Int)) (w : World) (hv : CView w ao xs) (hv' : CView w ao' ys) (hl : xs.length = ys.length) (hn : xs.length ≤ 8) (hat : ∀ i, (cn xs i).length ≤ 1048576) :
    Calls Try.prog 44 #[.slice ao xs.length cap, .slice ao' ys.length cap', .func (.func 45) #[] #[]] w fun e w' => e = .returned (.bool (decide (xs = ys))) ∧ ∃ n, w' = w.drewN n := by
  have hlb : ((xs.length : Int) != (ys.length : Int)) = false := by simp [hl]
  have HL := hidP hl
  have hn' : ys.length ≤ 8 := by omega
  have HV := hidP hv
  have HV' := hidP hv'
  have HAT := hidP hat
  clear hl hv hv' hat
  go_enter Try.func44, Try.ntmps44
  go_wp2_with fail
  go_loopw [17] (fun i wr => ∃ k : Nat, k ≤ xs.length ∧ i = .int .i64 k ∧ (∀ j, j < k → cn xs j = cn ys j) ∧ ∃ n, wr = w.drewN n) (fun i _ => xs.length - (intOf i).toNat)
  case atStart => exact ⟨0, Nat.zero_le _, rfl, fun j hj => by omega, 0, rfl⟩
  case round =>
    obtain ⟨k, hk, rfl, hall, hw⟩ := hrel
    have HA := hidP hall
    have HW := hidP hw
    clear hall hw
    by_cases hlt : k < xs.length
    · have hlt' : k < ys.length := by have := HL.out; omega
      have v1 : CView wr ao xs := by obtain ⟨n, rfl⟩ := HW.out; exact HV.out.drewN n
      have v2 : CView wr ao' ys := by obtain ⟨n, rfl⟩ := HW.out; exact HV'.out.drewN n
      obtain ⟨b, off, rfl, hb, s1⟩ := v1.seg (by omega)
      obtain ⟨b', off', rfl, hb', s2⟩ := v2.seg (by omega)
      obtain ⟨a, c, c1, va⟩ := s1 k hlt
      obtain ⟨a', c', c2, va'⟩ := s2 k hlt'
      have HE := hidP (jeqS a a' c c' (cn xs k) (cn ys k) wr va va' (HAT.out k))
      have hi0 : (0 : Int) ≤ (k : Int) := Int.natCast_nonneg _
      have hi1 : (k : Int) < (xs.length : Int) := by omega
      have hi2 : (k : Int) < (ys.length : Int) := by omega
      clear va va' v1 v2 s1 s2
      by_cases he : cn xs k = cn ys k
      · have hd : decide (cn xs k = cn ys k) = true := by simp [he]
        rw [hd] at HE
        have HEE := hidP he
        clear he hd
        go_wp2_with fail
        refine HE.out.mono ?_
        rintro e w2 ⟨rfl, n2, rfl⟩
        go_wp2_with fail
        go_roundw
        case rel => exact ⟨k + 1, by omega, by go_num, fun j hj => by
          rcases Nat.lt_or_ge j k with h | h
          · exact HA.out j h
          · rw [show j = k by omega]; exact HEE.out, by obtain ⟨n, hn⟩ := HW.out; exact ⟨n + n2, by rw [hn]; simp⟩⟩
        case measure => simp [intOf]; omega
      · have hd : decide (cn xs k = cn ys k) = false := by simp [he]
        rw [hd] at HE
        have HEE : Hid (decide (xs = ys) = false) := decide_eq_false (fun h => he (by rw [h]))
        clear he hd
        go_wp2_with fail
        refine HE.out.mono ?_
        rintro e w2 ⟨rfl, n2, rfl⟩
        go_wp2_with fail
        go_ret
        exact ⟨ret_bool HEE.out.symm, by obtain ⟨n, hn⟩ := HW.out; exact ⟨n + n2, by rw [hn]; simp⟩⟩
    · obtain rfl : k = xs.length := by omega
      have HEE : Hid (decide (xs = ys) = true) := decide_eq_true (rows_ext HL.out HA.out)
      go_wp2_with fail
      go_ret
      exact ⟨ret_bool HEE.out.symm, HW.out⟩

end Go.Proofs.Ythcjkneifkmkdaa
