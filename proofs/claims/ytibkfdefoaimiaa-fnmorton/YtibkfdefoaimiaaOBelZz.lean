/-
  Points on the line: the given test and the program's own; both Below.
-/
import Derived.Test.YtibkfdefoaimiaaBI0Zz
import Derived.Test.YtibkfdefoaimiaaMCopyZz
import Derived.BigQuiet
namespace Go.Proofs.Ytibkfdefoaimiaa
open Go Go.RowKit

def lineB (xs : List Int) : Bool := keepB 0 1023 xs

set_option maxHeartbeats 400000 in
theorem s8_bad (ao : Option Addr) (n cap : Nat) (w : World) (h : n < 1 ∨ 4 < n) (hn : n ≤ 1048576) :
    Calls Try.prog 53 #[.slice ao n cap] w fun e w' => e = .returned (.bool false) ∧ w' = w := by
  rcases h with h | h
  · go_enter Try.func53, Try.ntmps53
    go_wp2
    go_ret
    exact ⟨rfl, rfl⟩
  · have h1 : ¬ n < 1 := by omega
    go_enter Try.func53, Try.ntmps53
    go_wp2
    go_ret
    exact ⟨rfl, rfl⟩

set_option maxHeartbeats 1000000 in
theorem s8_seg (b off cap : Nat) (xs : List Int) (w : World) (hs : Seg w b off xs) (h1 : 1 ≤ xs.length) (h4 : xs.length ≤ 4) :
    Calls Try.prog 53 #[.slice (some ⟨b, off, none⟩) xs.length cap] w fun e w' => e = .returned (.bool (lineB xs)) ∧ w' = w := by
  go_enter Try.func53, Try.ntmps53
  go_wp2
  go_loop [3] (fun i => ∃ k : Nat, k ≤ xs.length ∧ i = .int .i64 k ∧ ∀ j, j < k → 0 ≤ nth xs j ∧ nth xs j ≤ 1023) (fun i => xs.length - (intOf i).toNat)
  case atStart => exact ⟨0, Nat.zero_le _, rfl, fun j hj => by omega⟩
  case round =>
    obtain ⟨k, hk, rfl, hall⟩ := hrel
    have HA : Hid (∀ j, j < k → 0 ≤ nth xs j ∧ nth xs j ≤ 1023) := hall
    clear hall
    by_cases hlt : k < xs.length
    · have hc := hs k hlt
      rcases hin : inR (nth xs k) 0 1023 with _ | _
      · have HI := hidP hin
        have HO := hidP (show lineB xs = false from keepB_out k hlt (by have := inR_not hin; omega))
        clear hin
        go_wp2_with (go_at_call 54; refine (sIn (nth xs k) 0 1023 _).mono ?_; rintro e w' ⟨rfl, rfl⟩; rw [HI.out])
        go_ret
        exact ⟨ret_bool HO.out.symm, rfl⟩
      · have HI := hidP hin
        have HO := hidP (inR_of hin)
        clear hin
        go_wp2_with (go_at_call 54; refine (sIn (nth xs k) 0 1023 _).mono ?_; rintro e w' ⟨rfl, rfl⟩; rw [HI.out])
        go_round
        case rel => exact ⟨k + 1, by omega, by go_num, fun j hj => by
          rcases Nat.lt_or_ge j k with h | h
          · exact HA.out j h
          · rw [show j = k by omega]; exact HO.out⟩
        case measure => simp [intOf]; omega
    · go_wp2
      go_ret
      obtain rfl : k = xs.length := by omega
      exact ⟨ret_bool (Eq.symm (keepB_mk h1 h4 HA.out)), rfl⟩

theorem s8 (ao : Option Addr) (cap : Nat) (xs : List Int) (w : World) (hv : View w ao xs) (hn : xs.length ≤ 1048576) :
    Calls Try.prog 53 #[.slice ao xs.length cap] w fun e w' => e = .returned (.bool (lineB xs)) ∧ w' = w := by
  by_cases h : 1 ≤ xs.length ∧ xs.length ≤ 4
  · rcases hv with rfl | ⟨b, off, rfl, _, hs⟩
    · simp at h
    · exact s8_seg b off cap xs w hs h.1 h.2
  · refine (s8_bad ao xs.length cap w (by omega) hn).mono ?_
    rintro e w' ⟨rfl, rfl⟩
    refine ⟨ret_bool ?_, rfl⟩
    rcases Nat.lt_or_ge xs.length 1 with h1 | h1
    · exact (keepB_short h1).symm
    · exact (keepB_long (by omega)).symm

set_option maxHeartbeats 400000 in
theorem iLine (ao : Option Addr) (cap : Nat) (xs : List Int) (w : World) (hv : View w ao xs) (hn : xs.length ≤ 1048576) :
    Calls Try.prog 39 #[.slice ao xs.length cap] w fun e w' => e = .returned (.bool (lineB xs)) ∧ w' = w := by
  go_enter Try.func39, Try.ntmps39
  go_wp2_with (go_at_call 61; refine (pKeeps 0 1023 ao cap xs _ hv hn).mono ?_; rintro e w' ⟨rfl, rfl⟩)
  go_ret
  exact ⟨rfl, rfl⟩

def belowV (a b : List Int) : Bool := lineB a && lineB b && decide (a.length = b.length) && aboveB a b
theorem belowV_left {a b : List Int} (h : lineB a = false) : belowV a b = false := by simp [belowV, h]
theorem belowV_right {a b : List Int} (h : lineB b = false) : belowV a b = false := by simp [belowV, h]
theorem belowV_len {a b : List Int} (h : ¬ a.length = b.length) : belowV a b = false := by simp [belowV, h]
theorem belowV_in {a b : List Int} (h1 : lineB a = true) (h2 : lineB b = true) (h3 : a.length = b.length) : belowV a b = aboveB a b := by simp [belowV, h1, h2, h3]

set_option maxRecDepth 100000 in
set_option maxHeartbeats 2000000 in
theorem sBelow (a1 a2 : Option Addr) (c1 c2 : Nat) (a b : List Int) (w : World) (v1 : View w a1 a) (v2 : View w a2 b) (n1 : a.length ≤ 1048576) (n2 : b.length ≤ 1048576) :
    Calls Try.prog 22 #[.slice a1 a.length c1, .slice a2 b.length c2] w fun e w' => e = .returned (.bool (belowV a b)) ∧ ∃ n, w' = w.drewN n := by
  rcases h1 : lineB a with _ | _
  · have HV := hidP (belowV_left (b := b) h1)
    have H1 := hidP h1
    clear h1
    go_enter Try.func22, Try.ntmps22
    go_wp2_with (go_at_call 53; refine (s8 a1 c1 a _ v1 n1).mono ?_; rintro e w' ⟨rfl, rfl⟩; rw [H1.out])
    go_ret
    exact ⟨ret_bool HV.out.symm, 0, rfl⟩
  rcases h2 : lineB b with _ | _
  · have HV := hidP (belowV_right (a := a) h2)
    have H1 := hidP h1
    have H2 := hidP h2
    clear h1 h2
    go_enter Try.func22, Try.ntmps22
    go_wp2_with (go_at_call 53; first | (have h1 := H1; clear H1; refine (s8 a1 c1 a _ v1 n1).mono ?_; rintro e w' ⟨rfl, rfl⟩; rw [h1.out]) | (refine (s8 a2 c2 b _ v2 n2).mono ?_; rintro e w' ⟨rfl, rfl⟩; rw [H2.out]))
    go_ret
    exact ⟨ret_bool HV.out.symm, 0, rfl⟩
  by_cases h3 : a.length = b.length
  · have HV := hidP (belowV_in h1 h2 h3)
    have hl1 := keepB_len h1
    have H1 := hidP h1
    have H2 := hidP h2
    have HL := hidP h3
    obtain ⟨b1, o1, rfl, _, s1⟩ : ∃ b off, a1 = some ⟨b, off, none⟩ ∧ b < w.heap.size ∧ Seg w b off a := by
      rcases v1 with rfl | ⟨b, off, rfl, hb, hs⟩
      · simp at hl1
      · exact ⟨b, off, rfl, hb, hs⟩
    obtain ⟨b2, o2, rfl, _, s2⟩ : ∃ b' off, a2 = some ⟨b', off, none⟩ ∧ b' < w.heap.size ∧ Seg w b' off b := by
      rcases v2 with rfl | ⟨b, off, rfl, hb, hs⟩
      · rw [h3] at hl1; simp at hl1
      · exact ⟨b, off, rfl, hb, hs⟩
    have hlb : ((a.length : Int) != (b.length : Int)) = false := by simp [h3]
    clear h1 h2 h3 hl1
    go_enter Try.func22, Try.ntmps22
    go_wp2_with (go_at_call 53; first | (have h1 := H1; clear H1; refine (s8 _ c1 a _ v1 n1).mono ?_; rintro e w' ⟨rfl, rfl⟩; rw [h1.out]) | (refine (s8 _ c2 b _ v2 n2).mono ?_; rintro e w' ⟨rfl, rfl⟩; rw [H2.out]))
    clear hlb
    go_loopw [5] (fun i wr => ∃ k : Nat, k ≤ a.length ∧ i = .int .i64 k ∧ (∀ j, j < k → nth a j ≤ nth b j) ∧ ∃ n, wr = w'.drewN n) (fun i _ => a.length - (intOf i).toNat)
    case atStart => exact ⟨0, Nat.zero_le _, rfl, fun j hj => by omega, 0, rfl⟩
    case round =>
      obtain ⟨k, hk, rfl, hall, n, rfl⟩ := hrel
      have HA := hidP hall
      clear hall
      by_cases hlt : k < a.length
      · have hc := s1 k hlt
        have hlt' : k < b.length := by have := HL.out; omega
        have hc' := s2 k hlt'
        by_cases hgt : nth a k > nth b k
        · have HX := hidP (aboveB_out hlt hgt)
          go_wp2
          go_quiet (fail)
          go_wp2
          go_ret
          exact ⟨ret_bool (by rw [HV.out, HX.out]), n + nq, by simp⟩
        · have HG := hidP hgt
          have hgt' : nth a k ≤ nth b k := by omega
          clear hgt
          go_wp2
          go_quiet (fail)
          go_wp2
          go_roundw
          case rel => exact ⟨k + 1, by omega, by go_num, fun j hj => by
            rcases Nat.lt_or_ge j k with h | h
            · exact HA.out j h
            · rw [show j = k by omega]; exact hgt', _, rfl⟩
          case measure => simp [intOf]; omega
      · go_wp2
        go_ret
        exact ⟨ret_bool (by rw [HV.out]; exact (aboveB_mk (fun j hj => HA.out j (by omega))).symm), n, rfl⟩
  · have HV := hidP (belowV_len h3)
    have H1 := hidP h1
    have H2 := hidP h2
    have hlb : ((a.length : Int) != (b.length : Int)) = true := by simp; omega
    clear h1 h2 h3
    go_enter Try.func22, Try.ntmps22
    go_wp2_with (go_at_call 53; first | (have h1 := H1; clear H1; refine (s8 a1 c1 a _ v1 n1).mono ?_; rintro e w' ⟨rfl, rfl⟩; rw [h1.out]) | (refine (s8 a2 c2 b _ v2 n2).mono ?_; rintro e w' ⟨rfl, rfl⟩; rw [H2.out]))
    go_ret
    exact ⟨ret_bool HV.out.symm, 0, rfl⟩

set_option maxRecDepth 100000 in
set_option maxHeartbeats 2000000 in
theorem iBelow (a1 a2 : Option Addr) (c1 c2 : Nat) (a b : List Int) (w : World) (v1 : View w a1 a) (v2 : View w a2 b) (n1 : a.length ≤ 1048576) (n2 : b.length ≤ 1048576) :
    Calls Try.prog 21 #[.slice a1 a.length c1, .slice a2 b.length c2] w fun e w' => e = .returned (.bool (belowV a b)) ∧ w' = w := by
  by_cases h3 : a.length = b.length
  · rcases h1 : lineB a with _ | _
    · have HV := hidP (belowV_left (b := b) h1)
      have H1 := hidP h1
      have hlb : ((a.length : Int) == (b.length : Int)) = true := by simp [h3]
      clear h1 h3
      go_enter Try.func21, Try.ntmps21
      go_wp2_with (go_at_call 39; refine (iLine a1 c1 a _ v1 n1).mono ?_; rintro e w' ⟨rfl, rfl⟩; rw [H1.out])
      go_ret
      exact ⟨ret_bool HV.out.symm, rfl⟩
    rcases h2 : lineB b with _ | _
    · have HV := hidP (belowV_right (a := a) h2)
      have H1 := hidP h1
      have H2 := hidP h2
      have hlb : ((a.length : Int) == (b.length : Int)) = true := by simp [h3]
      clear h1 h2 h3
      go_enter Try.func21, Try.ntmps21
      go_wp2_with (go_at_call 39; first | (have h1 := H1; clear H1; refine (iLine a1 c1 a _ v1 n1).mono ?_; rintro e w' ⟨rfl, rfl⟩; rw [h1.out]) | (refine (iLine a2 c2 b _ v2 n2).mono ?_; rintro e w' ⟨rfl, rfl⟩; rw [H2.out]))
      go_ret
      exact ⟨ret_bool HV.out.symm, rfl⟩
    have HV := hidP (belowV_in h1 h2 h3)
    have hl1 := keepB_len h1
    have H1 := hidP h1
    have H2 := hidP h2
    have HL := hidP h3
    obtain ⟨b1, o1, rfl, _, s1⟩ : ∃ b off, a1 = some ⟨b, off, none⟩ ∧ b < w.heap.size ∧ Seg w b off a := by
      rcases v1 with rfl | ⟨b, off, rfl, hb, hs⟩
      · simp at hl1
      · exact ⟨b, off, rfl, hb, hs⟩
    obtain ⟨b2, o2, rfl, _, s2⟩ : ∃ b' off, a2 = some ⟨b', off, none⟩ ∧ b' < w.heap.size ∧ Seg w b' off b := by
      rcases v2 with rfl | ⟨b, off, rfl, hb, hs⟩
      · rw [h3] at hl1; simp at hl1
      · exact ⟨b, off, rfl, hb, hs⟩
    have hlb : ((a.length : Int) == (b.length : Int)) = true := by simp [h3]
    clear h1 h2 h3 hl1
    go_enter Try.func21, Try.ntmps21
    go_wp2_with first
      | (go_at_call 39; first | (have h1 := H1; clear H1; refine (iLine _ c1 a _ v1 n1).mono ?_; rintro e w' ⟨rfl, rfl⟩; rw [h1.out]) | (refine (iLine _ c2 b _ v2 n2).mono ?_; rintro e w' ⟨rfl, rfl⟩; rw [H2.out]))
      | (go_at_call 55; refine (pAbove b1 o1 c1 b2 o2 c2 a b _ s1 s2 HL.out n1).mono ?_; rintro e w' ⟨rfl, rfl⟩)
    go_ret
    exact ⟨ret_bool HV.out.symm, rfl⟩
  · have HV := hidP (belowV_len h3)
    have hlb : ((a.length : Int) == (b.length : Int)) = false := by simp; omega
    clear h3
    go_enter Try.func21, Try.ntmps21
    go_wp2
    go_ret
    exact ⟨ret_bool HV.out.symm, rfl⟩
end Go.Proofs.Ytibkfdefoaimiaa
