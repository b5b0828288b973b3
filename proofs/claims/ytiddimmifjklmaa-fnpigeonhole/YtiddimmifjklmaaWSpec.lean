/-
  The given functions of chapter 9 that hand back numbers: l9Word, l9Count, l9Words, Weight, Apart.
-/
import Derived.Test.YtiddimmifjklmaaWLink
import Derived.Test.YtiddimmifjklmaaBMark
namespace Go.Proofs.Ytiddimmifjklmaa
open Go Go.RowKit

theorem inR_word (a : Int) : inR a 0 65535 = wordB a := rfl

set_option maxHeartbeats 400000 in
theorem sWord (a : Int) (w : World) : Calls Try.prog 50 #[.int .i64 a] w fun e w' => e = .returned (.bool (wordB a)) ∧ w' = w := by
  go_enter Try.func50, Try.ntmps50
  go_wp2_with (go_at_call 51; refine (sIn a 0 65535 _).mono ?_; rintro e w' ⟨rfl, rfl⟩; rw [inR_word])
  go_ret
  exact ⟨rfl, rfl⟩

set_option maxHeartbeats 400000 in
theorem sCount (n : Int) (w : World) : Calls Try.prog 52 #[.int .i64 n] w fun e w' => e = .returned (.bool (countB n)) ∧ w' = w := by
  have HV := hidP (show countB n = (decide (n = 1) || decide (n = 2) || decide (n = 4) || decide (n = 8)) from rfl)
  by_cases h1 : n = 1
  · subst h1
    go_enter Try.func52, Try.ntmps52
    go_wp2
    go_ret
    exact ⟨rfl, rfl⟩
  by_cases h2 : n = 2
  · subst h2
    go_enter Try.func52, Try.ntmps52
    go_wp2
    go_ret
    exact ⟨rfl, rfl⟩
  by_cases h4 : n = 4
  · subst h4
    go_enter Try.func52, Try.ntmps52
    go_wp2
    go_ret
    exact ⟨rfl, rfl⟩
  by_cases h8 : n = 8
  · subst h8
    go_enter Try.func52, Try.ntmps52
    go_wp2
    go_ret
    exact ⟨rfl, rfl⟩
  have b1 : (n == 1) = false := by simp [h1]
  have b2 : (n == 2) = false := by simp [h2]
  have b4 : (n == 4) = false := by simp [h4]
  have b8 : (n == 8) = false := by simp [h8]
  have HC : Hid (countB n = false) := by show countB n = false; simp [countB, h1, h2, h4, h8]
  go_enter Try.func52, Try.ntmps52
  go_wp2
  go_ret
  exact ⟨by rw [HC.out]; rfl, rfl⟩

theorem listB_bad {xs : List Int} {k : Nat} (hk : k < xs.length) (h : wordB (nth xs k) = false) : listB xs = false := by
  rcases hb : listB xs with _ | _
  · rfl
  · rw [listB_at hb hk] at h; cases h
theorem wordsB_all {xs : List Int} (h : ∀ j, j < xs.length → wordB (nth xs j) = true) : wordsB xs = true := by
  rw [wordsB, List.all_eq_true]
  intro x hx
  obtain ⟨j, hj, rfl⟩ := List.getElem_of_mem hx
  have := h j hj
  simpa [nth, List.getD, hj] using this

set_option maxHeartbeats 400000 in
theorem sWords_seg (b off cap : Nat) (xs : List Int) (w : World) (hs : Seg w b off xs) (hn : xs.length ≤ 1048576) :
    Calls Try.prog 49 #[.slice (some ⟨b, off, none⟩) xs.length cap] w fun e w' => e = .returned (.bool (listB xs)) ∧ w' = w := by
  go_enter Try.func49, Try.ntmps49
  go_wp2_with fail
  go_loop [3] (fun i => ∃ k : Nat, k ≤ xs.length ∧ i = .int .i64 k ∧ ∀ j, j < k → wordB (nth xs j) = true) (fun i => xs.length - (intOf i).toNat)
  case atStart => exact ⟨0, Nat.zero_le _, rfl, fun j hj => by omega⟩
  case round =>
    obtain ⟨k, hk, rfl, hall⟩ := hrel
    have HA := hidP hall
    clear hall
    by_cases hlt : k < xs.length
    · have hc := hs k hlt
      rcases hw : wordB (nth xs k) with _ | _
      · have HW := hidP hw
        have HL := hidP (listB_bad hlt hw)
        clear hw
        go_wp2_with (go_at_call 50; refine (sWord (nth xs k) _).mono ?_; rintro e w' ⟨rfl, rfl⟩; rw [HW.out])
        go_ret
        exact ⟨by rw [HL.out]; rfl, rfl⟩
      · have HW := hidP hw
        clear hw
        go_wp2_with (go_at_call 50; refine (sWord (nth xs k) _).mono ?_; rintro e w' ⟨rfl, rfl⟩; rw [HW.out])
        go_round
        case rel => exact ⟨k + 1, by omega, by go_num, fun j hj => by
          rcases Nat.lt_or_ge j k with h | h
          · exact HA.out j h
          · rw [show j = k by omega]; exact HW.out⟩
        case measure => simp [intOf]; omega
    · obtain rfl : k = xs.length := by omega
      have HL := hidP (show listB xs = decide (xs.length ≤ 60) by rw [listB, wordsB_all HA.out]; rfl)
      go_wp2
      go_ret
      refine ⟨by rw [HL.out]; congr 2; simp; omega, rfl⟩

set_option maxHeartbeats 400000 in
theorem sWords (ao : Option Addr) (cap : Nat) (xs : List Int) (w : World) (hv : View w ao xs) (hn : xs.length ≤ 1048576) :
    Calls Try.prog 49 #[.slice ao xs.length cap] w fun e w' => e = .returned (.bool (listB xs)) ∧ w' = w := by
  rcases hv with rfl | ⟨b, off, rfl, hb, hs⟩
  · go_enter Try.func49, Try.ntmps49
    go_wp2
    refine wp_loop_rounds 1 ?_
    rw [rounds_succ]
    go_wp2
    go_ret
    exact ⟨rfl, rfl⟩
  · exact sWords_seg b off cap xs w hs hn

set_option maxHeartbeats 400000 in
theorem sWeight_in (x : Nat) (w : World) (hx : x < 65536) :
    Calls Try.prog 24 #[.int .i64 (x : Int)] w fun e w' => e = .returned (.int .i64 (wtN x : Int)) ∧ w' = w := by
  have HW := hidP (wordB_nat hx)
  have HX := hidP hx
  have HLE := hidP (wt_le x)
  clear hx
  go_enter Try.func24, Try.ntmps24
  go_wp2_with (go_at_call 50; refine (sWord (x : Int) _).mono ?_; rintro e w' ⟨rfl, rfl⟩; rw [HW.out])
  go_loop [0, 3] (fun a n => ∃ y m : Nat, a = .int .i64 (y : Int) ∧ n = .int .i64 (m : Int) ∧ y < 65536 ∧ m + wtN y = wtN x) (fun a _ => (intOf a).toNat)
  case atStart => exact ⟨x, 0, rfl, rfl, HX.out, by omega⟩
  case round =>
    obtain ⟨y, m, rfl, rfl, hy, hm⟩ := hrel
    have HM := hidP hm
    have hm16 : m ≤ 16 := by have := HLE.out; omega
    clear hm
    by_cases h0 : 0 < y
    · have hh := wt_half hy
      have HM2 := hidP (show (m + y % 2) + wtN (y / 2) = wtN x by have := HM.out; omega)
      clear hh
      go_wp2
      go_round
      case rel => exact ⟨y / 2, m + y % 2, by go_num, by go_num, by omega, HM2.out⟩
      case measure => simp [intOf]; omega
    · obtain rfl : y = 0 := by omega
      go_wp2
      go_ret
      refine ⟨?_, rfl⟩
      have := HM.out
      rw [wt_zero] at this
      rw [← this]; rfl

set_option maxHeartbeats 400000 in
theorem sWeight (a : Int) (w : World) :
    Calls Try.prog 24 #[.int .i64 a] w fun e w' => e = .returned (.int .i64 (weightV a)) ∧ w' = w := by
  rcases ha : wordB a with _ | _
  · have HV : Hid (weightV a = -1) := by show weightV a = -1; simp [weightV, ha]
    have HW := hidP ha
    clear ha
    go_enter Try.func24, Try.ntmps24
    go_wp2_with (go_at_call 50; refine (sWord a _).mono ?_; rintro e w' ⟨rfl, rfl⟩; rw [HW.out])
    go_ret
    exact ⟨by rw [HV.out]; rfl, rfl⟩
  · have h := wordB_lt ha
    have e : weightV a = (wtN a.toNat : Int) := by simp [weightV, ha]
    rw [e]
    have := sWeight_in a.toNat w h.1
    rwa [show ((a.toNat : Nat) : Int) = a by omega] at this

theorem apartV_bad {a b : Int} (h : ¬ (wordB a = true ∧ wordB b = true)) : apartV a b = -1 := if_neg h
theorem apartV_in {x y : Nat} (hx : x < 65536) (hy : y < 65536) : apartV (x : Int) (y : Int) = (wtN (x ^^^ y) : Int) := by
  rw [apartV, if_pos ⟨wordB_nat hx, wordB_nat hy⟩]; rfl

set_option maxHeartbeats 400000 in
theorem sApart (a b : Int) (w : World) :
    Calls Try.prog 22 #[.int .i64 a, .int .i64 b] w fun e w' => e = .returned (.int .i64 (apartV a b)) ∧ w' = w := by
  rcases ha : wordB a with _ | _
  · have HV := hidP (apartV_bad (a := a) (b := b) (by simp [ha]))
    have HW := hidP ha
    clear ha
    go_enter Try.func22, Try.ntmps22
    go_wp2_with (go_at_call 50; refine (sWord a _).mono ?_; rintro e w' ⟨rfl, rfl⟩; rw [HW.out])
    go_ret
    exact ⟨by rw [HV.out]; rfl, rfl⟩
  · rcases hb : wordB b with _ | _
    · have HV := hidP (apartV_bad (a := a) (b := b) (by simp [hb]))
      have HA := hidP ha
      have HB := hidP hb
      clear ha hb
      go_enter Try.func22, Try.ntmps22
      go_wp2_with (go_at_call 50; first | (have h1 := HA; clear HA; refine (sWord a _).mono ?_; rintro e w' ⟨rfl, rfl⟩; rw [h1.out]) | (refine (sWord b _).mono ?_; rintro e w' ⟨rfl, rfl⟩; rw [HB.out]))
      go_ret
      exact ⟨by rw [HV.out]; rfl, rfl⟩
    · obtain ⟨x, rfl, hx⟩ : ∃ x : Nat, a = (x : Int) ∧ x < 65536 := ⟨a.toNat, by have := wordB_lt ha; omega, (wordB_lt ha).1⟩
      obtain ⟨y, rfl, hy⟩ : ∃ y : Nat, b = (y : Int) ∧ y < 65536 := ⟨b.toNat, by have := wordB_lt hb; omega, (wordB_lt hb).1⟩
      have HV := hidP (apartV_in hx hy)
      have HX := hidP (i64_xor (a := (x : Int)) (b := (y : Int)) (by omega) (by omega) (by omega) (by omega))
      have HL := hidP (sWeight_in (x ^^^ y) w (xor_lt16 hx hy))
      have HA := hidP ha
      have HB := hidP hb
      clear ha hb
      go_enter Try.func22, Try.ntmps22
      go_wp2_with (go_at_call 50; first | (have h1 := HA; clear HA; refine (sWord (x : Int) _).mono ?_; rintro e w' ⟨rfl, rfl⟩; rw [h1.out]) | (refine (sWord (y : Int) _).mono ?_; rintro e w' ⟨rfl, rfl⟩; rw [HB.out]))
      rw [HX.out, Int.toNat_natCast, Int.toNat_natCast]
      refine HL.out.mono ?_
      rintro e w' ⟨rfl, rfl⟩
      go_wp2
      go_ret
      exact ⟨by rw [HV.out]; rfl, rfl⟩
end Go.Proofs.Ytiddimmifjklmaa
