/-
  The program's functions of chapter 9 that hand back numbers: wordOk, wordsOk, partsOk, Apart, Weight.
-/
import Derived.Test.YtiddimmifjklmaaWSp4
namespace Go.Proofs.Ytiddimmifjklmaa
open Go Go.RowKit

theorem bits_word (a : Int) : bitsB a 16 = wordB a := by
  rw [Bool.eq_iff_iff, bitsB_iff, wordB_iff]
  simp
  omega

set_option maxHeartbeats 400000 in
theorem iWord (a : Int) (w : World) : Calls Try.prog 38 #[.int .i64 a] w fun e w' => e = .returned (.bool (wordB a)) ∧ w' = w := by
  go_enter Try.func38, Try.ntmps38
  go_wp2_with (go_at_call 57; refine (iHas a 16 (by decide) _).mono ?_; rintro e w' ⟨rfl, rfl⟩; rw [bits_word])
  go_ret
  exact ⟨rfl, rfl⟩

set_option maxHeartbeats 400000 in
theorem iNoWord (a : Int) (w : World) : Calls Try.prog 56 #[.int .i64 a] w fun e w' => e = .returned (.bool (!wordB a)) ∧ w' = w := by
  go_enter Try.func56, Try.ntmps56
  go_wp2_with (go_at_call 38; refine (iWord a _).mono ?_; rintro e w' ⟨rfl, rfl⟩)
  go_ret
  exact ⟨rfl, rfl⟩

set_option maxHeartbeats 1000000 in
theorem iIndexW (ao : Option Addr) (cap : Nat) (xs : List Int) (w : World) (hv : View w ao xs) (hn : xs.length ≤ 1048576) :
    Calls Try.prog 59 #[.slice ao xs.length cap, .func (.func 56) #[] #[]] w fun e w' => (∃ r : Int, e = .returned (.int .i64 r) ∧ (0 ≤ r ↔ wordsB xs = false)) ∧ w' = w := by
  go_enter Try.func59, Try.ntmps59
  go_wp2
  go_loop [8] (fun i => ∃ k : Nat, k ≤ xs.length ∧ i = .int .i64 k ∧ (∀ j, j < k → wordB (nth xs j) = true)) (fun i => xs.length - (intOf i).toNat)
  case atStart => exact ⟨0, Nat.zero_le _, rfl, fun j hj => by omega⟩
  case round =>
    obtain ⟨k, hk, rfl, hno⟩ := hrel
    have HN := hidP hno
    clear hno
    by_cases hlt : k < xs.length
    · obtain ⟨b, off, rfl, hbw, hseg⟩ := hv.seg (by omega)
      have hc := hseg k hlt
      rcases hw : wordB (nth xs k) with _ | _
      · have HW := hidP hw
        have HX : Hid (wordsB xs = false) := by
          show wordsB xs = false
          rcases hb : wordsB xs with _ | _
          · rfl
          · rw [wordsB, List.all_eq_true] at hb
            have := hb xs[k] (List.getElem_mem hlt)
            rw [show nth xs k = xs[k] by simp [nth, List.getD, hlt], this] at hw
            cases hw
        clear hw
        go_wp2_with fail
        refine (iNoWord (nth xs k) _).mono ?_
        rintro e w2 ⟨rfl, hw2⟩
        subst hw2
        rw [HW.out]
        go_wp2
        go_ret
        exact ⟨⟨k, rfl, fun _ => HX.out, fun _ => by omega⟩, rfl⟩
      · have HW := hidP hw
        clear hw
        go_wp2_with fail
        refine (iNoWord (nth xs k) _).mono ?_
        rintro e w2 ⟨rfl, hw2⟩
        subst hw2
        rw [HW.out]
        go_wp2
        go_round
        case rel => exact ⟨k + 1, by omega, by go_num, fun j hj => by
          rcases Nat.lt_or_ge j k with h | h
          · exact HN.out j h
          · rw [show j = k by omega]; exact HW.out⟩
        case measure => simp [intOf]; omega
    · go_wp2
      go_ret
      exact ⟨⟨-1, rfl, fun h => by omega, fun h => by rw [wordsB_all (fun j hj => HN.out j (by omega))] at h; cases h⟩, rfl⟩

set_option maxHeartbeats 400000 in
theorem iContW (ao : Option Addr) (cap : Nat) (xs : List Int) (w : World) (hv : View w ao xs) (hn : xs.length ≤ 1048576) :
    Calls Try.prog 55 #[.slice ao xs.length cap, .func (.func 56) #[] #[]] w fun e w' => e = .returned (.bool (!wordsB xs)) ∧ w' = w := by
  have HC := hidP (iIndexW ao cap xs w hv hn)
  clear hv
  go_enter Try.func55, Try.ntmps55
  go_wp2_with fail
  refine HC.out.mono ?_
  rintro e w2 ⟨⟨r, rfl, hr⟩, rfl⟩
  go_wp2
  go_ret
  exact ⟨ret_bool (by cases wordsB xs <;> simp), rfl⟩

set_option maxHeartbeats 400000 in
theorem iWords (ao : Option Addr) (cap : Nat) (xs : List Int) (w : World) (hv : View w ao xs) (hn : xs.length ≤ 1048576) :
    Calls Try.prog 37 #[.slice ao xs.length cap] w fun e w' => e = .returned (.bool (listB xs)) ∧ w' = w := by
  by_cases h : xs.length ≤ 60
  · have HV : Hid (listB xs = wordsB xs) := by show listB xs = _; simp [listB, h]
    go_enter Try.func37, Try.ntmps37
    go_wp2_with (go_at_call 55; refine (iContW ao cap xs _ hv hn).mono ?_; rintro e w' ⟨rfl, rfl⟩)
    go_ret
    exact ⟨by rw [HV.out]; simp, rfl⟩
  · have HV : Hid (listB xs = false) := by show listB xs = _; simp [listB, h]
    go_enter Try.func37, Try.ntmps37
    go_wp2_with fail
    go_ret
    exact ⟨by rw [HV.out]; rfl, rfl⟩

set_option maxHeartbeats 400000 in
theorem iCountB (n : Int) (w : World) : Calls Try.prog 39 #[.int .i64 n] w fun e w' => e = .returned (.bool (countB n)) ∧ w' = w := by
  by_cases h1 : n = 1
  · subst h1
    go_enter Try.func39, Try.ntmps39
    go_wp2
    go_ret
    exact ⟨rfl, rfl⟩
  by_cases h2 : n = 2
  · subst h2
    go_enter Try.func39, Try.ntmps39
    go_wp2
    go_ret
    exact ⟨rfl, rfl⟩
  by_cases h4 : n = 4
  · subst h4
    go_enter Try.func39, Try.ntmps39
    go_wp2
    go_ret
    exact ⟨rfl, rfl⟩
  by_cases h8 : n = 8
  · subst h8
    go_enter Try.func39, Try.ntmps39
    go_wp2
    go_ret
    exact ⟨rfl, rfl⟩
  have b1 : (n == 1) = false := by simp [h1]
  have b2 : (n == 2) = false := by simp [h2]
  have b4 : (n == 4) = false := by simp [h4]
  have b8 : (n == 8) = false := by simp [h8]
  have HC : Hid (countB n = false) := by show countB n = false; simp [countB, h1, h2, h4, h8]
  go_enter Try.func39, Try.ntmps39
  go_wp2
  go_ret
  exact ⟨by rw [HC.out]; rfl, rfl⟩

set_option maxHeartbeats 400000 in
theorem iApart (a b : Int) (w : World) :
    Calls Try.prog 21 #[.int .i64 a, .int .i64 b] w fun e w' => e = .returned (.int .i64 (apartV a b)) ∧ Below w.heap.size w w' := by
  rcases ha : wordB a with _ | _
  · have HV := hidP (apartV_bad (a := a) (b := b) (by simp [ha]))
    have HW := hidP ha
    clear ha
    go_enter Try.func21, Try.ntmps21
    go_wp2_with (go_at_call 38; refine (iWord a _).mono ?_; rintro e w' ⟨rfl, rfl⟩; rw [HW.out])
    go_ret
    exact ⟨by rw [HV.out]; rfl, Below.refl _ _⟩
  · rcases hb : wordB b with _ | _
    · have HV := hidP (apartV_bad (a := a) (b := b) (by simp [hb]))
      have HA := hidP ha
      have HB := hidP hb
      clear ha hb
      go_enter Try.func21, Try.ntmps21
      go_wp2_with (go_at_call 38; first | (have h1 := HA; clear HA; refine (iWord a _).mono ?_; rintro e w' ⟨rfl, rfl⟩; rw [h1.out]) | (refine (iWord b _).mono ?_; rintro e w' ⟨rfl, rfl⟩; rw [HB.out]))
      go_ret
      exact ⟨by rw [HV.out]; rfl, Below.refl _ _⟩
    · obtain ⟨x, rfl, hx⟩ : ∃ x : Nat, a = (x : Int) ∧ x < 65536 := ⟨a.toNat, by have := wordB_lt ha; omega, (wordB_lt ha).1⟩
      obtain ⟨y, rfl, hy⟩ : ∃ y : Nat, b = (y : Int) ∧ y < 65536 := ⟨b.toNat, by have := wordB_lt hb; omega, (wordB_lt hb).1⟩
      have HV := hidP (apartV_in hx hy)
      have HA := hidP ha
      have HB := hidP hb
      clear ha hb
      go_enter Try.func21, Try.ntmps21
      go_wp2_with (go_at_call 38; first | (have h1 := HA; clear HA; refine (iWord (x : Int) _).mono ?_; rintro e w' ⟨rfl, rfl⟩; rw [h1.out]) | (refine (iWord (y : Int) _).mono ?_; rintro e w' ⟨rfl, rfl⟩; rw [HB.out]))
      refine (iWordOf x _ hx).mono ?_
      rintro e w1 ⟨rfl, L1⟩
      go_wp2_with fail
      refine (iWordOf y _ hy).mono ?_
      rintro e w2 ⟨rfl, L2⟩
      go_wp2_with fail
      refine (iApartW (bit16 x) (bit16 y) _ (bit16_len x) (bit16_len y)).mono ?_
      rintro e w3 ⟨rfl, hw3⟩
      have L3 : Below w2.heap.size w2 w3 := by rw [hw3]; exact ((Below.refl _ _).alloc (Nat.le_refl _) _).alloc (by simp) _
      clear hw3
      rw [unlike_wt]
      go_wp2_with fail
      go_ret
      exact ⟨by rw [HV.out]; rfl, chain (chain L1 L2) L3⟩

theorem apart_zero (a : Int) : apartV a 0 = weightV a := by
  unfold apartV weightV
  by_cases h : wordB a = true
  · rw [if_pos ⟨h, rfl⟩, if_pos h]; simp
  · rw [if_neg (fun h' => h h'.1), if_neg h]

set_option maxHeartbeats 400000 in
theorem iWeight (a : Int) (w : World) :
    Calls Try.prog 23 #[.int .i64 a] w fun e w' => e = .returned (.int .i64 (weightV a)) ∧ Below w.heap.size w w' := by
  go_enter Try.func23, Try.ntmps23
  go_wp2_with fail
  refine (iApart a 0 _).mono ?_
  rintro e w1 ⟨rfl, L1⟩
  rw [apart_zero]
  go_wp2_with fail
  go_ret
  exact ⟨rfl, L1⟩
end Go.Proofs.Ytiddimmifjklmaa
