/-
  What the program reckons over its arrays of bits, as plain numbers.
-/
import Derived.Test.YtiddimmifjklmaaWPart
import Derived.Test.YtiddimmifjklmaaWMath
namespace Go.Proofs.Ytiddimmifjklmaa
open Go Go.RowKit

theorem bit16_at (x : Nat) {i : Nat} (h : i < 16) : nth (bit16 x) i = (bitN x i : Int) := tabL_getD _ _ _ h
theorem unlike_wt (x y : Nat) : unlikeN (bit16 x) (bit16 y) 16 = wtN (x ^^^ y) := by
  have : ∀ k, k ≤ 16 → unlikeN (bit16 x) (bit16 y) k = sumN (bitN (x ^^^ y)) k := fun k => by
    induction k with
    | zero => intro _; rfl
    | succ k ih =>
      intro h
      rw [unlikeN, sumN, ih (by omega), bitN_xor, bit16_at x (by omega), bit16_at y (by omega)]
      congr 1
      by_cases e : bitN x k = bitN y k
      · rw [if_pos e, if_pos (by rw [e])]
      · rw [if_neg e, if_neg (by omega)]
  exact this 16 (Nat.le_refl _)
theorem partL_at (x : Nat) {m i j : Nat} (h : i * m + m ≤ 16) (hj : j < 16) : nth (partL (bit16 x) (i * m) m) j = (bitN (partN x m i) j : Int) := by
  have hl : (List.take m (List.drop (i * m) (bit16 x))).length = m := by simp [bit16_len]; omega
  rw [part_bit]
  by_cases hjm : j < m
  · rw [if_pos hjm, ← bit16_at x (by omega)]
    simp only [nth, partL, List.getD_eq_getElem?_getD]
    rw [List.getElem?_append_left (by omega), List.getElem?_take, if_pos hjm, List.getElem?_drop]
  · rw [if_neg hjm]
    simp only [nth, partL, List.getD_eq_getElem?_getD]
    rw [List.getElem?_append_right (by omega), hl, List.getElem?_replicate, if_pos (by omega)]
    rfl
theorem partL_bits (x : Nat) {m i : Nat} (h : i * m + m ≤ 16) (j : Nat) : nth (partL (bit16 x) (i * m) m) j = 0 ∨ nth (partL (bit16 x) (i * m) m) j = 1 := by
  by_cases hj : j < 16
  · rw [partL_at x h hj]; have := bitN_lt (partN x m i) j; omega
  · left
    have := partL_len (bit16_len x) h
    simp [nth, List.getD, show ¬ j < (partL (bit16 x) (i * m) m).length by omega]
theorem numberN_test {xs : List Int} {z : Nat} (h : ∀ j, j < 16 → nth xs j = (bitN z j : Int)) : ∀ k, k ≤ 16 → ∀ j, (numberN xs k).testBit j = (decide (j < k) && z.testBit j)
  | 0, _, j => by simp [numberN]
  | k + 1, hk, j => by
    have hb := bitN_lt z k
    have ht := bitN_test z k
    rw [numberN, Nat.testBit_or, numberN_test h k (by omega) j, h k (by omega), Int.toNat_natCast]
    by_cases e : j = k
    · subst e
      rw [ht]
      cases hz : z.testBit j <;> simp [Nat.testBit_two_pow_self]
    · have h0 : (bitN z k * 2 ^ k).testBit j = false := by
        rw [ht]
        cases z.testBit k <;> simp [Ne.symm e]
      rw [h0]
      by_cases h1 : j < k
      · simp [h1, show j < k + 1 by omega]
      · simp [h1, show ¬ j < k + 1 by omega]
theorem number_of {xs : List Int} {z : Nat} (hz : z < 65536) (h : ∀ j, j < 16 → nth xs j = (bitN z j : Int)) : numberN xs 16 = z := by
  apply Nat.eq_of_testBit_eq
  intro j
  rw [numberN_test h 16 (Nat.le_refl _) j]
  by_cases hj : j < 16
  · simp [hj]
  · have : z.testBit j = false := Nat.testBit_lt_two_pow (Nat.lt_of_lt_of_le (show z < 2 ^ 16 by simpa using hz) (Nat.pow_le_pow_right (by decide) (by omega)))
    simp [hj, this]
theorem number_part (x : Nat) {m i : Nat} (h : i * m + m ≤ 16) : numberN (partL (bit16 x) (i * m) m) 16 = partN x m i :=
  number_of (part_word (by omega)) (fun j hj => partL_at x h hj)
theorem partL_eq (x y : Nat) {m i : Nat} (h : i * m + m ≤ 16) : partL (bit16 x) (i * m) m = partL (bit16 y) (i * m) m ↔ partN x m i = partN y m i := by
  constructor
  · intro e
    rw [← number_part x h, ← number_part y h, e]
  · intro e
    refine eq_of_nth (by rw [partL_len (bit16_len x) h, partL_len (bit16_len y) h]) (fun j hj => ?_)
    rw [partL_len (bit16_len x) h] at hj
    rw [partL_at x h hj, partL_at y h hj, e]
theorem shares_alike (x y : Nat) {m n : Nat} (h : m * n = 16) : sharesB (bit16 x) (bit16 y) m n = alikeB x y m n := by
  have : ∀ k, k ≤ n → sharesB (bit16 x) (bit16 y) m k = alikeB x y m k := fun k => by
    induction k with
    | zero => intro _; rfl
    | succ k ih =>
      intro hk
      have hle : k * m + m ≤ 16 := by rw [← h, ← Nat.succ_mul, Nat.mul_comm m n]; exact Nat.mul_le_mul_right m hk
      rw [sharesB, ih (by omega), alikeB, alikeB, List.range_succ, List.any_append]
      congr 1
      rw [Bool.eq_iff_iff]
      simp [partL_eq x y hle]
  exact this n (Nat.le_refl _)
end Go.Proofs.Ytiddimmifjklmaa
