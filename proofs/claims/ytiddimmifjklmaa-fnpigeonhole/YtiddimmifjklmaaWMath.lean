/-
  Plain mathematics for the laws of chapter 9 (no program is named here): words, how many of their bits are 1, how many are unlike, parts of them, and the pigeonhole.
-/
import Derived.Test.YtiddimmifjklmaaMath
import Derived.Test.YtiddimmifjklmaaOMath
namespace Go.Proofs.Ytiddimmifjklmaa

def wordB (a : Int) : Bool := decide (0 ≤ a) && decide (a ≤ 65535)
theorem wordB_iff (a : Int) : wordB a = true ↔ 0 ≤ a ∧ a ≤ 65535 := by simp [wordB]
theorem wordB_lt {a : Int} (h : wordB a = true) : a.toNat < 65536 ∧ 0 ≤ a := by rw [wordB_iff] at h; omega
theorem wordB_nat {x : Nat} (h : x < 65536) : wordB (x : Int) = true := by rw [wordB_iff]; omega
def wordsB (xs : List Int) : Bool := xs.all wordB
def countB (n : Int) : Bool := decide (n = 1) || decide (n = 2) || decide (n = 4) || decide (n = 8)
theorem countB_of {n : Int} (h : countB n = true) : ∃ k m : Nat, n = (k : Int) ∧ m * k = 16 ∧ m = 16 / k ∧ 1 ≤ k ∧ k ≤ 8 ∧ 2 ≤ m := by
  simp only [countB, Bool.or_eq_true, decide_eq_true_eq] at h
  rcases h with ((h | h) | h) | h
  · exact ⟨1, 16, h, rfl, rfl, by decide, by decide, by decide⟩
  · exact ⟨2, 8, h, rfl, rfl, by decide, by decide, by decide⟩
  · exact ⟨4, 4, h, rfl, rfl, by decide, by decide, by decide⟩
  · exact ⟨8, 2, h, rfl, rfl, by decide, by decide, by decide⟩

/-- A sum of the first k. -/
def sumN (f : Nat → Nat) : Nat → Nat
  | 0 => 0
  | k + 1 => sumN f k + f k
theorem sumN_congr {f g : Nat → Nat} : ∀ k, (∀ i, i < k → f i = g i) → sumN f k = sumN g k
  | 0, _ => rfl
  | k + 1, h => by rw [sumN, sumN, sumN_congr k (fun i hi => h i (by omega)), h k (by omega)]
theorem sumN_le {f g : Nat → Nat} : ∀ k, (∀ i, i < k → f i ≤ g i) → sumN f k ≤ sumN g k
  | 0, _ => Nat.le_refl _
  | k + 1, h => by rw [sumN, sumN]; exact Nat.add_le_add (sumN_le k (fun i hi => h i (by omega))) (h k (by omega))
theorem sumN_add (f g : Nat → Nat) : ∀ k, sumN (fun i => f i + g i) k = sumN f k + sumN g k
  | 0 => rfl
  | k + 1 => by rw [sumN, sumN, sumN, sumN_add f g k]; omega
theorem sumN_shift (f : Nat → Nat) : ∀ k, sumN f (k + 1) = f 0 + sumN (fun i => f (i + 1)) k
  | 0 => by simp [sumN]
  | k + 1 => by rw [sumN, sumN_shift f k, sumN]; omega
theorem sumN_zero {f : Nat → Nat} : ∀ {k}, sumN f k = 0 → ∀ i, i < k → f i = 0
  | 0, _, i, hi => by omega
  | k + 1, h, i, hi => by
    rw [sumN] at h
    rcases Nat.lt_or_ge i k with h1 | h1
    · exact sumN_zero (k := k) (by omega) i h1
    · obtain rfl : i = k := by omega
      omega
theorem sumN_join (f : Nat → Nat) (p : Nat) : ∀ m, sumN f (p + m) = sumN f p + sumN (fun j => f (p + j)) m
  | 0 => by simp [sumN]
  | m + 1 => by rw [← Nat.add_assoc, sumN, sumN_join f p m, sumN]; omega
/-- A sum in blocks of m. -/
theorem sumN_block (f : Nat → Nat) (m : Nat) : ∀ n, sumN f (n * m) = sumN (fun i => sumN (fun j => f (i * m + j)) m) n
  | 0 => by simp [sumN]
  | n + 1 => by rw [Nat.succ_mul, sumN_join, sumN_block f m n, sumN]
theorem sumN_one {f : Nat → Nat} : ∀ n, (∀ i, i < n → 1 ≤ f i) → n ≤ sumN f n
  | 0, _ => Nat.zero_le _
  | n + 1, h => by
    have h1 := sumN_one n (fun i hi => h i (by omega))
    have h2 := h n (by omega)
    rw [sumN]
    omega

/-- How many of the bits of a word are 1. -/
def wtN (x : Nat) : Nat := sumN (bitN x) 16
theorem bitN_half (x i : Nat) : bitN (x / 2) i = bitN x (i + 1) := by
  unfold bitN
  rw [Nat.div_div_eq_div_mul, Nat.pow_succ, Nat.mul_comm]
theorem bitN_big {x i : Nat} (h : x < 2 ^ i) : bitN x i = 0 := by unfold bitN; rw [Nat.div_eq_of_lt h]
theorem wt_half {x : Nat} (h : x < 65536) : wtN x = x % 2 + wtN (x / 2) := by
  have h1 : sumN (bitN x) (16 + 1) = sumN (bitN x) 16 := by rw [sumN, bitN_big (i := 16) (by simpa using h)]; rfl
  have h2 := sumN_shift (bitN x) 16
  unfold wtN
  rw [← h1, h2, sumN_congr 16 (fun i _ => (bitN_half x i).symm)]
  congr 1
  unfold bitN
  simp
theorem wt_zero : wtN 0 = 0 := by decide
theorem wt_le (x : Nat) : wtN x ≤ 16 := by
  have : ∀ k, sumN (bitN x) k ≤ k := fun k => by
    induction k with
    | zero => exact Nat.le_refl _
    | succ k ih => rw [sumN]; have := bitN_lt x k; omega
  exact this 16

theorem bitN_xor (x y i : Nat) : bitN (x ^^^ y) i = if bitN x i = bitN y i then 0 else 1 := by
  rw [bitN_test, bitN_test, bitN_test, Nat.testBit_xor]
  cases x.testBit i <;> cases y.testBit i <;> rfl
theorem xor_lt16 {x y : Nat} (hx : x < 65536) (hy : y < 65536) : x ^^^ y < 65536 := by
  have := Nat.xor_lt_two_pow (n := 16) (by simpa using hx) (by simpa using hy)
  simpa using this
theorem word_bits {x y : Nat} (hx : x < 65536) (hy : y < 65536) (h : ∀ i, i < 16 → bitN x i = bitN y i) : x = y := by
  apply Nat.eq_of_testBit_eq
  intro i
  rcases Nat.lt_or_ge i 16 with h1 | h1
  · have := h i h1
    rw [bitN_test, bitN_test] at this
    cases hx : x.testBit i <;> cases hy : y.testBit i <;> simp_all
  · have e : ∀ z, z < 65536 → z.testBit i = false := fun z hz => Nat.testBit_lt_two_pow (Nat.lt_of_lt_of_le (show z < 2 ^ 16 by simpa using hz) (Nat.pow_le_pow_right (by decide) h1))
    rw [e x hx, e y hy]

/-- What the chapter's functions answer. -/
def weightV (a : Int) : Int := if wordB a = true then (wtN a.toNat : Int) else -1
def apartV (a b : Int) : Int := if wordB a = true ∧ wordB b = true then (wtN (a.toNat ^^^ b.toNat) : Int) else -1
def partN (x m i : Nat) : Nat := x / 2 ^ (i * m) % 2 ^ m
def partsL (a n : Int) : List Int := if wordB a = true ∧ countB n = true then tabL (fun i => (partN a.toNat (16 / n.toNat) i : Int)) n.toNat else []
/-- The numbers below k for which f holds. -/
def idsF (f : Nat → Bool) : Nat → List Int
  | 0 => []
  | k + 1 => idsF f k ++ if f k = true then [(k : Int)] else []
def alikeB (x q m n : Nat) : Bool := (List.range n).any fun i => decide (partN x m i = partN q m i)
def listB (xs : List Int) : Bool := wordsB xs && decide (xs.length ≤ 60)
def alikeL (xs : List Int) (q n : Int) : List Int := if listB xs = true ∧ wordB q = true ∧ countB n = true then idsF (fun i => alikeB (nth xs i).toNat q.toNat (16 / n.toNat) n.toNat) xs.length else []
def closeL (xs : List Int) (q most : Int) : List Int := if listB xs = true ∧ wordB q = true ∧ (0 ≤ most ∧ most ≤ 16) then idsF (fun i => decide (apartV (nth xs i) q ≤ most)) xs.length else []

theorem listB_at {xs : List Int} (h : listB xs = true) {i : Nat} (hi : i < xs.length) : wordB (nth xs i) = true := by
  simp only [listB, wordsB, Bool.and_eq_true, List.all_eq_true] at h
  have := h.1 xs[i] (List.getElem_mem hi)
  simpa [nth, List.getD, hi] using this
theorem listB_len {xs : List Int} (h : listB xs = true) : xs.length ≤ 60 := by simp [listB] at h; exact h.2

theorem part_test (x m i j : Nat) : (partN x m i).testBit j = (decide (j < m) && x.testBit (i * m + j)) := by
  unfold partN
  rw [Nat.testBit_mod_two_pow, Nat.testBit_div_two_pow, Nat.add_comm]
theorem part_bit (x m i j : Nat) : bitN (partN x m i) j = if j < m then bitN x (i * m + j) else 0 := by
  rw [bitN_test, part_test, bitN_test]
  by_cases h : j < m <;> simp [h]
theorem part_lt (x m i : Nat) : partN x m i < 2 ^ m := Nat.mod_lt _ (Nat.two_pow_pos m)
theorem part_word {x m i : Nat} (hm : m ≤ 16) : partN x m i < 65536 := Nat.lt_of_lt_of_le (part_lt x m i) (by have := Nat.pow_le_pow_right (n := 2) (by decide) hm; simpa using this)
theorem part_eq {x y m i : Nat} (h : ∀ j, j < m → bitN x (i * m + j) = bitN y (i * m + j)) : partN x m i = partN y m i := by
  apply Nat.eq_of_testBit_eq
  intro j
  rw [part_test, part_test]
  by_cases hj : j < m
  · have := h j hj
    rw [bitN_test, bitN_test] at this
    cases hx : x.testBit (i * m + j) <;> cases hy : y.testBit (i * m + j) <;> simp_all
  · simp [hj]
theorem sumN_cut (f : Nat → Nat) (m : Nat) : ∀ k, m ≤ k → sumN (fun j => if j < m then f j else 0) k = sumN f m := by
  intro k h
  obtain ⟨d, rfl⟩ : ∃ d, k = m + d := ⟨k - m, by omega⟩
  rw [sumN_join, sumN_congr (g := f) m (fun i hi => by simp [hi])]
  have : ∀ d, sumN (fun j => if m + j < m then f (m + j) else 0) d = 0 := fun d => by
    induction d with
    | zero => rfl
    | succ d ih => rw [sumN, ih, if_neg (by omega)]
  rw [this]; rfl
theorem part_weight (x m i : Nat) (hm : m ≤ 16) : wtN (partN x m i) = sumN (fun j => bitN x (i * m + j)) m := by
  unfold wtN
  rw [sumN_congr (g := fun j => if j < m then bitN x (i * m + j) else 0) 16 (fun j _ => part_bit x m i j)]
  exact sumN_cut (fun j => bitN x (i * m + j)) m 16 hm
theorem parts_weight (x : Nat) {m n : Nat} (h : m * n = 16) (hm : m ≤ 16) : sumN (fun i => wtN (partN x m i)) n = wtN x := by
  rw [sumN_congr (g := fun i => sumN (fun j => bitN x (i * m + j)) m) n (fun i _ => part_weight x m i hm), ← sumN_block, Nat.mul_comm n m, h]
  rfl
/-- THE PIGEONHOLE: who is unlike in less bits than there are parts has one part alike. -/
theorem pigeon {x q m n : Nat} (h : m * n = 16) (hlt : wtN (x ^^^ q) < n) : alikeB x q m n = true := by
  rcases ha : alikeB x q m n with _ | _
  · exfalso
    have hne : ∀ i, i < n → partN x m i ≠ partN q m i := fun i hi e => by
      simp only [alikeB, List.any_eq_false, List.mem_range, decide_eq_true_eq] at ha
      exact ha i hi e
    have h1 : n ≤ sumN (fun i => sumN (fun j => bitN (x ^^^ q) (i * m + j)) m) n := sumN_one n (fun i hi => by
      rcases Nat.eq_zero_or_pos (sumN (fun j => bitN (x ^^^ q) (i * m + j)) m) with h0 | h0
      · refine absurd (part_eq (fun j hj => ?_)) (hne i hi)
        have h2 := sumN_zero h0 j hj
        rw [bitN_xor] at h2
        by_cases e : bitN x (i * m + j) = bitN q (i * m + j)
        · exact e
        · rw [if_neg e] at h2; cases h2
      · exact h0)
    rw [← sumN_block, Nat.mul_comm n m, h] at h1
    unfold wtN at hlt
    omega
  · rfl
theorem wt_xor_le (x y : Nat) : wtN (x ^^^ y) ≤ wtN x + wtN y := by
  unfold wtN
  rw [← sumN_add]
  refine sumN_le 16 (fun i _ => ?_)
  rw [bitN_xor]
  have := bitN_lt x i
  have := bitN_lt y i
  by_cases e : bitN x i = bitN y i
  · rw [if_pos e]; omega
  · rw [if_neg e]; omega
theorem wt_xor_zero {x y : Nat} (hx : x < 65536) (hy : y < 65536) : wtN (x ^^^ y) = 0 ↔ x = y := by
  constructor
  · intro h
    refine word_bits hx hy (fun i hi => ?_)
    have h2 := sumN_zero h i hi
    rw [bitN_xor] at h2
    by_cases e : bitN x i = bitN y i
    · exact e
    · rw [if_neg e] at h2; cases h2
  · rintro rfl
    rw [Nat.xor_self]; exact wt_zero

theorem idsF_mem {f : Nat → Bool} {k : Int} : ∀ {n}, k ∈ idsF f n ↔ ∃ i : Nat, i < n ∧ k = (i : Int) ∧ f i = true
  | 0 => by simp [idsF]
  | n + 1 => by
    rw [idsF, List.mem_append, idsF_mem (n := n)]
    constructor
    · rintro (⟨i, h1, h2, h3⟩ | h)
      · exact ⟨i, by omega, h2, h3⟩
      · by_cases e : f n = true
        · rw [if_pos e] at h
          exact ⟨n, by omega, by simpa using h, e⟩
        · rw [if_neg e] at h; cases h
    · rintro ⟨i, h1, h2, h3⟩
      by_cases e : i = n
      · subst e
        right; rw [if_pos h3]; simp [h2]
      · exact Or.inl ⟨i, by omega, h2, h3⟩
theorem idsF_len (f : Nat → Bool) : ∀ n, (idsF f n).length ≤ n
  | 0 => Nat.le_refl _
  | n + 1 => by
    have := idsF_len f n
    rw [idsF, List.length_append]
    split <;> simp <;> omega
theorem idsF_pair (f : Nat → Bool) : ∀ n, (idsF f n).Pairwise (· < ·)
  | 0 => List.Pairwise.nil
  | n + 1 => by
    rw [idsF, List.pairwise_append]
    refine ⟨idsF_pair f n, ?_, ?_⟩
    · split <;> simp
    · intro a ha b hb
      obtain ⟨i, h1, rfl, _⟩ := idsF_mem.1 ha
      split at hb
      · simp at hb; omega
      · cases hb
end Go.Proofs.Ytiddimmifjklmaa
