/-
  Plain mathematics for the laws of chapter 2 (no program is named here): marks, the distance by kind, the diameter and the middle.
-/
import Derived.Test.YtbmljcpeonopmaaSides
namespace Go.Proofs.Ytbmljcpeonopmaa

abbrev Mk := Int × List Int
def mid (ms : List Mk) (i : Nat) : Int := (ms.getD i (0, [])).1
def mat (ms : List Mk) (i : Nat) : List Int := (ms.getD i (0, [])).2
def mOkAt (ms : List Mk) (i : Nat) : Bool :=
  decide (1 ≤ mid ms i) && decide (mid ms i ≤ 1000000) && okB (mat ms i) && decide ((mat ms i).length = (mat ms 0).length) && (decide (i = 0) || decide (mid ms (i - 1) < mid ms i))
def marksB (ms : List Mk) : Bool := decide (ms.length ≤ 60) && (List.range ms.length).all (mOkAt ms)
def kindB (k : Int) : Bool := decide (1 ≤ k) && decide (k ≤ 3)
def betV (a b : List Int) (k : Int) : Int := if k = 1 then farV a b else if k = 2 then stepsV a b else if k = 3 then reachV a b else -1
def betF (ms : List Mk) (p : List Int) (k : Int) (i : Nat) : Int := betV p (mat ms i) k
def mostV (ms : List Mk) (p : List Int) (k : Int) : Int := maxTo (betF ms p k) ms.length
def mostF (ms : List Mk) (k : Int) (i : Nat) : Int := mostV ms (mat ms i) k
def noneB (ms : List Mk) (k : Int) : Bool := decide (ms.length = 0) || !marksB ms || !kindB k
def diaV (ms : List Mk) (k : Int) : Int := if noneB ms k = true then -1 else maxTo (mostF ms k) ms.length
def bestI (ms : List Mk) (k : Int) : Nat → Nat
  | 0 => 0
  | n + 1 => if mostF ms k n < mostF ms k (bestI ms k n) then n else bestI ms k n
def midV (ms : List Mk) (k : Int) : Int := if noneB ms k = true then 0 else mid ms (bestI ms k ms.length)

theorem mOkAt_iff (ms : List Mk) (i : Nat) : mOkAt ms i = true ↔ 1 ≤ mid ms i ∧ mid ms i ≤ 1000000 ∧ okB (mat ms i) = true ∧ (mat ms i).length = (mat ms 0).length ∧ (i = 0 ∨ mid ms (i - 1) < mid ms i) := by
  simp [mOkAt, and_assoc]
theorem marksB_len {ms : List Mk} (h : marksB ms = true) : ms.length ≤ 60 := by simp [marksB] at h; exact h.1
theorem marksB_at {ms : List Mk} (h : marksB ms = true) {i : Nat} (hi : i < ms.length) : mOkAt ms i = true := by
  simp only [marksB, Bool.and_eq_true, List.all_eq_true] at h
  exact h.2 i (List.mem_range.2 hi)
theorem marksB_long {ms : List Mk} (h : 60 < ms.length) : marksB ms = false := by simp [marksB]; omega
theorem marksB_out {ms : List Mk} {i : Nat} (hi : i < ms.length) (h : mOkAt ms i = false) : marksB ms = false := by
  rcases hb : marksB ms with _ | _
  · rfl
  · rw [marksB_at hb hi] at h; cases h
theorem marksB_mk {ms : List Mk} (hl : ms.length ≤ 60) (h : ∀ i, i < ms.length → mOkAt ms i = true) : marksB ms = true := by
  simp only [marksB, Bool.and_eq_true, List.all_eq_true, decide_eq_true_eq]
  exact ⟨hl, fun i hi => h i (List.mem_range.1 hi)⟩
theorem mOkAt_false (ms : List Mk) (i : Nat) (h : ¬ (1 ≤ mid ms i ∧ mid ms i ≤ 1000000 ∧ okB (mat ms i) = true ∧ (mat ms i).length = (mat ms 0).length ∧ (i = 0 ∨ mid ms (i - 1) < mid ms i))) : mOkAt ms i = false := by
  rcases hb : mOkAt ms i with _ | _
  · rfl
  · exact absurd ((mOkAt_iff ms i).1 hb) h
theorem marks_two {ms : List Mk} (h : marksB ms = true) {i j : Nat} (hi : i < ms.length) (hj : j < ms.length) : twoB (mat ms i) (mat ms j) = true := by
  have a := (mOkAt_iff ms i).1 (marksB_at h hi)
  have b := (mOkAt_iff ms j).1 (marksB_at h hj)
  exact twoB_true a.2.2.1 b.2.2.1 (by omega)

theorem betV_le (a b : List Int) (k : Int) : -1 ≤ betV a b k ∧ betV a b k ≤ 16000000 := by
  rcases ht : twoB a b with _ | _
  · have : betV a b k = -1 := by simp [betV, farV, stepsV, reachV, ht]
    omega
  · obtain ⟨ha, hb, hl⟩ := twoB_of ht
    have h4 := okB_len ha
    have h1 := sumTo_le (sqF a b) 0 4000000 (sqF_bd ha hb) a.length
    have h2 := sumTo_le (gapF a b) 0 2000 (gapF_bd ha hb) a.length
    have h3 := maxTo_le (gapF a b) 2000 (by omega) (fun i => (gapF_bd ha hb i).2) a.length
    simp only [betV, farV, stepsV, reachV, ht, if_true]
    split
    · omega
    · split
      · omega
      · split <;> omega
theorem most_le (ms : List Mk) (p : List Int) (k : Int) (n : Nat) : 0 ≤ maxTo (betF ms p k) n ∧ maxTo (betF ms p k) n ≤ 16000000 :=
  maxTo_le _ _ (by omega) (fun i => (betV_le _ _ _).2) n
theorem mostF_le (ms : List Mk) (k : Int) (i : Nat) : 0 ≤ mostF ms k i ∧ mostF ms k i ≤ 16000000 := most_le _ _ _ _
theorem dia_le (ms : List Mk) (k : Int) (n : Nat) : 0 ≤ maxTo (mostF ms k) n ∧ maxTo (mostF ms k) n ≤ 16000000 :=
  maxTo_le _ _ (by omega) (fun i => (mostF_le _ _ _).2) n

theorem maxTo_ge (f : Nat → Int) (n j : Nat) (h : j < n) : f j ≤ maxTo f n := by
  induction n with
  | zero => omega
  | succ n ih =>
    simp only [maxTo]
    rcases Nat.lt_or_ge j n with h1 | h1
    · have := ih h1; omega
    · rw [show j = n by omega]; omega
theorem maxTo_lub (f : Nat → Int) (n : Nat) (c : Int) (h0 : 0 ≤ c) (h : ∀ j, j < n → f j ≤ c) : maxTo f n ≤ c := by
  induction n with
  | zero => exact h0
  | succ n ih => have := ih (fun j hj => h j (by omega)); have := h n (by omega); simp only [maxTo]; omega

theorem bestI_one (ms : List Mk) (k : Int) : bestI ms k 1 = 0 := by simp [bestI]
theorem bestI_lt (ms : List Mk) (k : Int) (n : Nat) (h : 0 < n) : bestI ms k n < n := by
  induction n with
  | zero => omega
  | succ n ih =>
    simp only [bestI]
    split
    · omega
    · rcases Nat.eq_zero_or_pos n with h0 | h0
      · subst h0; simp [bestI]
      · have := ih h0; omega
theorem bestI_least (ms : List Mk) (k : Int) (n j : Nat) (h : j < n) : mostF ms k (bestI ms k n) ≤ mostF ms k j := by
  induction n with
  | zero => omega
  | succ n ih =>
    simp only [bestI]
    rcases Nat.lt_or_ge j n with h1 | h1
    · have := ih h1
      split <;> omega
    · rw [show j = n by omega]
      split <;> omega

theorem noneB_of {ms : List Mk} {k : Int} (h : noneB ms k = false) : 0 < ms.length ∧ marksB ms = true ∧ kindB k = true := by
  simp [noneB] at h
  exact ⟨List.length_pos_iff.2 h.1.1, h.1.2, h.2⟩
theorem noneB_nil {ms : List Mk} {k : Int} (h : ms.length = 0) : noneB ms k = true := by simp [noneB, h]
theorem noneB_bad {ms : List Mk} {k : Int} (h : marksB ms = false) : noneB ms k = true := by simp [noneB, h]
theorem noneB_kind {ms : List Mk} {k : Int} (h : kindB k = false) : noneB ms k = true := by simp [noneB, h]
theorem noneB_false {ms : List Mk} {k : Int} (h0 : ms.length ≠ 0) (hm : marksB ms = true) (hk : kindB k = true) : noneB ms k = false := by simp [noneB, hm, hk]; simpa using h0
theorem kindB_iff (k : Int) : kindB k = true ↔ 1 ≤ k ∧ k ≤ 3 := by simp [kindB]
theorem kindB_false {k : Int} (h : ¬ (1 ≤ k ∧ k ≤ 3)) : kindB k = false := by
  rcases hb : kindB k with _ | _
  · rfl
  · exact absurd ((kindB_iff k).1 hb) h

end Go.Proofs.Ytbmljcpeonopmaa
