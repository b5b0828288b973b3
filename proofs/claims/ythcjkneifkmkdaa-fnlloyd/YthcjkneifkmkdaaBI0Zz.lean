/-
  The program's own BoxOk, takes and Inside.
-/
import Derived.Test.YthcjkneifkmkdaaBSpecZz
import Derived.Test.YthcjkneifkmkdaaCopyZz
namespace Go.Proofs.Ythcjkneifkmkdaa
open Go Go.RowKit

def aboveB (p q : List Int) : Bool := (List.range p.length).all fun i => decide (nth p i ≤ nth q i)
theorem aboveB_out {p q : List Int} {i : Nat} (hi : i < p.length) (h : nth p i > nth q i) : aboveB p q = false := by
  rcases hb : aboveB p q with _ | _
  · rfl
  · simp only [aboveB, List.all_eq_true] at hb
    have := hb i (List.mem_range.2 hi)
    simp at this; omega
theorem aboveB_mk {p q : List Int} (hs : ∀ i, i < p.length → nth p i ≤ nth q i) : aboveB p q = true := by
  simp only [aboveB, List.all_eq_true]
  exact fun i hi => by simp; exact hs i (List.mem_range.1 hi)
theorem aboveB_at {p q : List Int} (h : aboveB p q = true) {i : Nat} (hi : i < p.length) : nth p i ≤ nth q i := by
  simp only [aboveB, List.all_eq_true] at h
  have := h i (List.mem_range.2 hi)
  simpa using this
theorem boxB_above (lo hi : List Int) : boxB (lo, hi) = (twoB lo hi && aboveB lo hi) := rfl
theorem outF_zero {lo hi p : List Int} (i : Nat) : outQ (lo, hi) p i = 0 ↔ nth lo i ≤ nth p i ∧ nth p i ≤ nth hi i := by
  unfold outQ
  constructor
  · intro h
    have h0 : outF (lo, hi) p i = 0 := by
      rcases Int.mul_eq_zero.1 h with h | h <;> exact h
    unfold outF maxV at h0
    simp only at h0
    omega
  · intro h
    have h0 : outF (lo, hi) p i = 0 := by unfold outF maxV; simp only; omega
    rw [h0]; rfl
theorem sum_nil (f : Nat → Int) (h : ∀ i, 0 ≤ f i) (n : Nat) : sumTo f n = 0 ↔ ∀ i, i < n → f i = 0 := by
  induction n with
  | zero => exact ⟨fun _ i hi => by omega, fun _ => rfl⟩
  | succ n ih =>
    have hs := h n
    have hn : 0 ≤ sumTo f n := by
      have : ∀ k, 0 ≤ sumTo f k := fun k => by
        induction k with
        | zero => exact Int.le_refl _
        | succ k ih2 => have := h k; simp only [sumTo]; omega
      exact this n
    constructor
    · intro h2 i hi
      simp only [sumTo] at h2
      rcases Nat.lt_or_ge i n with h3 | h3
      · exact (ih.1 (by omega)) i h3
      · rw [show i = n by omega]; omega
    · intro h2
      simp only [sumTo]
      rw [ih.2 (fun i hi => h2 i (by omega)), h2 n (by omega)]; rfl
theorem inside_eq {lo hi p : List Int} (ht : toldX (lo, hi) p = true) : insideB (lo, hi) p = (aboveB lo p && aboveB p hi) := by
  obtain ⟨h1, h2⟩ := toldX_of ht
  obtain ⟨_, _, hl⟩ := twoB_of h2
  have hl' : lo.length = p.length := hl
  have e : insideB (lo, hi) p = decide (sumTo (outQ (lo, hi) p) p.length = 0) := by simp [insideB, toBoxV, ht]
  rw [e]
  have hz := sum_nil (outQ (lo, hi) p) (fun i => (outQ_bd ht i).1) p.length
  rcases ha : aboveB lo p with _ | _
  · rw [Bool.false_and]
    refine decide_eq_false fun h => ?_
    have := aboveB_mk (p := lo) (q := p) (fun i hi => ((outF_zero i).1 (hz.1 h i (by omega))).1)
    rw [ha] at this; cases this
  · rcases hb : aboveB p hi with _ | _
    · rw [Bool.and_false]
      refine decide_eq_false fun h => ?_
      have := aboveB_mk (p := p) (q := hi) (fun i hi => ((outF_zero i).1 (hz.1 h i hi)).2)
      rw [hb] at this; cases this
    · refine decide_eq_true (hz.2 fun i hi => (outF_zero i).2 ⟨aboveB_at ha (by omega), aboveB_at hb hi⟩)

end Go.Proofs.Ythcjkneifkmkdaa
