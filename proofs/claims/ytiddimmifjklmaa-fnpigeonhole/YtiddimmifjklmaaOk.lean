/-
  What is a point: the given PointOk and the program's own, each answers okB.
-/
import Derived.Test.YtiddimmifjklmaaCopy
namespace Go.Proofs.Ytiddimmifjklmaa
open Go Go.RowKit

/-- As many numbers as a point has, each from lo to hi? -/
def keepB (lo hi : Int) (xs : List Int) : Bool := decide (1 ≤ xs.length) && decide (xs.length ≤ 4) && xs.all (fun x => decide (lo ≤ x) && decide (x ≤ hi))

theorem okB_keep (xs : List Int) : okB xs = keepB (-1000) 1000 xs := rfl

theorem keepB_len {lo hi : Int} {xs : List Int} (h : keepB lo hi xs = true) : 1 ≤ xs.length ∧ xs.length ≤ 4 := by
  simp [keepB] at h; omega

theorem keepB_at {lo hi : Int} {xs : List Int} (h : keepB lo hi xs = true) {i : Nat} (hi' : i < xs.length) : lo ≤ nth xs i ∧ nth xs i ≤ hi := by
  simp only [keepB, Bool.and_eq_true, List.all_eq_true, decide_eq_true_eq] at h
  have := h.2 xs[i] (List.getElem_mem hi')
  simpa [nth, List.getD, hi'] using this

theorem keepB_mk {lo hi : Int} {xs : List Int} (h1 : 1 ≤ xs.length) (h4 : xs.length ≤ 4) (h : ∀ i, i < xs.length → lo ≤ nth xs i ∧ nth xs i ≤ hi) : keepB lo hi xs = true := by
  simp only [keepB, Bool.and_eq_true, List.all_eq_true, decide_eq_true_eq]
  refine ⟨⟨h1, h4⟩, fun x hx => ?_⟩
  obtain ⟨i, hi, rfl⟩ := List.getElem_of_mem hx
  have := h i hi
  simpa [nth, List.getD, hi] using this

theorem keepB_short {lo hi : Int} {xs : List Int} (h : xs.length < 1) : keepB lo hi xs = false := by simp [keepB]; omega
theorem keepB_long {lo hi : Int} {xs : List Int} (h : 4 < xs.length) : keepB lo hi xs = false := by simp [keepB]; omega
theorem keepB_out {lo hi : Int} {xs : List Int} (i : Nat) (hl : i < xs.length) (h : nth xs i < lo ∨ hi < nth xs i) : keepB lo hi xs = false := by
  rcases hb : keepB lo hi xs with _ | _
  · rfl
  · have := keepB_at hb hl; omega

end Go.Proofs.Ytiddimmifjklmaa
