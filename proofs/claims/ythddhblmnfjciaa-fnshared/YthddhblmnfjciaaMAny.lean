/-
  The laws' draws of whatever marks and kinds.
-/
import Derived.Test.YthddhblmnfjciaaMDraw
import Derived.Test.YthddhblmnfjciaaMHigh
namespace Go.Proofs.Ythddhblmnfjciaa
open Go Go.RowKit

theorem three_at (y : Nat) (h : y < 3) : ∃ v, (#[.int .i64 0, .int .i64 4, .int .i64 (-1)] : Array Value)[y]? = some (.int .i64 v) := by
  match y, h with
  | 0, _ => exact ⟨_, rfl⟩
  | 1, _ => exact ⟨_, rfl⟩
  | 2, _ => exact ⟨_, rfl⟩
theorem four_at (y : Nat) (h : y < 4) : ∃ v, (#[.int .i64 0, .int .i64 1, .int .i64 1000000, .int .i64 1000001] : Array Value)[y]? = some (.int .i64 v) := by
  match y, h with
  | 0, _ => exact ⟨_, rfl⟩
  | 1, _ => exact ⟨_, rfl⟩
  | 2, _ => exact ⟨_, rfl⟩
  | 3, _ => exact ⟨_, rfl⟩

theorem dMarks_small {width id : Int} {ds : List Dm} (h : DGood width id ds) (hw : width ≤ 3) (i : Nat) : (mat (dMarks ds) i).length ≤ 3 := by
  rcases Nat.lt_or_ge i ds.length with hi | hi
  · rw [dMarks_mat ds i hi]
    have := (h.1 _ (mdnth_mem ds i hi)).2.2.1
    omega
  · simp [mat, dMarks, List.getD, hi]
theorem set_small {ms : List Mk} {y : Nat} {m : Mk} (h : ∀ i, (mat ms i).length ≤ 5) (hm : m.2.length ≤ 5) (i : Nat) : (mat (ms.set y m) i).length ≤ 5 := by
  rcases Nat.lt_or_ge i ms.length with hi | hi
  · rw [mat_set ms y i m hi]; split
    · exact hm
    · exact h i
  · simp [mat, List.getD, hi]

theorem DNew.any {base : Nat} {w : World} {g c : Nat} {ds : List Dm} {most : Int} (h : DNew base w g c ds most) : MNew base w g c (dMarks ds) most := by
  obtain ⟨h1, h2, width, id, h3, h4, h5, h6⟩ := h
  exact ⟨by rw [dMarks_length]; exact h1, by rw [dMarks_length]; exact h2.cap, h2.high _, fun i => by have := dMarks_small h6 h4 i; omega⟩
theorem DNew.good {base : Nat} {w : World} {g c : Nat} {ds : List Dm} {most : Int} (h : DNew base w g c ds most) (hm : most ≤ 60) : marksB (dMarks ds) = true := by
  obtain ⟨h1, h2, width, id, h3, h4, h5, h6⟩ := h
  exact h6.marks (by omega) h3 (by omega) (by omega)

theorem int3 {y : Int} (h0 : 0 ≤ y) (h1 : y < 3) : y = 0 ∨ y = 1 ∨ y = 2 := by omega

end Go.Proofs.Ythddhblmnfjciaa
