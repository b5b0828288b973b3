/-
  Drawn marks, told by their cells, all in blocks from base on (no function of the program is named here).
-/
import Derived.Test.YtaaagmgglolibaaGreatMRowZz
import Derived.Test.YtaaagmgglolibaaGreatMCellsZz
namespace Go.Proofs.YtaaagmgglolibaaGreat
open Go Go.RowKit

/-- The place of mark i is told unless i is 'skip'. -/
def MHigh (base : Nat) (w : World) (g : Nat) (ms : List Mk) (skip : Nat) : Prop :=
  base ≤ g ∧ g < w.heap.size ∧ (∀ i, i < ms.length → w.cell? ⟨g, i * 2, none⟩ = some (.int .i64 (mid ms i)) ∧ (∃ v, w.cell? ⟨g, i * 2 + 1, none⟩ = some v)) ∧
  ∀ i, i < ms.length → i ≠ skip → ∃ b cap, w.cell? ⟨g, i * 2 + 1, none⟩ = some (.slice (some ⟨b, 0, none⟩) (mat ms i).length cap) ∧ base ≤ b ∧ b < w.heap.size ∧ b ≠ g ∧ Seg w b 0 (mat ms i)

theorem MHigh.kept {base : Nat} {w w' : World} {g skip : Nat} {ms : List Mk} {r : Option Nat} (h : MHigh base w g ms skip) (hg : w.grownBy w' r) (hr : ∀ q, r = some q → q < base) : MHigh base w' g ms skip := by
  have hne : ∀ k, base ≤ k → some k ≠ r := fun k hk e => by have := hr k e.symm; omega
  obtain ⟨h1, h2, h3, h4⟩ := h
  refine ⟨h1, Nat.lt_of_lt_of_le h2 hg.size, fun i hi => ?_, fun i hi his => ?_⟩
  · rw [cell_grown h2 hg (hne g h1), cell_grown h2 hg (hne g h1)]; exact h3 i hi
  · obtain ⟨b, cap, e, hb, hbs, hbg, hs⟩ := h4 i hi his
    exact ⟨b, cap, by rw [cell_grown h2 hg (hne g h1)]; exact e, hb, Nat.lt_of_lt_of_le hbs hg.size, hbg, seg_grown hs hbs hg (hne b hb)⟩
theorem MHigh.view {base : Nat} {w : World} {g skip : Nat} {ms : List Mk} (h : MHigh base w g ms skip) (hs : ms.length ≤ skip) : MView w (some ⟨g, 0, none⟩) ms :=
  Or.inr ⟨g, 0, rfl, h.2.1, fun i hi => by
    rw [Nat.zero_add]
    obtain ⟨b, cap, e, _, hb, _, hv⟩ := h.2.2.2 i hi (by omega)
    exact ⟨(h.2.2.1 i hi).1, _, cap, e, Or.inr ⟨b, 0, rfl, hb, hv⟩⟩⟩
theorem mid_set (ms : List Mk) (y i : Nat) (m : Mk) (hi : i < ms.length) : mid (ms.set y m) i = if i = y then m.1 else mid ms i := by
  unfold mid
  by_cases h : i = y
  · subst h; simp [List.getD, hi]
  · simp [List.getD, h, Ne.symm h]
theorem mat_set (ms : List Mk) (y i : Nat) (m : Mk) (hi : i < ms.length) : mat (ms.set y m) i = if i = y then m.2 else mat ms i := by
  unfold mat
  by_cases h : i = y
  · subst h; simp [List.getD, hi]
  · simp [List.getD, h, Ne.symm h]
theorem seg_setOther {w : World} {b off : Nat} {xs : List Int} (h : Seg w b off xs) {a : Addr} (ha : b ≠ a.block) (v : Value) : Seg (w.setCell a v) b off xs := fun i hi =>
  (World.cell?_of_block (w := w) (a := ⟨b, off + i, none⟩) (Below.heap_setCell w a v b ha)).trans (h i hi)

theorem MHigh.setId {base : Nat} {w : World} {g skip y : Nat} {ms : List Mk} (h : MHigh base w g ms skip) (hy : y < ms.length) (v : Int) :
    MHigh base (w.setCell ⟨g, y * 2, none⟩ (.int .i64 v)) g (ms.set y (v, mat ms y)) skip := by
  obtain ⟨h1, h2, h3, h4⟩ := h
  refine ⟨h1, by rw [setCell_size]; exact h2, fun i hi => ?_, fun i hi his => ?_⟩
  · rw [List.length_set] at hi
    rw [mid_set ms y i _ hi, cell_setOther _ _ _ _ _ (by omega : y * 2 ≠ i * 2 + 1)]
    refine ⟨?_, (h3 i hi).2⟩
    by_cases e : i = y
    · subst e; rw [if_pos rfl]; exact World.cell?_setCell_same _ _ _ (h3 i hi).1
    · rw [if_neg e, cell_setOther _ _ _ _ _ (by omega)]; exact (h3 i hi).1
  · rw [List.length_set] at hi
    obtain ⟨b, cap, e, hb, hbs, hbg, hs⟩ := h4 i hi his
    have hm : mat (ms.set y (v, mat ms y)) i = mat ms i := by rw [mat_set ms y i _ hi]; split <;> simp_all
    rw [hm, cell_setOther _ _ _ _ _ (by omega : y * 2 ≠ i * 2 + 1)]
    exact ⟨b, cap, e, hb, by rw [setCell_size]; exact hbs, hbg, seg_setOther hs hbg _⟩
/-- What a draw of whatever marks hands back. -/
def MNew (base : Nat) (w : World) (g c : Nat) (ms : List Mk) (most : Int) : Prop := (ms.length : Int) ≤ most ∧ ms.length ≤ c ∧ MHigh base w g ms ms.length ∧ ∀ i, (mat ms i).length ≤ 5
theorem MNew.view {base : Nat} {w : World} {g c : Nat} {ms : List Mk} {most : Int} (h : MNew base w g c ms most) : MView w (some ⟨g, 0, none⟩) ms := h.2.2.1.view (Nat.le_refl _)
theorem MNew.kept {base : Nat} {w w' : World} {g c : Nat} {ms : List Mk} {most : Int} {r : Option Nat} (h : MNew base w g c ms most) (hg : w.grownBy w' r) (hr : ∀ q, r = some q → q < base) : MNew base w' g c ms most :=
  ⟨h.1, h.2.1, h.2.2.1.kept hg hr, h.2.2.2⟩
theorem MNew.small {base : Nat} {w : World} {g c : Nat} {ms : List Mk} {most : Int} (h : MNew base w g c ms most) (hm : most ≤ 60) : MSmall ms := ⟨by have := h.1; omega, fun i => by have := h.2.2.2 i; omega⟩

end Go.Proofs.YtaaagmgglolibaaGreat
