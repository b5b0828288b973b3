/-
  Drawn marks, told by their cells, all in blocks from base on (no function of the program is named here).
-/
import Derived.Test.YtbmljcpeonopmaaMRowZz
import Derived.Test.YtbmljcpeonopmaaMCellsZz
namespace Go.Proofs.Ytbmljcpeonopmaa
open Go Go.RowKit

/-- The place of mark i is told unless i is 'skip'. -/
def MHigh (base : Nat) (w : World) (g : Nat) (ms : List Mk) (skip : Nat) : Prop :=
  base ≤ g ∧ g < w.heap.size ∧ (∀ i, i < ms.length → w.cell? ⟨g, i * 2, none⟩ = some (.int .i64 (mid ms i)) ∧ (∃ v, w.cell? ⟨g, i * 2 + 1, none⟩ = some v)) ∧
  ∀ i, i < ms.length → i ≠ skip → ∃ b cap, w.cell? ⟨g, i * 2 + 1, none⟩ = some (.slice (some ⟨b, 0, none⟩) (mat ms i).length cap) ∧ base ≤ b ∧ b < w.heap.size ∧ b ≠ g ∧ Seg w b 0 (mat ms i)

theorem MHigh.kept {base : Nat} {w w' : World} {g skip : Nat} {ms : List Mk} {r : Option Nat} (h : MHigh base w g ms skip) (hg : w.grownBy w' r) (hr : ∀ q, r = some q → q < base) : MHigh base w' g ms skip := by
  have hne : ∀ k, base ≤ k → some k ≠ r := fun k hk e => by have := hr k e.symm; omega
  obtain ⟨h1, h2, h3, h4⟩ := h
  refine ⟨h1, Nat.lt_of_lt_of_le h2 hg.size, fun i hi => ?_, fun i hi his => ?_⟩
  · rw [cell_grown h2 hg (hne g h1), cell_grown h2 hg (hne g h1)]; exact h3 i hi
  · obtain ⟨b, cap, e, hb, hbs, hbg, hs⟩ := h4 i hi his
    exact ⟨b, cap, by rw [cell_grown h2 hg (hne g h1)]; exact e, hb, Nat.lt_of_lt_of_le hbs hg.size, hbg, seg_grown hs hbs hg (hne b hb)⟩
theorem MHigh.view {base : Nat} {w : World} {g skip : Nat} {ms : List Mk} (h : MHigh base w g ms skip) (hs : ms.length ≤ skip) : MView w (some ⟨g, 0, none⟩) ms :=
  Or.inr ⟨g, 0, rfl, h.2.1, fun i hi => by
    rw [Nat.zero_add]
    obtain ⟨b, cap, e, _, hb, _, hv⟩ := h.2.2.2 i hi (by omega)
    exact ⟨(h.2.2.1 i hi).1, _, cap, e, Or.inr ⟨b, 0, rfl, hb, hv⟩⟩⟩
theorem MHigh.grow {base : Nat} {w : World} {g skip : Nat} {ms : List Mk} (h : MHigh base w g ms ms.length) : MHigh base w g ms skip :=
  ⟨h.1, h.2.1, h.2.2.1, fun i hi _ => h.2.2.2 i hi (by omega)⟩

theorem dMarks_mid (ds : List Dm) (i : Nat) (h : i < ds.length) : mid (dMarks ds) i = (mdnth ds i).1 := by rw [← mnth_1, dMarks_at ds i h]
theorem dMarks_mat (ds : List Dm) (i : Nat) (h : i < ds.length) : mat (dMarks ds) i = (mdnth ds i).2.2.2 := by rw [← mnth_2, dMarks_at ds i h]
theorem DRow.high {base : Nat} {w : World} {g c : Nat} {ds : List Dm} (h : DRow base w g c ds) (skip : Nat) : MHigh base w g (dMarks ds) skip := by
  refine ⟨h.lt.1, h.lt.2, fun i hi => ?_, fun i hi _ => ?_⟩
  · rw [dMarks_length] at hi
    rw [dMarks_mid ds i hi]
    exact ⟨(h.cells i hi).1, _, (h.cells i hi).2⟩
  · rw [dMarks_length] at hi
    rw [dMarks_mat ds i hi]
    obtain ⟨hr, hne⟩ := h.2.1 _ (mdnth_mem ds i hi)
    exact ⟨_, _, (h.cells i hi).2, hr.lt2.1, hr.lt2.2, hne, hr.seg⟩
/-- Behind a step that writes into the place of mark y alone. -/
theorem DRow.highBut {base : Nat} {w w' : World} {g c y : Nat} {ds : List Dm} (h : DRow base w g c ds) (hy : y < ds.length) (hg : w.grownBy w' (some (mdnth ds y).2.1)) : MHigh base w' g (dMarks ds) y := by
  have hgy : some g ≠ some (mdnth ds y).2.1 := fun e => (h.2.1 _ (mdnth_mem ds y hy)).2 (by injection e with e; exact e.symm)
  refine ⟨h.lt.1, Nat.lt_of_lt_of_le h.lt.2 hg.size, fun i hi => ?_, fun i hi his => ?_⟩
  · rw [dMarks_length] at hi
    rw [dMarks_mid ds i hi, cell_grown h.lt.2 hg hgy, cell_grown h.lt.2 hg hgy]
    exact ⟨(h.cells i hi).1, _, (h.cells i hi).2⟩
  · rw [dMarks_length] at hi
    rw [dMarks_mat ds i hi, cell_grown h.lt.2 hg hgy]
    obtain ⟨hr, hne⟩ := h.2.1 _ (mdnth_mem ds i hi)
    refine ⟨_, _, (h.cells i hi).2, hr.lt2.1, Nat.lt_of_lt_of_le hr.lt2.2 hg.size, hne, seg_grown hr.seg hr.lt2.2 hg ?_⟩
    intro e
    injection e with e
    have hp := List.pairwise_iff_getElem.1 h.2.2
    simp only [mdnth, List.getD, List.getElem?_eq_getElem hi, List.getElem?_eq_getElem hy, Option.getD_some] at e
    rcases Nat.lt_or_ge i y with hlt | hge
    · have := hp i y hi hy hlt; omega
    · have := hp y i hy hi (by omega); omega

theorem mid_set (ms : List Mk) (y i : Nat) (m : Mk) (hi : i < ms.length) : mid (ms.set y m) i = if i = y then m.1 else mid ms i := by
  unfold mid
  by_cases h : i = y
  · subst h; simp [List.getD, hi]
  · simp [List.getD, h, Ne.symm h]
theorem mat_set (ms : List Mk) (y i : Nat) (m : Mk) (hi : i < ms.length) : mat (ms.set y m) i = if i = y then m.2 else mat ms i := by
  unfold mat
  by_cases h : i = y
  · subst h; simp [List.getD, hi]
  · simp [List.getD, h, Ne.symm h]
theorem seg_setOther {w : World} {b off : Nat} {xs : List Int} (h : Seg w b off xs) {a : Addr} (ha : b ≠ a.block) (v : Value) : Seg (w.setCell a v) b off xs := fun i hi =>
  (World.cell?_of_block (w := w) (a := ⟨b, off + i, none⟩) (Below.heap_setCell w a v b ha)).trans (h i hi)

theorem MHigh.setId {base : Nat} {w : World} {g skip y : Nat} {ms : List Mk} (h : MHigh base w g ms skip) (hy : y < ms.length) (v : Int) :
    MHigh base (w.setCell ⟨g, y * 2, none⟩ (.int .i64 v)) g (ms.set y (v, mat ms y)) skip := by
  obtain ⟨h1, h2, h3, h4⟩ := h
  refine ⟨h1, by rw [setCell_size]; exact h2, fun i hi => ?_, fun i hi his => ?_⟩
  · rw [List.length_set] at hi
    rw [mid_set ms y i _ hi, cell_setOther _ _ _ _ _ (by omega : y * 2 ≠ i * 2 + 1)]
    refine ⟨?_, (h3 i hi).2⟩
    by_cases e : i = y
    · subst e; rw [if_pos rfl]; exact World.cell?_setCell_same _ _ _ (h3 i hi).1
    · rw [if_neg e, cell_setOther _ _ _ _ _ (by omega)]; exact (h3 i hi).1
  · rw [List.length_set] at hi
    obtain ⟨b, cap, e, hb, hbs, hbg, hs⟩ := h4 i hi his
    have hm : mat (ms.set y (v, mat ms y)) i = mat ms i := by rw [mat_set ms y i _ hi]; split <;> simp_all
    rw [hm, cell_setOther _ _ _ _ _ (by omega : y * 2 ≠ i * 2 + 1)]
    exact ⟨b, cap, e, hb, by rw [setCell_size]; exact hbs, hbg, seg_setOther hs hbg _⟩
theorem MHigh.setAt {base : Nat} {w : World} {g y b' cap' : Nat} {ms : List Mk} {xs : List Int} (h : MHigh base w g ms y) (hy : y < ms.length) (hb' : base ≤ b') (hs' : b' < w.heap.size) (hne : b' ≠ g) (hx : Seg w b' 0 xs) :
    MHigh base (w.setCell ⟨g, y * 2 + 1, none⟩ (.slice (some ⟨b', 0, none⟩) xs.length cap')) g (ms.set y (mid ms y, xs)) ms.length := by
  obtain ⟨h1, h2, h3, h4⟩ := h
  refine ⟨h1, by rw [setCell_size]; exact h2, fun i hi => ?_, fun i hi _ => ?_⟩
  · rw [List.length_set] at hi
    have hm : mid (ms.set y (mid ms y, xs)) i = mid ms i := by rw [mid_set ms y i _ hi]; split <;> simp_all
    rw [hm, cell_setOther _ _ _ _ _ (by omega : y * 2 + 1 ≠ i * 2)]
    refine ⟨(h3 i hi).1, ?_⟩
    by_cases e : i = y
    · subst e
      obtain ⟨v, hv⟩ := (h3 i hi).2
      exact ⟨_, World.cell?_setCell_same _ _ _ hv⟩
    · rw [cell_setOther _ _ _ _ _ (by omega)]; exact (h3 i hi).2
  · rw [List.length_set] at hi
    rw [mat_set ms y i _ hi]
    by_cases e : i = y
    · subst e
      obtain ⟨v, hv⟩ := (h3 i hi).2
      rw [if_pos rfl]
      exact ⟨b', cap', World.cell?_setCell_same _ _ _ hv, hb', by rw [setCell_size]; exact hs', hne, seg_setOther hx hne _⟩
    · obtain ⟨b, cap, e1, hb, hbs, hbg, hs⟩ := h4 i hi e
      rw [if_neg e, cell_setOther _ _ _ _ _ (by omega)]
      exact ⟨b, cap, e1, hb, by rw [setCell_size]; exact hbs, hbg, seg_setOther hs hbg _⟩

/-- What a draw of whatever marks hands back. -/
def MNew (base : Nat) (w : World) (g c : Nat) (ms : List Mk) (most : Int) : Prop := (ms.length : Int) ≤ most ∧ ms.length ≤ c ∧ MHigh base w g ms ms.length ∧ ∀ i, (mat ms i).length ≤ 5
theorem MNew.view {base : Nat} {w : World} {g c : Nat} {ms : List Mk} {most : Int} (h : MNew base w g c ms most) : MView w (some ⟨g, 0, none⟩) ms := h.2.2.1.view (Nat.le_refl _)
theorem MNew.kept {base : Nat} {w w' : World} {g c : Nat} {ms : List Mk} {most : Int} {r : Option Nat} (h : MNew base w g c ms most) (hg : w.grownBy w' r) (hr : ∀ q, r = some q → q < base) : MNew base w' g c ms most :=
  ⟨h.1, h.2.1, h.2.2.1.kept hg hr, h.2.2.2⟩
theorem MNew.small {base : Nat} {w : World} {g c : Nat} {ms : List Mk} {most : Int} (h : MNew base w g c ms most) (hm : most ≤ 60) : MSmall ms := ⟨by have := h.1; omega, fun i => by have := h.2.2.2 i; omega⟩

end Go.Proofs.Ytbmljcpeonopmaa
