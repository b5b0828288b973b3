/-
  Rows of 64-bit numbers in memory, for the laws of chapter 1 (no program is named here): 'Seg' (a row reads as a list), 'filled' (a row that a loop has filled so far).
-/
import Derived.WalkKit
import Derived.Deep.OwnRows
import Derived.Deep.Draws
import Derived.Test.YtaaagmgglolibaaGreatMathZz
namespace Go.Proofs.YtaaagmgglolibaaGreat
open Go Go.RowKit

def rowC (xs : List Int) : Array Value := (xs.map (Value.int .i64)).toArray
def filled (g : Nat → Int) (n k : Nat) : Array Value := rowC (tabL g k ++ List.replicate (n - k) 0)
def Seg (w : World) (b off : Nat) (xs : List Int) : Prop := ∀ i, i < xs.length → w.cell? ⟨b, off + i, none⟩ = some (.int .i64 (nth xs i))

theorem rowC_at (xs : List Int) (i : Nat) (h : i < xs.length) : (rowC xs)[i]? = some (.int .i64 (nth xs i)) := by
  simp [rowC, nth, List.getD, h]

theorem filled_zero (g : Nat → Int) (n : Nat) : filled g n 0 = madeCells #[.int .i64 0] n := by
  apply Array.ext
  · simp [filled, rowC, madeCells, tabL]
  · intro i h1 h2
    simp [filled, rowC, madeCells, tabL, Nat.mod_one]
theorem filled_next (g : Nat → Int) (n k : Nat) (h : k < n) : (filled g n k)[k]? = some (.int .i64 0) := by
  unfold filled rowC
  rw [List.getElem?_toArray, List.getElem?_map, List.getElem?_append_right (by rw [tabL_length]; exact Nat.le_refl _), tabL_length, Nat.sub_self, List.getElem?_replicate, if_pos (by omega)]
  rfl
theorem filled_set (g : Nat → Int) (n k : Nat) (h : k < n) : (filled g n k).setIfInBounds k (.int .i64 (g k)) = filled g n (k + 1) := by
  apply Array.ext_getElem?
  intro j
  simp only [filled, rowC, List.setIfInBounds_toArray, List.getElem?_toArray, tabL_succ]
  rw [List.getElem?_set]
  by_cases hj : k = j
  · subst hj
    rw [if_pos rfl, if_pos (by simp [tabL_length]; omega), List.getElem?_map, List.append_assoc, List.getElem?_append_right (by rw [tabL_length]; exact Nat.le_refl _), tabL_length, Nat.sub_self]
    rfl
  · rw [if_neg hj, List.getElem?_map, List.getElem?_map, List.append_assoc]
    by_cases hlt : j < k
    · rw [List.getElem?_append_left (by rw [tabL_length]; exact hlt), List.getElem?_append_left (by rw [tabL_length]; exact hlt)]
    · rw [List.getElem?_append_right (by rw [tabL_length]; omega), List.getElem?_append_right (by rw [tabL_length]; omega), tabL_length, List.getElem?_append_right (by simp; omega)]
      simp only [List.length_cons, List.length_nil, List.getElem?_replicate]
      by_cases hjn : j < n
      · rw [if_pos (by omega), if_pos (by omega)]
      · rw [if_neg (by omega), if_neg (by omega)]
theorem filled_all (g : Nat → Int) (n : Nat) : filled g n n = rowC (tabL g n) := by simp [filled]
theorem tabL_list (xs : List Int) : tabL (nth xs) xs.length = xs := by
  apply List.ext_getElem
  · simp [tabL]
  · intro i h1 h2; simp [tabL, nth, List.getD, h2]

theorem Seg.alloc {w : World} {b off : Nat} {xs : List Int} (h : Seg w b off xs) (hb : b < w.heap.size) (o : Obj) : Seg (w.alloc o) b off xs := fun i hi => by
  rw [World.cell?_alloc_past _ _ _ hb]; exact h i hi
theorem Seg.new (w : World) (xs : List Int) (t : TypeId) : Seg (w.alloc (.cells (rowC xs) t)) w.heap.size 0 xs := fun i hi => by
  rw [World.cell?_alloc_at _ _ _ _ rfl, Nat.zero_add]; exact rowC_at xs i hi
theorem Seg.below {w w' : World} {B b off : Nat} {xs : List Int} (h : Seg w b off xs) (hb : b < B) (hw : Below B w w') : Seg w' b off xs := fun i hi =>
  (hw.cell (p := ⟨b, off + i, none⟩) hb).trans (h i hi)
theorem Seg.at {w : World} {b : Nat} {xs : List Int} (h : Seg w b 0 xs) (i : Nat) (hi : i < xs.length) : w.cell? ⟨b, i, none⟩ = some (.int .i64 (nth xs i)) := by
  have := h i hi; rwa [Nat.zero_add] at this
theorem Seg.nil (w : World) (b off : Nat) : Seg w b off [] := fun i hi => by simp at hi


/-- A row of the call's own, whole. -/
def Own (w : World) (b : Nat) (xs : List Int) : Prop := w.heap[b]? = some (.cells (rowC xs) 2)
theorem Own.lt {w : World} {b : Nat} {xs : List Int} (h : Own w b xs) : b < w.heap.size := by
  rcases Nat.lt_or_ge b w.heap.size with h1 | h1
  · exact h1
  · unfold Own at h; rw [Array.getElem?_eq_none h1] at h; cases h
theorem Own.cell {w : World} {b : Nat} {xs : List Int} (h : Own w b xs) (i : Nat) : w.cell? ⟨b, i, none⟩ = (rowC xs)[i]? := by
  unfold Own at h; simp [World.cell?, h]
theorem Own.seg {w : World} {b : Nat} {xs : List Int} (h : Own w b xs) : Seg w b 0 xs := fun i hi => by
  rw [Nat.zero_add, h.cell]; exact rowC_at xs i hi
theorem Own.new (w : World) (xs : List Int) : Own (w.alloc (.cells (rowC xs) 2)) w.heap.size xs := by
  show (w.heap.push _)[w.heap.size]? = _
  simp
theorem Own.below {w w' : World} {B b : Nat} {xs : List Int} (h : Own w b xs) (hb : b < B) (hw : Below B w w') : Own w' b xs := (hw.block b hb).trans h
theorem Own.drewN {w : World} {b : Nat} {xs : List Int} (h : Own w b xs) (n : Nat) : Own (w.drewN n) b xs := h
theorem Seg.drewN {w : World} {b off : Nat} {xs : List Int} (h : Seg w b off xs) (n : Nat) : Seg (w.drewN n) b off xs := h

/-- A slice that reads as the list xs (an empty one may be nil, or lie wherever). -/
def View (w : World) (ao : Option Addr) (xs : List Int) : Prop := xs = [] ∨ ∃ b off, ao = some ⟨b, off, none⟩ ∧ b < w.heap.size ∧ Seg w b off xs
theorem Own.view {w : World} {b : Nat} {xs : List Int} (h : Own w b xs) : View w (some ⟨b, 0, none⟩) xs := Or.inr ⟨b, 0, rfl, h.lt, h.seg⟩
theorem View.below {w w' : World} {B : Nat} {ao : Option Addr} {xs : List Int} (h : View w ao xs) (hB : w.heap.size ≤ B) (hw : Below B w w') : View w' ao xs := by
  rcases h with h | ⟨b, off, e, hb, hs⟩
  · exact Or.inl h
  · exact Or.inr ⟨b, off, e, Nat.lt_of_lt_of_le hb hw.size, hs.below (Nat.lt_of_lt_of_le hb hB) hw⟩
theorem View.drewN {w : World} {ao : Option Addr} {xs : List Int} (h : View w ao xs) (n : Nat) : View (w.drewN n) ao xs := h

theorem set_new (w : World) (c : Array Value) (t : TypeId) (m k : Nat) (v : Value) :
    ((w.alloc (.cells c t)).drewN m).setCell ⟨w.heap.size, k, none⟩ v = (w.alloc (.cells (c.setIfInBounds k v) t)).drewN m := by
  show ((w.alloc (.cells c t)).setCell ⟨w.heap.size, k, none⟩ v).drewN m = _
  rw [World.setCell_alloc_at _ _ _ _ _ rfl]

theorem eq_of_nth {xs ys : List Int} (hl : xs.length = ys.length) (h : ∀ j, j < xs.length → nth xs j = nth ys j) : xs = ys := by
  apply List.ext_getElem hl
  intro i h1 h2
  have := h i h1
  simpa [nth, List.getD, h1, h2] using this

end Go.Proofs.YtaaagmgglolibaaGreat
