/-
  The program's own Moved; the laws' helpers that write numbers into a row and look for them again.
-/
import Derived.Test.YtjoffjmnflmnmaaMovedS
namespace Go.Proofs.Ytjoffjmnflmnmaa
open Go Go.RowKit

theorem moved_short (a b : List Int) : (movedL a b).length ≤ 4 := by
  unfold movedL
  split
  · rename_i h
    have := (okB_len (twoB_of h).1).2
    split
    · rw [tabL_length]; exact this
    · simp
  · simp

/-- A slice of the call's own, from block base on (an empty one may be nil). -/
def OwnV (base : Nat) (w : World) (ao : Option Addr) (xs : List Int) : Prop := xs = [] ∨ ∃ b, ao = some ⟨b, 0, none⟩ ∧ base ≤ b ∧ Own w b xs
theorem OwnV.view {base : Nat} {w : World} {ao : Option Addr} {xs : List Int} (h : OwnV base w ao xs) : View w ao xs := by
  rcases h with h | ⟨b, rfl, _, h⟩
  · exact Or.inl h
  · exact h.view
theorem OwnV.below {base B : Nat} {w w' : World} {ao : Option Addr} {xs : List Int} (h : OwnV base w ao xs) (hB : w.heap.size ≤ B) (hw : Below B w w') : OwnV base w' ao xs := by
  rcases h with h | ⟨b, e, hb, h⟩
  · exact Or.inl h
  · exact Or.inr ⟨b, e, hb, h.below (Nat.lt_of_lt_of_le h.lt hB) hw⟩

theorem Own.set {w : World} {b : Nat} {xs : List Int} (h : Own w b xs) (k : Nat) (v : Int) : Own (w.setCell ⟨b, k, none⟩ (.int .i64 v)) b (xs.set k v) := by
  unfold Own at h ⊢
  simp only [World.setCell, Array.getElem?_modify, h]
  simp [rowC, List.map_set]
theorem Own.grown {w w' : World} {b c : Nat} {xs : List Int} (h : Own w b xs) (hg : w.grownBy w' (some c)) (hne : b ≠ c) : Own w' b xs :=
  (hg.block b h.lt (by simp; omega)).trans h
theorem grown_set {w w' : World} {b k : Nat} {v : Value} (hg : w.grownBy w' (some b)) : w.grownBy (w'.setCell ⟨b, k, none⟩ v) (some b) :=
  ⟨hg.os, hg.tape, hg.output, by simpa [World.setCell] using hg.size, fun q hq hne => by
    rw [Below.heap_setCell _ _ _ _ (by intro e; exact hne (by rw [e]))]; exact hg.block q hq hne⟩
theorem OwnV.grown {base c : Nat} {w w' : World} {ao : Option Addr} {xs : List Int} (h : OwnV base w ao xs) (hg : w.grownBy w' (some c)) (hc : c < base) : OwnV base w' ao xs := by
  rcases h with h | ⟨b, e, hb, h⟩
  · exact Or.inl h
  · exact Or.inr ⟨b, e, hb, h.grown hg (by omega)⟩
theorem Own.frozen {w : World} {b : Nat} {xs : List Int} (h : Own w b xs) (i : Nat) : w.frozen? ⟨b, i, none⟩ = false := by
  unfold Own at h; simp [World.frozen?, h]

/-- The row while it is being marked: the first k places hold k0, k0 + 1, .. -/
def marked (k0 : Int) (xs : List Int) (k : Nat) : List Int := tabL (fun i => k0 + i) k ++ xs.drop k
theorem marked_length (k0 : Int) (xs : List Int) (k : Nat) (h : k ≤ xs.length) : (marked k0 xs k).length = xs.length := by simp [marked, tabL_length]; omega
theorem marked_set (k0 : Int) (xs : List Int) (k : Nat) (h : k < xs.length) : (marked k0 xs k).set k (k0 + k) = marked k0 xs (k + 1) := by
  unfold marked
  rw [List.set_append_right _ _ (by rw [tabL_length]; exact Nat.le_refl _), tabL_length, Nat.sub_self, tabL_succ, List.append_assoc, List.drop_eq_getElem_cons h]
  rfl
theorem marked_all (k0 : Int) (xs : List Int) : marked k0 xs xs.length = tabL (fun i => k0 + i) xs.length := by simp [marked]

end Go.Proofs.Ytjoffjmnflmnmaa
