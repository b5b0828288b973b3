/-
  The given l3Put: one hit more, at its place.
-/
import Derived.Test.YtfbindjacmaeoaaHSpecZz
import Derived.Test.YtfbindjacmaeoaaMovedSZz
namespace Go.Proofs.Ytfbindjacmaeoaa
open Go Go.RowKit

/-- What holds all through the last statement: the hit's own cells, and all that was there. -/
def PutS (w3 : World) (q : Nat) (h : Ht) (w' : World) : Prop := (w'.cell? ⟨q, 0, none⟩ = some (.int .i64 h.1) ∧ w'.cell? ⟨q, 1, none⟩ = some (.int .i64 h.2)) ∧ Below w3.heap.size w3 w'
theorem PutS.alloc {w3 w' : World} {q : Nat} {h : Ht} (hs : PutS w3 q h w') (hq : q < w3.heap.size) (o : Obj) : PutS w3 q h (w'.alloc o) := by
  have hz := hs.2.size
  have L : Below w3.heap.size w' (w'.alloc o) := (Below.refl _ _).alloc (by omega) _
  exact ⟨⟨(L.cell (p := ⟨q, 0, none⟩) hq).trans hs.1.1, (L.cell (p := ⟨q, 1, none⟩) hq).trans hs.1.2⟩, hs.2.trans L⟩
theorem PutS.grown {w3 w' w4 : World} {q n : Nat} {h : Ht} (hs : PutS w3 q h w') (hq : q < w3.heap.size) (hg : w'.grownBy w4 (some n)) (hn : w3.heap.size ≤ n) : PutS w3 q h w4 := by
  have hz := hs.2.size
  have L : Below w3.heap.size w' w4 := (Below.refl _ _).grown hg (by omega) (by intro k hk; cases hk; exact hn)
  exact ⟨⟨(L.cell (p := ⟨q, 0, none⟩) hq).trans hs.1.1, (L.cell (p := ⟨q, 1, none⟩) hq).trans hs.1.2⟩, hs.2.trans L⟩
theorem PutS.of {w3 w' : World} {q : Nat} {h : Ht} (hq : q < w3.heap.size) (e0 : w3.cell? ⟨q, 0, none⟩ = some (.int .i64 h.1)) (e1 : w3.cell? ⟨q, 1, none⟩ = some (.int .i64 h.2)) (L : Below w3.heap.size w3 w') : PutS w3 q h w' :=
  ⟨⟨(L.cell (p := ⟨q, 0, none⟩) hq).trans e0, (L.cell (p := ⟨q, 1, none⟩) hq).trans e1⟩, L⟩
theorem put_two {w3 wA : World} {E X : Obj} (hg : ((w3.alloc E).alloc X).drew.grownBy wA (some w3.heap.size)) : wA.heap[w3.heap.size + 1]? = some X := by
  rw [hg.block (w3.heap.size + 1) (by simp) (by simp)]
  show ((w3.heap.push E).push X)[w3.heap.size + 1]? = _
  rw [Array.getElem?_push]; simp
theorem put_one {w3 wA : World} {E X : Obj} (hg : ((w3.alloc X).alloc E).drew.grownBy wA (some (w3.heap.size + 1))) : wA.heap[w3.heap.size]? = some X := by
  rw [hg.block w3.heap.size (by simp; omega) (by simp)]
  show ((w3.heap.push X).push E)[w3.heap.size]? = _
  rw [Array.getElem?_push]; simp
theorem putL_split (hs : List Ht) (h : Ht) (k : Nat) (hk : k ≤ hs.length) (hall : ∀ j, j < k → aheadB h (hnth hs j) = false) (hend : k = hs.length ∨ aheadB h (hnth hs k) = true) : putL hs h = hs.take k ++ ([h] ++ hs.drop k) := by
  induction hs generalizing k with
  | nil => simp at hk; subst hk; rfl
  | cons x xs ih =>
    cases k with
    | zero =>
      have : aheadB h x = true := by
        rcases hend with h1 | h1
        · simp at h1
        · exact h1
      simp [putL, this]
    | succ k =>
      have h0 : aheadB h x = false := hall 0 (by omega)
      have := ih k (by simpa using hk) (fun j hj => hall (j + 1) (by omega)) (by
        rcases hend with h1 | h1
        · left; simpa using h1
        · right; exact h1)
      simp [putL, h0, this]

end Go.Proofs.Ytfbindjacmaeoaa
