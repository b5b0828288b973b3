/-
  The laws' draws of points: whatever the bytes are, each draw hands back rows of new memory, of at most five numbers.
-/
import Derived.Test.YtiddimmifjklmaaCur
namespace Go.Proofs.Ytiddimmifjklmaa
open Go Go.RowKit

theorem Cur.lt {w : World} {q : Nat} {ao : Option Addr} {n cap : Nat} (h : Cur w q ao n cap) : q < w.heap.size := by
  obtain ⟨i, x, _, h⟩ := h
  rcases Nat.lt_or_ge q w.heap.size with h1 | h1
  · exact h1
  · rw [Array.getElem?_eq_none h1] at h; cases h
theorem Cur.grown {w w' : World} {q : Nat} {r : Option Nat} {ao : Option Addr} {n cap : Nat} (h : Cur w q ao n cap) (hg : w.grownBy w' r) (hne : some q ≠ r) : Cur w' q ao n cap := by
  have := h.lt
  obtain ⟨i, x, hi, hb⟩ := h
  exact ⟨i, x, hi, (hg.block q this hne).trans hb⟩
theorem Cur.alloc {w : World} {q : Nat} {ao : Option Addr} {n cap : Nat} (h : Cur w q ao n cap) (o : Obj) : Cur (w.alloc o) q ao n cap := h.grown (World.grownBy_alloc w o none) (by simp)
theorem Cur.drew {w : World} {q : Nat} {ao : Option Addr} {n cap : Nat} (h : Cur w q ao n cap) : Cur w.drew q ao n cap := h
/-- Behind a step that writes into a row of the call's own alone. -/
theorem grown_far {w w1 w2 : World} {q : Nat} {r : Option Nat} (h : w.grownBy w1 (some q)) (k : w1.grownBy w2 r) (hr : ∀ g, r = some g → w.heap.size ≤ g) : w.grownBy w2 (some q) :=
  ⟨k.os.trans h.os, k.tape.trans h.tape, k.output.trans h.output, Nat.le_trans h.size k.size, fun i hi hne => (k.block i (Nat.lt_of_lt_of_le hi h.size) (fun e => by have := hr i e.symm; omega)).trans (h.block i hi hne)⟩

theorem six_at (y : Nat) (h : y < 6) : ∃ v, (#[.int .i64 1000, .int .i64 (-1000), .int .i64 1001, .int .i64 (-1001), .int .i64 4611686018427387904, .int .i64 (-9223372036854775808)] : Array Value)[y]? = some (.int .i64 v) := by
  match y, h with
  | 0, _ => exact ⟨_, rfl⟩
  | 1, _ => exact ⟨_, rfl⟩
  | 2, _ => exact ⟨_, rfl⟩
  | 3, _ => exact ⟨_, rfl⟩
  | 4, _ => exact ⟨_, rfl⟩
  | 5, _ => exact ⟨_, rfl⟩

/-- What a draw of numbers hands back: a row of its own, from block base on. -/
def Row (base : Nat) (w : World) (g c : Nat) (xs : List Int) : Prop := w.ownsRow base 2 1 (.slice (some ⟨g, 0, none⟩) xs.length c) xs.length (xs.map (Value.int .i64))

theorem Row.view {base : Nat} {w : World} {g c : Nat} {xs : List Int} (h : Row base w g c xs) : View w (some ⟨g, 0, none⟩) xs := own_view h

theorem CodeV.below {w w' : World} {B : Nat} {ao : Option Addr} {n : Nat} (hv : CodeV w ao n) (hB : w.heap.size ≤ B) (hw : Below B w w') : CodeV w' ao n := by
  rcases hv with h | ⟨b, off, rfl, hb, hby⟩
  · exact Or.inl h
  · exact Or.inr ⟨b, off, rfl, Nat.lt_of_lt_of_le hb hw.size, fun j hj => by
      obtain ⟨x, h1, h2, hx⟩ := hby j hj
      exact ⟨x, h1, h2, (hw.cell (p := ⟨b, off + j, none⟩) (by show b < B; omega)).trans hx⟩⟩

end Go.Proofs.Ytiddimmifjklmaa
