/-
  The program's own Swap, Len and Pop of hits.
  container/heap's down and Init over the program's hits.
  container/heap's Init and Pop over the program's hits, and the program's own next.
  The program's own next, hasId, first and upTo.
-/
import Derived.Test.YtbmljcpeonopmaaHSpecZz
import Derived.Test.YtbmljcpeonopmaaWithZz
import Derived.Test.YtbmljcpeonopmaaMathZz
import Derived.RegionTactic
import Derived.ChangeAlike
import Derived.BigRegion
namespace Go.Proofs.Ytbmljcpeonopmaa
open Go Go.RowKit

theorem block_lt {w : World} {p : Nat} {o : Obj} (h : w.heap[p]? = some o) : p < w.heap.size := by
  rcases Nat.lt_or_ge p w.heap.size with h1 | h1
  · exact h1
  · rw [Array.getElem?_eq_none h1] at h; cases h
theorem cell_setBlock (w : World) (p i q j : Nat) (v : Value) (h : p ≠ q) : (w.setCell ⟨p, i, none⟩ v).cell? ⟨q, j, none⟩ = w.cell? ⟨q, j, none⟩ := by
  exact World.cell?_setCell_far w _ _ v h
theorem setCell_block0 {w : World} {p : Nat} {u : Value} {t : TypeId} (h : w.heap[p]? = some (.cells #[u] t (0, 0))) (v : Value) : (w.setCell ⟨p, 0, none⟩ v).heap[p]? = some (.cells #[v] t (0, 0)) := by
  unfold World.setCell
  rw [Array.getElem?_modify, if_pos rfl, h]
  rfl

end Go.Proofs.Ytbmljcpeonopmaa
namespace Go.Proofs.Ytbmljcpeonopmaa
open Go Go.RowKit

theorem swapL_far (l : List Ht) (i j k : Nat) (hi : i < l.length) (hj : j < l.length) (h1 : k ≠ i) (h2 : k ≠ j) : hnth (swapL l i j) k = hnth l k := by
  rcases Nat.lt_or_ge k l.length with h | h
  · rw [swapL_at l i j k hi hj h, if_neg h2, if_neg h1]
  · simp [hnth, List.getD, swapL, h]
end Go.Proofs.Ytbmljcpeonopmaa
namespace Go.Proofs.Ytbmljcpeonopmaa
open Go Go.RowKit

/-- Of the blocks that were there, at most p and g have changed. -/
def Chg (p g : Nat) (w w' : World) : Prop := w'.os = w.os ∧ w'.tape = w.tape ∧ w'.output = w.output ∧ w.heap.size ≤ w'.heap.size ∧ ∀ i, i < w.heap.size → i ≠ p → i ≠ g → w'.heap[i]? = w.heap[i]?
theorem Chg.refl (p g : Nat) (w : World) : Chg p g w w := ⟨rfl, rfl, rfl, Nat.le_refl _, fun _ _ _ _ => rfl⟩
theorem Chg.trans {p g : Nat} {w w1 w2 : World} (h : Chg p g w w1) (k : Chg p g w1 w2) : Chg p g w w2 :=
  ⟨k.1.trans h.1, k.2.1.trans h.2.1, k.2.2.1.trans h.2.2.1, Nat.le_trans h.2.2.2.1 k.2.2.2.1, fun i hi h1 h2 => (k.2.2.2.2 i (Nat.lt_of_lt_of_le hi h.2.2.2.1) h1 h2).trans (h.2.2.2.2 i hi h1 h2)⟩
theorem Chg.row {p g : Nat} {w w' : World} (h : w.grownBy w' (some g)) : Chg p g w w' := ⟨h.os, h.tape, h.output, h.size, fun i hi _ h2 => h.block i hi (fun e => h2 (by injection e))⟩
theorem Chg.ptr {p g : Nat} {w w' : World} (h : w.grownBy w' (some p)) : Chg p g w w' := ⟨h.os, h.tape, h.output, h.size, fun i hi h1 _ => h.block i hi (fun e => h1 (by injection e))⟩
theorem Chg.below {p g : Nat} {w w' : World} (h : Below w.heap.size w w') : Chg p g w w' := ⟨h.os, h.tape, h.output, h.size, fun i hi _ _ => h.block i hi⟩
theorem Chg.far {p g q : Nat} {w w1 w2 : World} (h : Chg p g w w1) (k : w1.grownBy w2 (some q)) (hq : w.heap.size ≤ q) : Chg p g w w2 :=
  ⟨k.os.trans h.1, k.tape.trans h.2.1, k.output.trans h.2.2.1, Nat.le_trans h.2.2.2.1 k.size, fun i hi h1 h2 => (k.block i (Nat.lt_of_lt_of_le hi h.2.2.2.1) (fun e => by injection e with e; omega)).trans (h.2.2.2.2 i hi h1 h2)⟩

theorem take_last {l : List Ht} {n : Nat} (h : l.length = n + 1) : l.take n ++ [hnth l n] = l := by
  have : hnth l n = l[n] := by simp [hnth, List.getD, h]
  rw [this, List.take_append_getElem]
  exact List.take_of_length_le (by omega)
theorem heap_take {l : List Ht} {n : Nat} (h : HeapN l n) (hn : n ≤ l.length) : HeapN (l.take n) (l.take n).length := fun c h0 hc => by
  have hc2 : c < n := by simp at hc; omega
  have hp : par c < n := by unfold par; omega
  rw [hnth_take _ _ _ hc2, hnth_take _ _ _ hp]
  exact h c h0 hc2

end Go.Proofs.Ytbmljcpeonopmaa
namespace Go.Proofs.Ytbmljcpeonopmaa
open Go Go.RowKit

end Go.Proofs.Ytbmljcpeonopmaa
