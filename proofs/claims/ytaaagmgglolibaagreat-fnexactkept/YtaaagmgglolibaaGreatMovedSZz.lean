/-
  The given Moved: a slice that reads as the plain sum of two points, or as nothing.
  The program's own Moved; the laws' helpers that write numbers into a row and look for them again.
  The laws' cursor over the bytes of a draw: whatever the bytes are, a number that is drawn lies in its range.
  The laws' draws of points: whatever the bytes are, each draw hands back rows of new memory, of at most five numbers.
-/
import Derived.Test.YtaaagmgglolibaaGreatCopyZz
import Derived.Deep.RegionHeld3
import Derived.Deep.AppendLies
namespace Go.Proofs.YtaaagmgglolibaaGreat
open Go Go.RowKit

theorem own_view {w : World} {base g cap n : Nat} {xs : List Int} (h : w.ownsRow base 2 1 (.slice (some ⟨g, 0, none⟩) n cap) n (xs.map (Value.int .i64))) : View w (some ⟨g, 0, none⟩) xs := by
  have hl : xs.length = n := by have := h.1; simpa using this
  refine Or.inr ⟨g, 0, rfl, (h.lt g rfl).2, fun i hi => ?_⟩
  rw [Nat.zero_add, h.cellAt i (by omega)]
  simp [nth, List.getD, hi]

end Go.Proofs.YtaaagmgglolibaaGreat
namespace Go.Proofs.YtaaagmgglolibaaGreat
open Go Go.RowKit

/-- A slice of the call's own, from block base on (an empty one may be nil). -/
def OwnV (base : Nat) (w : World) (ao : Option Addr) (xs : List Int) : Prop := xs = [] ∨ ∃ b, ao = some ⟨b, 0, none⟩ ∧ base ≤ b ∧ Own w b xs
theorem OwnV.view {base : Nat} {w : World} {ao : Option Addr} {xs : List Int} (h : OwnV base w ao xs) : View w ao xs := by
  rcases h with h | ⟨b, rfl, _, h⟩
  · exact Or.inl h
  · exact h.view
theorem OwnV.below {base B : Nat} {w w' : World} {ao : Option Addr} {xs : List Int} (h : OwnV base w ao xs) (hB : w.heap.size ≤ B) (hw : Below B w w') : OwnV base w' ao xs := by
  rcases h with h | ⟨b, e, hb, h⟩
  · exact Or.inl h
  · exact Or.inr ⟨b, e, hb, h.below (Nat.lt_of_lt_of_le h.lt hB) hw⟩

theorem Own.set {w : World} {b : Nat} {xs : List Int} (h : Own w b xs) (k : Nat) (v : Int) : Own (w.setCell ⟨b, k, none⟩ (.int .i64 v)) b (xs.set k v) := by
  unfold Own at h ⊢
  simp only [World.setCell, Array.getElem?_modify, h]
  simp [rowC, List.map_set]
theorem Own.grown {w w' : World} {b c : Nat} {xs : List Int} (h : Own w b xs) (hg : w.grownBy w' (some c)) (hne : b ≠ c) : Own w' b xs :=
  (hg.block b h.lt (by simp; omega)).trans h
theorem grown_set {w w' : World} {b k : Nat} {v : Value} (hg : w.grownBy w' (some b)) : w.grownBy (w'.setCell ⟨b, k, none⟩ v) (some b) :=
  ⟨hg.os, hg.tape, hg.output, by simpa [World.setCell] using hg.size, fun q hq hne => by
    rw [Below.heap_setCell _ _ _ _ (by intro e; exact hne (by rw [e]))]; exact hg.block q hq hne⟩
theorem OwnV.grown {base c : Nat} {w w' : World} {ao : Option Addr} {xs : List Int} (h : OwnV base w ao xs) (hg : w.grownBy w' (some c)) (hc : c < base) : OwnV base w' ao xs := by
  rcases h with h | ⟨b, e, hb, h⟩
  · exact Or.inl h
  · exact Or.inr ⟨b, e, hb, h.grown hg (by omega)⟩
theorem Own.frozen {w : World} {b : Nat} {xs : List Int} (h : Own w b xs) (i : Nat) : w.frozen? ⟨b, i, none⟩ = false := by
  unfold Own at h; simp [World.frozen?, h]

/-- The row while it is being marked: the first k places hold k0, k0 + 1, .. -/
def marked (k0 : Int) (xs : List Int) (k : Nat) : List Int := tabL (fun i => k0 + i) k ++ xs.drop k
theorem marked_length (k0 : Int) (xs : List Int) (k : Nat) (h : k ≤ xs.length) : (marked k0 xs k).length = xs.length := by simp [marked, tabL_length]; omega
theorem marked_set (k0 : Int) (xs : List Int) (k : Nat) (h : k < xs.length) : (marked k0 xs k).set k (k0 + k) = marked k0 xs (k + 1) := by
  unfold marked
  rw [List.set_append_right _ _ (by rw [tabL_length]; exact Nat.le_refl _), tabL_length, Nat.sub_self, tabL_succ, List.append_assoc, List.drop_eq_getElem_cons h]
  rfl
theorem marked_all (k0 : Int) (xs : List Int) : marked k0 xs xs.length = tabL (fun i => k0 + i) xs.length := by simp [marked]

set_option maxHeartbeats 400000 in
theorem mark_nil (ao : Option Addr) (cap : Nat) (k0 : Int) (w : World) :
    Calls Tryz.prog 79 #[.slice ao 0 cap, .int .i64 k0] w fun e w' => e = .returned (.int .i64 k0) ∧ w' = w := by
  go_enter Tryz.func79, Tryz.ntmps79
  go_wp2
  refine wp_loop_rounds 1 ?_
  rw [rounds_succ]
  go_wp2
  go_ret
  exact ⟨rfl, rfl⟩

set_option maxHeartbeats 400000 in
theorem held_nil (ao : Option Addr) (cap : Nat) (k0 : Int) (w : World) :
    Calls Tryz.prog 94 #[.slice ao 0 cap, .int .i64 k0] w fun e w' => e = .returned (.int .i64 k0) ∧ w' = w := by
  go_enter Tryz.func94, Tryz.ntmps94
  go_wp2
  refine wp_loop_rounds 1 ?_
  rw [rounds_succ]
  go_wp2
  go_ret
  exact ⟨rfl, rfl⟩

end Go.Proofs.YtaaagmgglolibaaGreat
namespace Go.Proofs.YtaaagmgglolibaaGreat
open Go Go.RowKit

/-- The bytes of a draw, wherever they lie. -/
def CodeV (w : World) (ao : Option Addr) (n : Nat) : Prop := n = 0 ∨ ∃ b off, ao = some ⟨b, off, none⟩ ∧ b < w.heap.size ∧ ∀ j, j < n → ∃ x : Int, 0 ≤ x ∧ x ≤ 255 ∧ w.cell? ⟨b, off + j, none⟩ = some (.int .u8 x)
/-- A cursor in block q. -/
def Cur (w : World) (q : Nat) (ao : Option Addr) (n cap : Nat) : Prop := ∃ (i : Nat) (h : Int), i ≤ n ∧ w.heap[q]? = some (.cells #[.slice ao n cap, .int .i64 i, .int .i64 h] 214 (0, 0))

theorem cell_of {w : World} {q : Nat} {cs : Array Value} {t : TypeId} (h : w.heap[q]? = some (.cells cs t (0, 0))) (i : Nat) : w.cell? ⟨q, i, none⟩ = cs[i]? := by simp [World.cell?, h]
theorem grown_refl (w : World) (r : Option Nat) : w.grownBy w r := ⟨rfl, rfl, rfl, Nat.le_refl _, fun _ _ _ => rfl⟩
theorem code_ne {w : World} {q b o : Nat} {ao : Option Addr} {n cap : Nat} {i h x : Int} (hb : w.heap[q]? = some (.cells #[.slice ao n cap, .int .i64 i, .int .i64 h] 214 (0, 0))) (hx : w.cell? ⟨b, o, none⟩ = some (.int .u8 x)) : b ≠ q := by
  intro e
  subst e
  rw [cell_of hb] at hx
  match o, hx with
  | 0, hx => simp at hx
  | 1, hx => simp at hx
  | 2, hx => simp at hx
  | k + 3, hx => simp at hx

theorem CodeV.grown {w w' : World} {q : Nat} {ao : Option Addr} {n cap : Nat} (hv : CodeV w ao n) (hc : Cur w q ao n cap) (hg : w.grownBy w' (some q)) : CodeV w' ao n := by
  rcases hv with h | ⟨b, off, rfl, hb, hby⟩
  · exact Or.inl h
  · rcases Nat.eq_zero_or_pos n with h0 | h0
    · exact Or.inl h0
    · refine Or.inr ⟨b, off, rfl, Nat.lt_of_lt_of_le hb hg.size, fun j hj => ?_⟩
      obtain ⟨x, h1, h2, hx⟩ := hby j hj
      obtain ⟨i, h, _, hq⟩ := hc
      exact ⟨x, h1, h2, hg.cell hx (by have := code_ne hq hx; simpa using this)⟩

theorem grown_trans {w w1 w2 : World} {q : Nat} (h : w.grownBy w1 (some q)) (k : w1.grownBy w2 (some q)) : w.grownBy w2 (some q) :=
  ⟨k.os.trans h.os, k.tape.trans h.tape, k.output.trans h.output, Nat.le_trans h.size k.size, fun i hi hne => (k.block i (Nat.lt_of_lt_of_le hi h.size) hne).trans (h.block i hi hne)⟩

end Go.Proofs.YtaaagmgglolibaaGreat
namespace Go.Proofs.YtaaagmgglolibaaGreat
open Go Go.RowKit

theorem Cur.lt {w : World} {q : Nat} {ao : Option Addr} {n cap : Nat} (h : Cur w q ao n cap) : q < w.heap.size := by
  obtain ⟨i, x, _, h⟩ := h
  rcases Nat.lt_or_ge q w.heap.size with h1 | h1
  · exact h1
  · rw [Array.getElem?_eq_none h1] at h; cases h
theorem Cur.grown {w w' : World} {q : Nat} {r : Option Nat} {ao : Option Addr} {n cap : Nat} (h : Cur w q ao n cap) (hg : w.grownBy w' r) (hne : some q ≠ r) : Cur w' q ao n cap := by
  have := h.lt
  obtain ⟨i, x, hi, hb⟩ := h
  exact ⟨i, x, hi, (hg.block q this hne).trans hb⟩
theorem Cur.alloc {w : World} {q : Nat} {ao : Option Addr} {n cap : Nat} (h : Cur w q ao n cap) (o : Obj) : Cur (w.alloc o) q ao n cap := h.grown (World.grownBy_alloc w o none) (by simp)
theorem Cur.drew {w : World} {q : Nat} {ao : Option Addr} {n cap : Nat} (h : Cur w q ao n cap) : Cur w.drew q ao n cap := h
/-- What a draw of numbers hands back: a row of its own, from block base on. -/
def Row (base : Nat) (w : World) (g c : Nat) (xs : List Int) : Prop := w.ownsRow base 2 1 (.slice (some ⟨g, 0, none⟩) xs.length c) xs.length (xs.map (Value.int .i64))

theorem Row.view {base : Nat} {w : World} {g c : Nat} {xs : List Int} (h : Row base w g c xs) : View w (some ⟨g, 0, none⟩) xs := own_view h

theorem CodeV.below {w w' : World} {B : Nat} {ao : Option Addr} {n : Nat} (hv : CodeV w ao n) (hB : w.heap.size ≤ B) (hw : Below B w w') : CodeV w' ao n := by
  rcases hv with h | ⟨b, off, rfl, hb, hby⟩
  · exact Or.inl h
  · exact Or.inr ⟨b, off, rfl, Nat.lt_of_lt_of_le hb hw.size, fun j hj => by
      obtain ⟨x, h1, h2, hx⟩ := hby j hj
      exact ⟨x, h1, h2, (hw.cell (p := ⟨b, off + j, none⟩) (by show b < B; omega)).trans hx⟩⟩

end Go.Proofs.YtaaagmgglolibaaGreat
