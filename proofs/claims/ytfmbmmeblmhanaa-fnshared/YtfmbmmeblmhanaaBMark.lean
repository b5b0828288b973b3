/-
  Rows of numbers that a call hands out (of whatever room), and boxes of them: written over, and held.
-/
import Derived.Test.YtfmbmmeblmhanaaBCopy
import Derived.Test.YtfmbmmeblmhanaaMark
namespace Go.Proofs.Ytfmbmmeblmhanaa
open Go Go.RowKit

/-- A row of numbers of the call's own, from block base on. -/
def IRow (base : Nat) (w : World) (g c : Nat) (xs : List Int) : Prop := w.ownsRow base 2 1 (.slice (some ⟨g, 0, none⟩) xs.length c) xs.length (xs.map (Value.int .i64))
theorem IRow.lt {base : Nat} {w : World} {g c : Nat} {xs : List Int} (h : IRow base w g c xs) : base ≤ g ∧ g < w.heap.size := World.ownsRow.lt h g rfl
theorem IRow.seg {base : Nat} {w : World} {g c : Nat} {xs : List Int} (h : IRow base w g c xs) : Seg w g 0 xs := fun i hi => by
  rw [Nat.zero_add, World.ownsRow.cellAt h i (by omega)]
  simp [nth, List.getD, hi]
theorem IRow.view {base : Nat} {w : World} {g c : Nat} {xs : List Int} (h : IRow base w g c xs) : View w (some ⟨g, 0, none⟩) xs := Or.inr ⟨g, 0, rfl, h.lt.2, h.seg⟩
theorem IRow.kept {base : Nat} {w w' : World} {g c : Nat} {r : Option Nat} {xs : List Int} (h : IRow base w g c xs) (hg : w.grownBy w' r) (hr : some g ≠ r) : IRow base w' g c xs := World.ownsRow.kept h hg (Or.inr hr)
theorem IRow.below {base : Nat} {w w' : World} {g c : Nat} {xs : List Int} (h : IRow base w g c xs) (hw : Below w.heap.size w w') : IRow base w' g c xs :=
  h.kept (r := none) ⟨hw.os, hw.tape, hw.output, hw.size, fun i hi _ => hw.block i hi⟩ (by simp)
theorem IRow.mono {base base' : Nat} {w : World} {g c : Nat} {xs : List Int} (h : IRow base w g c xs) (hb : base' ≤ base) : IRow base' w g c xs :=
  ⟨h.1, h.2.imp id fun ⟨g, cap, cur, h1, h2, h3⟩ => ⟨g, cap, cur, h1, Nat.le_trans hb h2, h3⟩⟩
theorem IRow.start (w : World) (base : Nat) (hb : base ≤ w.heap.size) : IRow base (w.alloc (.cells #[] 2)) w.heap.size 0 [] := World.ownsRow_lit w #[] 0 hb (Nat.zero_le _) rfl
theorem IRow.of {base : Nat} {w : World} {g c n : Nat} {xs : List Int} {ys : List Value} (h : w.ownsRow base 2 1 (.slice (some ⟨g, 0, none⟩) n c) n ys) (hn : n = xs.length) (hx : ys = xs.map (Value.int .i64)) : IRow base w g c xs := by
  subst hn hx; exact h
theorem IRow.store {base : Nat} {w : World} {g c : Nat} {xs : List Int} (h : IRow base w g c xs) (k : Nat) (v : Int) : IRow base (w.setCell ⟨g, k, none⟩ (.int .i64 v)) g c (xs.set k v) := by
  have h1 := (World.ownsRow.stored h k (.int .i64 v)).1
  unfold IRow
  rw [List.length_set, List.map_set]
  exact h1
theorem Own.irow {base : Nat} {w : World} {b : Nat} {xs : List Int} (h : Own w b xs) (hb : base ≤ b) (hn : xs.length ≤ maxLen) : IRow base w b xs.length xs := by
  refine ⟨by simp, Or.inr ⟨b, xs.length, rowC xs, rfl, hb, h, Nat.le_refl _, hn, by simp [rowC], ?_⟩⟩
  simp only [rowC, Nat.mul_one]
  exact List.take_of_length_le (by simp)

/-- Handed out: nothing, or a row of the call's own. -/
def IOut (base : Nat) (w : World) (v : Value) (xs : List Int) : Prop := (v = .slice none 0 0 ∧ xs = []) ∨ ∃ g c, v = .slice (some ⟨g, 0, none⟩) xs.length c ∧ IRow base w g c xs
theorem IOut.view {base : Nat} {w : World} {v : Value} {xs : List Int} (h : IOut base w v xs) : ∃ ao c, v = .slice ao xs.length c ∧ View w ao xs := by
  rcases h with ⟨rfl, rfl⟩ | ⟨g, c, rfl, hr⟩
  · exact ⟨none, 0, rfl, Or.inl rfl⟩
  · exact ⟨_, c, rfl, hr.view⟩
theorem IOut.slice {base c n : Nat} {w : World} {ao : Option Addr} {xs : List Int} (h : IOut base w (.slice ao n c) xs) : View w ao xs := by
  obtain ⟨a', c', e', h'⟩ := h.view
  injection e' with e1 e2 e3
  rw [e1]; exact h'
theorem IOut.below {base : Nat} {w w' : World} {v : Value} {xs : List Int} (h : IOut base w v xs) (hb : Below w.heap.size w w') : IOut base w' v xs :=
  h.imp id fun ⟨g, c, e, hr⟩ => ⟨g, c, e, hr.below hb⟩
theorem IOut.mono {base base' : Nat} {w : World} {v : Value} {xs : List Int} (h : IOut base w v xs) (hb : base' ≤ base) : IOut base' w v xs :=
  h.imp id fun ⟨g, c, e, hr⟩ => ⟨g, c, e, hr.mono hb⟩
theorem Own.out {base : Nat} {w : World} {b : Nat} {xs : List Int} (h : Own w b xs) (hb : base ≤ b) (hn : xs.length ≤ maxLen) : IOut base w (.slice (some ⟨b, 0, none⟩) xs.length xs.length) xs := Or.inr ⟨b, _, rfl, h.irow hb hn⟩
/-- Two rows that lie apart. -/
def Apart (v u : Value) : Prop := ∀ a n c b m d, v = .slice (some a) n c → u = .slice (some b) m d → a.block ≠ b.block
theorem Apart.symm {v u : Value} (h : Apart v u) : Apart u v := fun a n c b m d h1 h2 => (h b m d a n c h2 h1).symm
/-- Of the blocks that were there, at most that of v has changed. -/
def ChgV (v : Value) (w w' : World) : Prop := w'.os = w.os ∧ w'.tape = w.tape ∧ w'.output = w.output ∧ w.heap.size ≤ w'.heap.size ∧ ∀ i, i < w.heap.size → (∀ a n c, v = .slice (some a) n c → i ≠ a.block) → w'.heap[i]? = w.heap[i]?
theorem IOut.other {base : Nat} {w w' : World} {v u : Value} {xs : List Int} (h : IOut base w v xs) (hc : ChgV u w w') (ha : Apart v u) : IOut base w' v xs := by
  refine h.imp id fun ⟨g, c, e, hr⟩ => ⟨g, c, e, ?_⟩
  have hb := hc.2.2.2.2 g hr.lt.2 (fun a n d hu => ha ⟨g, 0, none⟩ _ _ a n d e hu)
  obtain ⟨k1, k2 | ⟨g', c', cur, e1, h3, h4, h5⟩⟩ := hr
  · exact ⟨k1, Or.inl k2⟩
  · refine ⟨k1, Or.inr ⟨g', c', cur, e1, h3, ?_, h5⟩⟩
    injection e1 with e2 e3 e4
    have : g' = g := by simp at e2; omega
    subst this
    rw [hb]; exact h4
end Go.Proofs.Ytfmbmmeblmhanaa
