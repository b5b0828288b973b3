/-
  The laws' own helpers on boxes: written over, and held.
-/
import Derived.Test.YthddhblmnfjciaaBMark
namespace Go.Proofs.Ythddhblmnfjciaa
open Go Go.RowKit

/-- Of the blocks that were there, at most those of v and u have changed. -/
def ChgW (v u : Value) (w w' : World) : Prop := w'.os = w.os ∧ w'.tape = w.tape ∧ w'.output = w.output ∧ w.heap.size ≤ w'.heap.size ∧ ∀ i, i < w.heap.size → (∀ a n c, v = .slice (some a) n c → i ≠ a.block) → (∀ a n c, u = .slice (some a) n c → i ≠ a.block) → w'.heap[i]? = w.heap[i]?
theorem IOut.far {base : Nat} {w w' : World} {v u x : Value} {xs : List Int} (h : IOut base w x xs) (hc : ChgW v u w w') (ha : Apart x v) (hb : Apart x u) : IOut base w' x xs := by
  refine h.imp id fun ⟨g, c, e, hr⟩ => ⟨g, c, e, ?_⟩
  have hq := hc.2.2.2.2 g hr.lt.2 (fun a n d hu => ha ⟨g, 0, none⟩ _ _ a n d e hu) (fun a n d hu => hb ⟨g, 0, none⟩ _ _ a n d e hu)
  obtain ⟨k1, k2 | ⟨g', c', cur, e1, h3, h4, h5⟩⟩ := hr
  · exact ⟨k1, Or.inl k2⟩
  · refine ⟨k1, Or.inr ⟨g', c', cur, e1, h3, ?_, h5⟩⟩
    injection e1 with e2 e3 e4
    have : g' = g := by simp at e2; omega
    subst this
    rw [hq]; exact h4
theorem IOut.block {base : Nat} {w : World} {v : Value} {xs : List Int} (h : IOut base w v xs) : ∀ a n c, v = .slice (some a) n c → base ≤ a.block ∧ a.block < w.heap.size := by
  intro a n c e
  rcases h with ⟨e1, _⟩ | ⟨g, c', e1, hr⟩
  · rw [e1] at e; cases e
  · rw [e1] at e; cases e; exact hr.lt
theorem below_chgW {w w1 w2 : World} {v u : Value} (h : Below w.heap.size w w1) (hc : ChgW v u w1 w2) (hv : ∀ a n c, v = .slice (some a) n c → w.heap.size ≤ a.block) (hu : ∀ a n c, u = .slice (some a) n c → w.heap.size ≤ a.block) : Below w.heap.size w w2 :=
  ⟨hc.1.trans h.os, hc.2.1.trans h.tape, hc.2.2.1.trans h.output, Nat.le_trans h.size hc.2.2.2.1, fun i hi => (hc.2.2.2.2 i (Nat.lt_of_lt_of_le hi h.size) (fun a n c e => by have := hv a n c e; omega) (fun a n c e => by have := hu a n c e; omega)).trans (h.block i hi)⟩
/-- A row that was handed out later than another lies apart from it. -/
theorem apart_later {base base' : Nat} {w w' : World} {v u : Value} {xs ys : List Int} (h : IOut base w v xs) (k : IOut base' w' u ys) (hb : w.heap.size ≤ base') : Apart v u := fun a n c b m d e1 e2 => by
  have h1 := h.block a n c e1
  have h2 := k.block b m d e2
  omega

end Go.Proofs.Ythddhblmnfjciaa
