/-
  What stays of boxes and rows when marks, or other rows, are written over (no program is named here, save the type of a box's block).
-/
import Derived.Test.YtadcpiljhhfcpaaMMark
import Derived.Test.YtadcpiljhhfcpaaBMark2
namespace Go.Proofs.Ytadcpiljhhfcpaa
open Go Go.RowKit

/-- A slice that reads as the list xs and lies ahead of block n. -/
def EV (n : Nat) (w : World) (ao : Option Addr) (xs : List Int) : Prop := xs = [] ∨ ∃ b off, ao = some ⟨b, off, none⟩ ∧ b < n ∧ b < w.heap.size ∧ Seg w b off xs
theorem EV.view {n : Nat} {w : World} {ao : Option Addr} {xs : List Int} (h : EV n w ao xs) : View w ao xs := h.imp id fun ⟨b, off, e, _, hb, hs⟩ => ⟨b, off, e, hb, hs⟩
theorem View.ev {n : Nat} {w : World} {ao : Option Addr} {xs : List Int} (h : View w ao xs) (hn : w.heap.size ≤ n) : EV n w ao xs := h.imp id fun ⟨b, off, e, hb, hs⟩ => ⟨b, off, e, Nat.lt_of_lt_of_le hb hn, hb, hs⟩
theorem EV.below {n : Nat} {w w' : World} {ao : Option Addr} {xs : List Int} (h : EV n w ao xs) (hb : Below w.heap.size w w') : EV n w' ao xs := h.imp id fun ⟨b, off, e, hn, hl, hs⟩ => ⟨b, off, e, hn, Nat.lt_of_lt_of_le hl hb.size, hs.below hl hb⟩
theorem EV.mono {n m : Nat} {w : World} {ao : Option Addr} {xs : List Int} (h : EV n w ao xs) (hm : n ≤ m) : EV m w ao xs := h.imp id fun ⟨b, off, e, hn, hl, hs⟩ => ⟨b, off, e, Nat.lt_of_lt_of_le hn hm, hl, hs⟩
theorem EV.kept {n : Nat} {w w' : World} {ao : Option Addr} {xs : List Int} (h : EV n w ao xs) (hs : w.heap.size ≤ w'.heap.size) (hb : ∀ i, i < n → i < w.heap.size → w'.heap[i]? = w.heap[i]?) : EV n w' ao xs :=
  h.imp id fun ⟨b, off, e, hn, hl, hc⟩ => ⟨b, off, e, hn, Nat.lt_of_lt_of_le hl hs, fun i hi => (World.cell?_of_block (w := w) (a := ⟨b, off + i, none⟩) (hb b hn hl)).trans (hc i hi)⟩
theorem EV.gin {n lo hi : Nat} {w w' : World} {ao : Option Addr} {xs : List Int} (h : EV n w ao xs) (g : GIn lo hi w w') (hn : n ≤ lo) : EV n w' ao xs :=
  h.kept g.2.2.2.1 fun i h1 h2 => g.2.2.2.2 i h2 (Or.inl (Nat.lt_of_lt_of_le h1 hn))
theorem EV.chg {n : Nat} {w w' : World} {v u : Value} {ao : Option Addr} {xs : List Int} (h : EV n w ao xs) (g : ChgW v u w w') (hv : ∀ a n' c, v = .slice (some a) n' c → n ≤ a.block) (hu : ∀ a n' c, u = .slice (some a) n' c → n ≤ a.block) : EV n w' ao xs :=
  h.kept g.2.2.2.1 fun i h1 h2 => g.2.2.2.2 i h2 (fun a n' c e => by have := hv a n' c e; omega) (fun a n' c e => by have := hu a n' c e; omega)
theorem Two.gin {lo hi p : Nat} {w w' : World} {u v : Value} {t : TypeId} (h : Two w p u v t) (g : GIn lo hi w w') (hp : p < lo ∨ hi ≤ p) : Two w' p u v t := (g.2.2.2.2 p h.lt hp).trans h
theorem Two.chg {p : Nat} {w w' : World} {x y u v : Value} {t : TypeId} (h : Two w p u v t) (g : ChgW x y w w') (hx : ∀ a n c, x = .slice (some a) n c → p ≠ a.block) (hy : ∀ a n c, y = .slice (some a) n c → p ≠ a.block) : Two w' p u v t := (g.2.2.2.2 p h.lt hx hy).trans h
theorem IOut.gin {lo hi base : Nat} {w w' : World} {v : Value} {xs : List Int} (h : IOut base w v xs) (g : GIn lo hi w w') (hb : hi ≤ base) : IOut base w' v xs := by
  refine h.imp id fun ⟨b, c, e, hr⟩ => ⟨b, c, e, ?_⟩
  have hq := g.2.2.2.2 b hr.lt.2 (Or.inr (Nat.le_trans hb hr.lt.1))
  obtain ⟨k1, k2 | ⟨g', c', cur, e1, h3, h4, h5⟩⟩ := hr
  · exact ⟨k1, Or.inl k2⟩
  · refine ⟨k1, Or.inr ⟨g', c', cur, e1, h3, ?_, h5⟩⟩
    injection e1 with e2 e3 e4
    have : g' = b := by simp at e2; omega
    subst this
    rw [hq]; exact h4

end Go.Proofs.Ytadcpiljhhfcpaa
