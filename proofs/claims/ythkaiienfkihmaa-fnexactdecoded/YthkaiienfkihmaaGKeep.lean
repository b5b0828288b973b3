/-
  What stays of rows of numbers while other rows are written over.
-/
import Derived.Test.YthkaiienfkihmaaBMark
import Derived.Test.YthkaiienfkihmaaMMark
namespace Go.Proofs.Ythkaiienfkihmaa
open Go Go.RowKit

theorem IRow.same {base : Nat} {w w' : World} {g c : Nat} {xs : List Int} (h : IRow base w g c xs) (e : w'.heap[g]? = w.heap[g]?) : IRow base w' g c xs := by
  obtain ⟨h1, h2⟩ := h
  refine ⟨h1, ?_⟩
  rcases h2 with h2 | ⟨g', cp, cur, e1, h3, h4, h5⟩
  · exact Or.inl h2
  · have hg : g = g' := by injection e1 with e2; injection e2 with e2; injection e2
    subst hg
    exact Or.inr ⟨g, cp, cur, e1, h3, e.trans h4, h5⟩
theorem IOut.same {base : Nat} {w w' : World} {v : Value} {xs : List Int} (h : IOut base w v xs) (e : ∀ i, base ≤ i → i < w.heap.size → w'.heap[i]? = w.heap[i]?) : IOut base w' v xs := by
  rcases h with h | ⟨g, c, e1, hr⟩
  · exact Or.inl h
  · exact Or.inr ⟨g, c, e1, hr.same (e g hr.lt.1 hr.lt.2)⟩
theorem GIn.irow {lo hi base : Nat} {w w' : World} {g c : Nat} {xs : List Int} (h : GIn lo hi w w') (hr : IRow base w g c xs) (hg : g < lo ∨ hi ≤ g) : IRow base w' g c xs := hr.same (h.2.2.2.2 g hr.lt.2 hg)
theorem GIn.iout {lo hi base : Nat} {w w' : World} {v : Value} {xs : List Int} (h : GIn lo hi w w') (ho : IOut base w v xs) (hb : hi ≤ base) : IOut base w' v xs := ho.same fun i h1 h2 => h.2.2.2.2 i h2 (Or.inr (by omega))
theorem ChgV.irow {base : Nat} {w w' : World} {v : Value} {g c : Nat} {xs : List Int} (h : ChgV v w w') (hr : IRow base w g c xs) (hg : ∀ a n d, v = .slice (some a) n d → g ≠ a.block) : IRow base w' g c xs := hr.same (h.2.2.2.2 g hr.lt.2 hg)
theorem below_chgV {w w1 w2 : World} {v : Value} (h : Below w.heap.size w w1) (c : ChgV v w1 w2) (hv : ∀ a n d, v = .slice (some a) n d → w.heap.size ≤ a.block) : Below w.heap.size w w2 :=
  h.trans ⟨c.1, c.2.1, c.2.2.1, c.2.2.2.1, fun k hk => c.2.2.2.2 k (Nat.lt_of_lt_of_le hk h.size) (fun a n d e => by have := hv a n d e; omega)⟩
theorem below_farI {w w1 w2 : World} {r : Option Nat} (h : Below w.heap.size w w1) (hg : w1.grownBy w2 r) (hr : ∀ g, r = some g → w.heap.size ≤ g) : Below w.heap.size w w2 := h.grown hg h.size hr

end Go.Proofs.Ythkaiienfkihmaa
