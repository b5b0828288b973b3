/-
  What stays when marks are written over.
-/
import Derived.Test.YtodielfilhodeaaHMCZz
import Derived.Test.YtodielfilhodeaaMMarkZz
namespace Go.Proofs.Ytodielfilhodeaa
open Go Go.RowKit

theorem GIn.row {lo hi base : Nat} {w w' : World} {g c : Nat} {hs : List Ht} (h : GIn lo hi w w') (hr : HRow base w g c hs) (hg : g < lo ∨ hi ≤ g) : HRow base w' g c hs := by
  have hl := hr.lt.2
  have hb := h.2.2.2.2 g hl hg
  obtain ⟨h1, h2 | ⟨g', c', cur, e, h3, h4, h5⟩⟩ := hr
  · exact ⟨h1, Or.inl h2⟩
  · refine ⟨h1, Or.inr ⟨g', c', cur, e, h3, ?_, h5⟩⟩
    injection e with e1 e2 e3
    have : g' = g := by simp at e1; omega
    subst this
    rw [hb]; exact h4

theorem GIn.out {lo hi base : Nat} {w w' : World} {v : Value} {hs : List Ht} (h : GIn lo hi w w') (ho : HOut base w v hs) (hb : hi ≤ base) : HOut base w' v hs :=
  ho.imp id fun ⟨g, c, e, hr⟩ => ⟨g, c, e, h.row hr (Or.inr (Nat.le_trans hb hr.lt.1))⟩
theorem HOut.slice {base c : Nat} {w : World} {ao : Option Addr} {hs : List Ht} {n : Nat} (h : HOut base w (.slice ao n c) hs) : HView w ao hs := by
  obtain ⟨a', c', e', h'⟩ := h.view
  injection e' with e1 e2 e3
  rw [e1]; exact h'

end Go.Proofs.Ytodielfilhodeaa
