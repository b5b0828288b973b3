/-
  Hits that are handed out: nothing, or a row of the call's own; what an answer goes through in the exact laws.
-/
import Derived.Test.YtaaagmgglolibaaGreatHMarkZz
import Derived.Test.YtaaagmgglolibaaGreatMMarkZz
namespace Go.Proofs.YtaaagmgglolibaaGreat
open Go Go.RowKit

/-- What is handed out: nothing, or a row of the call's own. -/
def HOut (base : Nat) (w : World) (v : Value) (hs : List Ht) : Prop := (v = .slice none 0 0 ∧ hs = []) ∨ ∃ g c, v = .slice (some ⟨g, 0, none⟩) hs.length c ∧ HRow base w g c hs
theorem HOut.view {base : Nat} {w : World} {v : Value} {hs : List Ht} (h : HOut base w v hs) : ∃ ao c, v = .slice ao hs.length c ∧ HView w ao hs := by
  rcases h with ⟨rfl, rfl⟩ | ⟨g, c, rfl, hr⟩
  · exact ⟨none, 0, rfl, Or.inl rfl⟩
  · exact ⟨_, c, rfl, hr.view⟩
theorem HOut.below {base : Nat} {w w' : World} {v : Value} {hs : List Ht} (h : HOut base w v hs) (hb : Below w.heap.size w w') : HOut base w' v hs :=
  h.imp id fun ⟨g, c, e, hr⟩ => ⟨g, c, e, hr.below (Nat.le_refl _) hb⟩
theorem HOut.kept {base q : Nat} {w w' : World} {v : Value} {hs : List Ht} (h : HOut base w v hs) (hg : w.grownBy w' (some q)) (hq : q < base) : HOut base w' v hs :=
  h.imp id fun ⟨g, c, e, hr⟩ => ⟨g, c, e, hr.kept hg (fun e => by injection e with e; have := hr.lt.1; omega)⟩
theorem GIn.row {lo hi base : Nat} {w w' : World} {g c : Nat} {hs : List Ht} (h : GIn lo hi w w') (hr : HRow base w g c hs) (hg : g < lo ∨ hi ≤ g) : HRow base w' g c hs := by
  have hl := hr.lt.2
  have hb := h.2.2.2.2 g hl hg
  obtain ⟨h1, h2 | ⟨g', c', cur, e, h3, h4, h5⟩⟩ := hr
  · exact ⟨h1, Or.inl h2⟩
  · refine ⟨h1, Or.inr ⟨g', c', cur, e, h3, ?_, h5⟩⟩
    injection e with e1 e2 e3
    have : g' = g := by simp at e1; omega
    subst this
    rw [hb]; exact h4

theorem GIn.out {lo hi base : Nat} {w w' : World} {v : Value} {hs : List Ht} (h : GIn lo hi w w') (ho : HOut base w v hs) (hb : hi ≤ base) : HOut base w' v hs :=
  ho.imp id fun ⟨g, c, e, hr⟩ => ⟨g, c, e, h.row hr (Or.inr (Nat.le_trans hb hr.lt.1))⟩
theorem HOut.slice {base c : Nat} {w : World} {ao : Option Addr} {hs : List Ht} {n : Nat} (h : HOut base w (.slice ao n c) hs) : HView w ao hs := by
  obtain ⟨a', c', e', h'⟩ := h.view
  injection e' with e1 e2 e3
  rw [e1]; exact h'

end Go.Proofs.YtaaagmgglolibaaGreat
