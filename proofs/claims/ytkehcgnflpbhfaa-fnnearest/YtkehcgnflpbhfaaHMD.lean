/-
  What stays when marks are written over.
-/
import Derived.Test.YtkehcgnflpbhfaaHMC
import Derived.Test.YtkehcgnflpbhfaaHMarkJ
namespace Go.Proofs.Ytkehcgnflpbhfaa
open Go Go.RowKit

theorem MOver.below {w w' : World} {b hi : Nat} {ms : List Mk} (h : MOver w b hi ms) (hh : hi ≤ w.heap.size) (hb : Below w.heap.size w w') : MOver w' b hi ms := by
  obtain ⟨h1, h2, h3, h4⟩ := h
  have hg : w.grownBy w' none := ⟨hb.os, hb.tape, hb.output, hb.size, fun i hi _ => hb.block i hi⟩
  refine ⟨Nat.lt_of_lt_of_le h1 hb.size, h2, fun j => (frozen_grown h1 hg (by simp)).trans (h3 j), fun j hj => ?_⟩
  obtain ⟨⟨v, c0⟩, g, xs, hg1, hg2, c1, hl, o⟩ := h4 j hj
  exact ⟨⟨v, (hb.cell (p := ⟨b, j * 2, none⟩) h1).trans c0⟩, g, xs, hg1, hg2, (hb.cell (p := ⟨b, j * 2 + 1, none⟩) h1).trans c1, hl, o.below (Nat.lt_of_lt_of_le hg2 hh) hb⟩
theorem GIn.out {lo hi base : Nat} {w w' : World} {v : Value} {hs : List Ht} (h : GIn lo hi w w') (ho : HOut base w v hs) (hb : hi ≤ base) : HOut base w' v hs :=
  ho.imp id fun ⟨g, c, e, hr⟩ => ⟨g, c, e, h.row hr (Or.inr (Nat.le_trans hb hr.lt.1))⟩
theorem GIn.own {lo hi b : Nat} {w w' : World} {xs : List Int} (h : GIn lo hi w w') (ho : Own w b xs) (hb : b < lo ∨ hi ≤ b) : Own w' b xs := (h.2.2.2.2 b ho.lt hb).trans ho
theorem below_gin {lo hi : Nat} {w w1 w2 : World} (h : Below w.heap.size w w1) (g : GIn lo hi w1 w2) (hl : w.heap.size ≤ lo) : Below w.heap.size w w2 :=
  ⟨g.1.trans h.os, g.2.1.trans h.tape, g.2.2.1.trans h.output, Nat.le_trans h.size g.2.2.2.1, fun k hk => (g.2.2.2.2 k (Nat.lt_of_lt_of_le hk h.size) (Or.inl (Nat.lt_of_lt_of_le hk hl))).trans (h.block k hk)⟩
theorem HOut.slice {base c : Nat} {w : World} {ao : Option Addr} {hs : List Ht} {n : Nat} (h : HOut base w (.slice ao n c) hs) : HView w ao hs := by
  obtain ⟨a', c', e', h'⟩ := h.view
  injection e' with e1 e2 e3
  rw [e1]; exact h'

end Go.Proofs.Ytkehcgnflpbhfaa
