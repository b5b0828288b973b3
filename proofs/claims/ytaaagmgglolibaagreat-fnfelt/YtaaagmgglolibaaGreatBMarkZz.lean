import Derived.Test.YtaaagmgglolibaaGreatBCopyZz
import Derived.Test.YtaaagmgglolibaaGreatMovedSZz
namespace Go.Proofs.YtaaagmgglolibaaGreat
open Go Go.RowKit
def Z9 (base : Nat) (w : World) (g c : Nat) (xs : List Int) : Prop := w.ownsRow base 2 1 (.slice (some ⟨g, 0, none⟩) xs.length c) xs.length (xs.map (Value.int .i64))
theorem Z9.lt {base : Nat} {w : World} {g c : Nat} {xs : List Int} (h : Z9 base w g c xs) : base <= g /\ g < w.heap.size := World.ownsRow.lt h g rfl
theorem Z9.seg {base : Nat} {w : World} {g c : Nat} {xs : List Int} (h : Z9 base w g c xs) : Seg w g 0 xs := fun i hi => by
 rw [Nat.zero_add, World.ownsRow.cellAt h i (by omega)]
 simp [nth, List.getD, hi]
theorem Z9.view {base : Nat} {w : World} {g c : Nat} {xs : List Int} (h : Z9 base w g c xs) : Zp w (some ⟨g, 0, none⟩) xs := Or.inr ⟨g, 0, rfl, h.lt.2, h.seg⟩
theorem Z9.kept {base : Nat} {w w' : World} {g c : Nat} {r : Option Nat} {xs : List Int} (h : Z9 base w g c xs) (hg : w.grownBy w' r) (hr : some g ≠ r) : Z9 base w' g c xs := World.ownsRow.kept h hg (Or.inr hr)
theorem Z9.below {base : Nat} {w w' : World} {g c : Nat} {xs : List Int} (h : Z9 base w g c xs) (hw : Below w.heap.size w w') : Z9 base w' g c xs :=
 h.kept (r := none) ⟨hw.os, hw.tape, hw.output, hw.size, fun i hi _ => hw.block i hi⟩ (by simp)
theorem Z9.mono {base base' : Nat} {w : World} {g c : Nat} {xs : List Int} (h : Z9 base w g c xs) (hb : base' <= base) : Z9 base' w g c xs :=
 ⟨h.1, h.2.imp id fun ⟨g, cap, cur, h1, h2, h3⟩ => ⟨g, cap, cur, h1, Nat.le_trans hb h2, h3⟩⟩
theorem Z9.start (w : World) (base : Nat) (hb : base <= w.heap.size) : Z9 base (w.alloc (.cells #[] 2)) w.heap.size 0 [] := World.ownsRow_lit w #[] 0 hb (Nat.zero_le _) rfl
theorem Z9.of {base : Nat} {w : World} {g c n : Nat} {xs : List Int} {ys : List Value} (h : w.ownsRow base 2 1 (.slice (some ⟨g, 0, none⟩) n c) n ys) (hn : n = xs.length) (hx : ys = xs.map (Value.int .i64)) : Z9 base w g c xs := by
 subst hn hx; exact h
def ZkH (base : Nat) (w : World) (v : Value) (xs : List Int) : Prop := (v = .slice none 0 0 /\ xs = []) \/ ∃ g c, v = .slice (some ⟨g, 0, none⟩) xs.length c /\ Z9 base w g c xs
theorem ZkH.view {base : Nat} {w : World} {v : Value} {xs : List Int} (h : ZkH base w v xs) : ∃ ao c, v = .slice ao xs.length c /\ Zp w ao xs := by
 rcases h with ⟨rfl, rfl⟩ | ⟨g, c, rfl, hr⟩
 · exact ⟨none, 0, rfl, Or.inl rfl⟩
 · exact ⟨_, c, rfl, hr.view⟩
theorem ZkH.slice {base c n : Nat} {w : World} {ao : Option Addr} {xs : List Int} (h : ZkH base w (.slice ao n c) xs) : Zp w ao xs := by
 obtain ⟨a', c', e', h'⟩ := h.view
 injection e' with e1 e2 e3
 rw [e1]; exact h'
end Go.Proofs.YtaaagmgglolibaaGreat
