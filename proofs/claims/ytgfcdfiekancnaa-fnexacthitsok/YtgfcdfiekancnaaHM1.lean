/-
  The program's own Swap, Len and Pop of hits.
-/
import Derived.Test.YtgfcdfiekancnaaHM0
import Derived.Test.YtgfcdfiekancnaaHCopy
import Derived.Test.YtgfcdfiekancnaaHeap
import Derived.RegionTactic
import Derived.ChangeAlike
import Derived.BigRegion
namespace Go.Proofs.Ytgfcdfiekancnaa
open Go Go.RowKit

set_option maxHeartbeats 1600000 in
theorem iSwap (base g c i j : Nat) (l : List Ht) (w : World) (hr : HRow base w g c l) (hi : i < l.length) (hj : j < l.length) :
    Calls Try.prog 114 #[.slice (some ⟨g, 0, none⟩) l.length c, .int .i64 i, .int .i64 j] w fun e w' => e = .returned (.tuple #[]) ∧ HRow base w' g c (swapL l i j) ∧ w.grownBy w' (some g) := by
  obtain ⟨hc0, hc1⟩ := hr.seg i hi
  obtain ⟨hd0, hd1⟩ := hr.seg j hj
  rw [Nat.zero_add] at hc0 hc1 hd0 hd1
  have hfi0 := World.ownsRow.frozenAt hr (i * 2)
  have hfi1 := World.ownsRow.frozenAt hr (i * 2 + 1)
  have hfj0 := World.ownsRow.frozenAt hr (j * 2)
  have hfj1 := World.ownsRow.frozenAt hr (j * 2 + 1)
  have h1 := hr.store i (hnth l j)
  obtain ⟨he0, he1⟩ := h1.seg j (by simpa using hj)
  rw [Nat.zero_add] at he0 he1
  have HR := hidP (h1.store j (hnth l i))
  have HG : Hid (w.grownBy ((((w.setCell ⟨g, i * 2, none⟩ (.int .i64 (hnth l j).1)).setCell ⟨g, i * 2 + 1, none⟩ (.int .i64 (hnth l j).2)).setCell ⟨g, j * 2, none⟩ (.int .i64 (hnth l i).1)).setCell ⟨g, j * 2 + 1, none⟩ (.int .i64 (hnth l i).2)) (some g)) := grown_set (grown_set (grown_set (grown_set (grown_refl w _))))
  have hgi0 : (0 : Int) ≤ (i : Int) := by omega
  have hgi : (i : Int) < (l.length : Int) := by omega
  have hgj0 : (0 : Int) ≤ (j : Int) := by omega
  have hgj : (j : Int) < (l.length : Int) := by omega
  clear h1 hr
  go_enter Try.func114, Try.ntmps114
  go_wp2
  go_region
  go_end0
  exact ⟨rfl, HR.out, ⟨HG.out.os, HG.out.tape, HG.out.output, HG.out.size, HG.out.block⟩⟩

theorem iLen (ao : Option Addr) (n c : Nat) (w : World) :
    Calls Try.prog 70 #[.slice ao n c] w fun e w' => e = .returned (.int .i64 n) ∧ w' = w := by
  go_enter Try.func70, Try.ntmps70
  go_wp2
  go_ret
  exact ⟨rfl, rfl⟩

/-- A heap of hits in memory: the pointer's cell at p, the row at g. -/
def HAt (base : Nat) (w : World) (p g c : Nat) (l : List Ht) : Prop := p ≠ g ∧ w.heap[p]? = some (.cells #[.slice (some ⟨g, 0, none⟩) l.length c] 93 (0, 0)) ∧ HRow base w g c l
theorem block_lt {w : World} {p : Nat} {o : Obj} (h : w.heap[p]? = some o) : p < w.heap.size := by
  rcases Nat.lt_or_ge p w.heap.size with h1 | h1
  · exact h1
  · rw [Array.getElem?_eq_none h1] at h; cases h
theorem HAt.cell {base : Nat} {w : World} {p g c : Nat} {l : List Ht} (h : HAt base w p g c l) : w.cell? ⟨p, 0, none⟩ = some (.slice (some ⟨g, 0, none⟩) l.length c) := by simp [World.cell?, h.2.1]
theorem HAt.frozen {base : Nat} {w : World} {p g c : Nat} {l : List Ht} (h : HAt base w p g c l) : w.frozen? ⟨p, 0, none⟩ = false := by simp [World.frozen?, h.2.1]
theorem HAt.lt {base : Nat} {w : World} {p g c : Nat} {l : List Ht} (h : HAt base w p g c l) : p < w.heap.size := block_lt h.2.1
theorem HAt.below {base : Nat} {w w' : World} {p g c : Nat} {l : List Ht} (h : HAt base w p g c l) (hw : Below w.heap.size w w') : HAt base w' p g c l :=
  ⟨h.1, (hw.block p h.lt).trans h.2.1, h.2.2.below (Nat.le_refl _) hw⟩
theorem HAt.put {base : Nat} {w w' : World} {p g c : Nat} {l l' : List Ht} (h : HAt base w p g c l) (hr : HRow base w' g c l') (hl : l'.length = l.length) (hg : w.grownBy w' (some g)) : HAt base w' p g c l' :=
  ⟨h.1, by rw [hl]; exact (hg.block p h.lt (fun e => h.1 (by injection e))).trans h.2.1, hr⟩
theorem row_cut {base : Nat} {w : World} {g c : Nat} {l : List Ht} (h : HRow base w g c l) (n : Nat) : HRow base w g c (l.take n) := by
  obtain ⟨h1, ⟨h2, _⟩ | ⟨g', c', cur, e, hb, hh, hn, hc, hs, hx⟩⟩ := h
  · cases h2
  · injection e with e1 e2 e3
    injection e1 with e1
    injection e1 with e1
    subst e1 e3
    have ht : hCells (l.take n) = cur.toList.take ((l.take n).length * 2) := by
      have e4 : hCells l = hCells (l.take n) ++ hCells (l.drop n) := by rw [← hCells_append, List.take_append_drop]
      rw [← hCells_length, show cur.toList.take (hCells (l.take n)).length = (cur.toList.take (l.length * 2)).take (hCells (l.take n)).length by
        rw [List.take_take, hCells_length, Nat.min_eq_left]; simp; omega, hx, e4, List.take_left]
    refine ⟨hCells_length _, Or.inr ⟨g, c, cur, rfl, hb, hh, ?_, hc, hs, ht.symm⟩⟩
    simp; omega

theorem cell_setBlock (w : World) (p i q j : Nat) (v : Value) (h : p ≠ q) : (w.setCell ⟨p, i, none⟩ v).cell? ⟨q, j, none⟩ = w.cell? ⟨q, j, none⟩ := by
  exact World.cell?_setCell_far w _ _ v h
theorem setCell_block0 {w : World} {p : Nat} {u : Value} {t : TypeId} (h : w.heap[p]? = some (.cells #[u] t (0, 0))) (v : Value) : (w.setCell ⟨p, 0, none⟩ v).heap[p]? = some (.cells #[v] t (0, 0)) := by
  unfold World.setCell
  rw [Array.getElem?_modify, if_pos rfl, h]
  rfl

set_option maxHeartbeats 1600000 in
/-- The last one is handed out; one less is in the row. -/
theorem iPop (base p g c n : Nat) (l : List Ht) (w : World) (h : HAt base w p g c l) (hl : l.length = n + 1) (hn : n ≤ 1048576) :
    Calls Try.prog 113 #[.pointer (some ⟨p, 0, none⟩)] w fun e w' => e = .returned (.iface 68 (.agg #[.int .i64 (hnth l n).1, .int .i64 (hnth l n).2])) ∧ HAt base w' p g c (l.take n) ∧ w.grownBy w' (some p) := by
  obtain ⟨hc0, hc1⟩ := h.2.2.seg n (by omega)
  rw [Nat.zero_add] at hc0 hc1
  have hp := h.cell
  have hf := h.frozen
  have hcap := h.2.2.cap
  have HH := hidP h
  have HL := hidP hl
  rw [hl] at hp hcap
  have hx : wrap64 ((n : Int) + 1 - 1) = n := by unfold wrap64; omega
  have hpl := h.lt
  have hne : p ≠ w.heap.size := by omega
  obtain ⟨O, hO⟩ : ∃ O, O = Obj.cells #[.int .i64 (hnth l n).1, .int .i64 (hnth l n).2] 68 := ⟨_, rfl⟩
  have hB := (Below.refl w.heap.size w).alloc (Nat.le_refl _) O
  have h2 := h.below hB
  have hp2 := h2.cell
  have hf2 := h2.frozen
  rw [hl] at hp2
  obtain ⟨v, hv⟩ : ∃ v : Value, v = .slice (some ⟨g, 0, none⟩) n c := ⟨_, rfl⟩
  have hq0 : ((w.alloc O).setCell ⟨p, 0, none⟩ v).cell? ⟨w.heap.size, 0, none⟩ = some (.int .i64 (hnth l n).1) := by
    rw [cell_setBlock _ _ _ _ _ _ hne, hO]; simp
  have hq1 : ((w.alloc O).setCell ⟨p, 0, none⟩ v).cell? ⟨w.heap.size, 1, none⟩ = some (.int .i64 (hnth l n).2) := by
    rw [cell_setBlock _ _ _ _ _ _ hne, hO]; simp
  have HE : Hid (HAt base ((w.alloc O).setCell ⟨p, 0, none⟩ v) p g c (l.take n) ∧ w.grownBy ((w.alloc O).setCell ⟨p, 0, none⟩ v) (some p)) := by
    refine ⟨⟨h.1, ?_, ?_⟩, grown_set ⟨hB.os, hB.tape, hB.output, hB.size, fun i hi _ => hB.block i hi⟩⟩
    · rw [setCell_block0 (h2.2.1) v, hv, List.length_take, hl, Nat.min_eq_left (by omega)]
    · exact row_cut (h2.2.2.kept (r := some p) (grown_set (grown_refl _ _)) (fun e => h.1 (by injection e with e; exact e.symm))) n
  rw [World.setCell_alloc_past O p 0 v hpl] at HE
  subst hO hv
  clear h hl h2 hB
  go_enter Try.func113, Try.ntmps113
  go_wp2
  go_ret
  exact ⟨rfl, HE.out.1, HE.out.2⟩

end Go.Proofs.Ytgfcdfiekancnaa
