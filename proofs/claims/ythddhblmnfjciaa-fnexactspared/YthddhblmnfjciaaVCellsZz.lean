/-
  Rows of balls in memory: five cells a ball, as a knot has; what is laid of a tree of balls.
-/
import Derived.Test.YthddhblmnfjciaaKHalvZz
import Derived.Test.YthddhblmnfjciaaVByZz
import Derived.Test.YthddhblmnfjciaaKCellsZz
namespace Go.Proofs.Ythddhblmnfjciaa
open Go Go.RowKit

theorem Try.info107 : (Try.prog.info? 107).map (fun i => (i.zero, i.size, i.bytes)) = some (some (.agg #[.int .i64 0, .slice none 0 0, .int .i64 0, .int .i64 0, .int .i64 0]), 5, 56) := by kernel_rfl

def BRow (base : Nat) (w : World) (g c : Nat) (ds : List Dk) : Prop := w.ownsRow base 107 5 (.slice (some ⟨g, 0, none⟩) ds.length c) ds.length (dkCells ds)

theorem BRow.lt {base : Nat} {w : World} {g c : Nat} {ds : List Dk} (h : BRow base w g c ds) : base ≤ g ∧ g < w.heap.size := World.ownsRow.lt h g rfl
theorem BRow.cap {base : Nat} {w : World} {g c : Nat} {ds : List Dk} (h : BRow base w g c ds) : ds.length ≤ c := by
  obtain ⟨_, ⟨h1, _⟩ | ⟨g', c', cur, h1, _, _, h2, _⟩⟩ := h
  · cases h1
  · injection h1 with e1 e2 e3; omega
theorem BRow.of {base : Nat} {w : World} {g c n : Nat} {ds : List Dk} {xs : List Value} (h : w.ownsRow base 107 5 (.slice (some ⟨g, 0, none⟩) n c) n xs) (hn : n = ds.length) (hx : xs = dkCells ds) : BRow base w g c ds := by
  subst hn hx; exact h
theorem BRow.kept {base : Nat} {w w' : World} {g c : Nat} {r : Option Nat} {ds : List Dk} (h : BRow base w g c ds) (hg : w.grownBy w' r) (hr : some g ≠ r) : BRow base w' g c ds := World.ownsRow.kept h hg (Or.inr hr)
theorem BRow.mono {base base' : Nat} {w : World} {g c : Nat} {ds : List Dk} (h : BRow base w g c ds) (hb : base' ≤ base) : BRow base' w g c ds :=
  ⟨h.1, h.2.imp id fun ⟨g, cap, cur, h1, h2, h3⟩ => ⟨g, cap, cur, h1, Nat.le_trans hb h2, h3⟩⟩
theorem BRow.below {base : Nat} {w w' : World} {g c : Nat} {ds : List Dk} (h : BRow base w g c ds) (hw : Below w.heap.size w w') : BRow base w' g c ds := h.kept (grown_below hw) (by simp)
theorem BRow.start (w : World) (base : Nat) (hb : base ≤ w.heap.size) : BRow base (w.alloc (.cells #[] 107)) w.heap.size 0 [] := World.ownsRow_lit w #[] 0 hb (Nat.zero_le _) rfl
theorem BRow.cell {base : Nat} {w : World} {g c : Nat} {ds : List Dk} (h : BRow base w g c ds) {i : Nat} (hi : i < ds.length) : w.cell? ⟨g, i * 5, none⟩ = some (.int .i64 (dnth ds i).1.1) ∧ w.cell? ⟨g, i * 5 + 1, none⟩ = some (.slice (dnth ds i).1.2.1 (dnth ds i).1.2.2.2.length (dnth ds i).1.2.2.1) ∧ w.cell? ⟨g, i * 5 + 2, none⟩ = some (.int .i64 (dnth ds i).2.1) ∧ w.cell? ⟨g, i * 5 + 3, none⟩ = some (.int .i64 (dnth ds i).2.2.1) ∧ w.cell? ⟨g, i * 5 + 4, none⟩ = some (.int .i64 (dnth ds i).2.2.2) := by
  obtain ⟨c0, c1, c2, c3, c4⟩ := dkCells_at ds i hi
  exact ⟨by rw [World.ownsRow.cellAt h _ (by omega)]; exact c0, by rw [World.ownsRow.cellAt h _ (by omega)]; exact c1, by rw [World.ownsRow.cellAt h _ (by omega)]; exact c2, by rw [World.ownsRow.cellAt h _ (by omega)]; exact c3, by rw [World.ownsRow.cellAt h _ (by omega)]; exact c4⟩
theorem BRow.less {base : Nat} {w : World} {g c : Nat} {pre rest : List Dk} {d : Dk} (h : BRow base w g c (pre ++ d :: rest)) (v : Int) : BRow base (w.setCell ⟨g, pre.length * 5 + 3, none⟩ (.int .i64 v)) g c (pre ++ (d.1, d.2.1, v, d.2.2.2) :: rest) := by
  have h1 := (World.ownsRow.stored h (pre.length * 5 + 3) (.int .i64 v)).1
  rw [dkCells_less] at h1
  exact BRow.of h1 (by simp) rfl
theorem BRow.more {base : Nat} {w : World} {g c : Nat} {pre rest : List Dk} {d : Dk} (h : BRow base w g c (pre ++ d :: rest)) (v : Int) : BRow base (w.setCell ⟨g, pre.length * 5 + 4, none⟩ (.int .i64 v)) g c (pre ++ (d.1, d.2.1, d.2.2.1, v) :: rest) := by
  have h1 := (World.ownsRow.stored h (pre.length * 5 + 4) (.int .i64 v)).1
  rw [dkCells_more] at h1
  exact BRow.of h1 (by simp) rfl
theorem one_srcV {w : World} {n : Nat} {d : Dk} (hb : w.heap[n]? = some (.cells #[.int .i64 d.1.1, .slice d.1.2.1 d.1.2.2.2.length d.1.2.2.1, .int .i64 d.2.1, .int .i64 d.2.2.1, .int .i64 d.2.2.2] 107 (0, 0))) : SrcAt w 5 (some ⟨n, 0, none⟩) 1 (dkCells [d]) :=
  ⟨rfl, dkCells_one [d], Or.inr ⟨_, rfl, World.news_of_block (cs := #[.int .i64 d.1.1, .slice d.1.2.1 d.1.2.2.2.length d.1.2.2.1, .int .i64 d.2.1, .int .i64 d.2.2.1, .int .i64 d.2.2.2]) hb⟩⟩

/-- What the balls of some marks are, laid behind others. -/
def LaidB (base : Nat) (w w' : World) (g g' c' : Nat) (es ks : List Dk) (t : Tr) : Prop :=
  BRow base w' g' c' (es ++ ks) ∧ ks.map dkKn = t.flat es.length ∧ KOuts w.heap.size w' g' ks ∧ w.grownBy w' (some g) ∧ (g' = g ∨ w.heap.size ≤ g')

end Go.Proofs.Ythddhblmnfjciaa
