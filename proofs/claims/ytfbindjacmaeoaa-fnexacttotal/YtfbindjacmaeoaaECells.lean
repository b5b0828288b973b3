/-
  Rows of threads in memory: three cells a thread, its two numbers and how long it is.
-/
import Derived.Test.YtfbindjacmaeoaaEGap
import Derived.Test.YtfbindjacmaeoaaAppend
namespace Go.Proofs.Ytfbindjacmaeoaa
open Go Go.RowKit

abbrev Th := Int × Int × Int
def tnth (ts : List Th) (i : Nat) : Th := ts.getD i (0, 0, 0)
def tCells : List Th → List Value
  | [] => []
  | t :: ts => .int .i64 t.1 :: .int .i64 t.2.1 :: .int .i64 t.2.2 :: tCells ts
def TSeg (w : World) (b off : Nat) (ts : List Th) : Prop := ∀ i, i < ts.length → w.cell? ⟨b, off + i * 3, none⟩ = some (.int .i64 (tnth ts i).1) ∧ w.cell? ⟨b, off + i * 3 + 1, none⟩ = some (.int .i64 (tnth ts i).2.1) ∧ w.cell? ⟨b, off + i * 3 + 2, none⟩ = some (.int .i64 (tnth ts i).2.2)
def TView (w : World) (ao : Option Addr) (ts : List Th) : Prop := ts = [] ∨ ∃ b off, ao = some ⟨b, off, none⟩ ∧ b < w.heap.size ∧ TSeg w b off ts
/-- A row of threads of the call's own, from block base on. -/
def TRow (base : Nat) (w : World) (g c : Nat) (ts : List Th) : Prop := w.ownsRow base 41 3 (.slice (some ⟨g, 0, none⟩) ts.length c) ts.length (tCells ts)

theorem tCells_length (ts : List Th) : (tCells ts).length = ts.length * 3 := by
  induction ts with
  | nil => rfl
  | cons d ds ih => simp [tCells, ih]; omega
theorem tCells_append (ds es : List Th) : tCells (ds ++ es) = tCells ds ++ tCells es := by
  induction ds with
  | nil => rfl
  | cons d ds ih => simp [tCells, ih]
theorem tCells_at (ds : List Th) (i : Nat) (h : i < ds.length) : (tCells ds)[i * 3]? = some (.int .i64 (tnth ds i).1) ∧ (tCells ds)[i * 3 + 1]? = some (.int .i64 (tnth ds i).2.1) ∧ (tCells ds)[i * 3 + 2]? = some (.int .i64 (tnth ds i).2.2) := by
  induction ds generalizing i with
  | nil => simp at h
  | cons d ds ih =>
    match i, h with
    | 0, _ => exact ⟨rfl, rfl, rfl⟩
    | k + 1, h =>
      have := ih k (by simpa using h)
      rw [show (k + 1) * 3 = k * 3 + 1 + 1 + 1 by omega]
      exact this
theorem tCells_one (ts : List Th) : ∀ u ∈ tCells ts, u.oneCell' = true := by
  induction ts with
  | nil => intro u hu; cases hu
  | cons d ds ih =>
    intro u hu
    simp only [tCells, List.mem_cons] at hu
    rcases hu with rfl | rfl | rfl | hu
    · rfl
    · rfl
    · rfl
    · exact ih u hu
theorem tnth_drop (ts : List Th) (k i : Nat) : tnth (ts.drop k) i = tnth ts (k + i) := by simp [tnth, List.getD]
theorem tnth_take (ts : List Th) (k i : Nat) (h : i < k) : tnth (ts.take k) i = tnth ts i := by simp [tnth, List.getD, h]
theorem tnth_mem {ts : List Th} {i : Nat} (h : i < ts.length) : tnth ts i ∈ ts := by simp [tnth, List.getD, h]
theorem tnth_get {ts : List Th} {i : Nat} (h : i < ts.length) : tnth ts i = ts[i] := by simp [tnth, List.getD, h]
theorem ts_eq {ts ks : List Th} (hl : ts.length = ks.length) (h : ∀ i, i < ts.length → tnth ts i = tnth ks i) : ts = ks := by
  apply List.ext_getElem hl
  intro i h1 h2
  have := h i h1
  simpa [tnth, List.getD, h1, h2] using this

theorem TSeg.below {w w' : World} {B b off : Nat} {ts : List Th} (h : TSeg w b off ts) (hb : b < B) (hw : Below B w w') : TSeg w' b off ts := fun i hi =>
  ⟨(hw.cell (p := ⟨b, off + i * 3, none⟩) hb).trans (h i hi).1, (hw.cell (p := ⟨b, off + i * 3 + 1, none⟩) hb).trans (h i hi).2.1, (hw.cell (p := ⟨b, off + i * 3 + 2, none⟩) hb).trans (h i hi).2.2⟩
theorem TSeg.drop {w : World} {b off : Nat} {ts : List Th} (h : TSeg w b off ts) (k : Nat) : TSeg w b (off + k * 3) (ts.drop k) := fun i hi => by
  have := h (k + i) (by simp at hi; omega)
  rw [tnth_drop, show off + k * 3 + i * 3 = off + (k + i) * 3 by omega]
  exact this
theorem TSeg.take {w : World} {b off : Nat} {ts : List Th} (h : TSeg w b off ts) (k : Nat) : TSeg w b off (ts.take k) := fun i hi => by
  have hi2 : i < k ∧ i < ts.length := by simp at hi; omega
  rw [tnth_take ts k i hi2.1]
  exact h i hi2.2
theorem TView.below {w w' : World} {B : Nat} {ao : Option Addr} {ts : List Th} (h : TView w ao ts) (hB : w.heap.size ≤ B) (hw : Below B w w') : TView w' ao ts := by
  rcases h with h | ⟨b, off, e, hb, hs⟩
  · exact Or.inl h
  · exact Or.inr ⟨b, off, e, Nat.lt_of_lt_of_le hb hw.size, hs.below (Nat.lt_of_lt_of_le hb hB) hw⟩
theorem TView.next {w w' : World} {ao : Option Addr} {ts : List Th} (h : TView w ao ts) (hw : Below w.heap.size w w') : TView w' ao ts := h.below (Nat.le_refl _) hw
theorem TView.drewN {w : World} {ao : Option Addr} {ts : List Th} (h : TView w ao ts) (n : Nat) : TView (w.drewN n) ao ts := h
theorem TView.drew {w : World} {ao : Option Addr} {ts : List Th} (h : TView w ao ts) : TView w.drew ao ts := h
theorem TView.seg {w : World} {ao : Option Addr} {ts : List Th} (h : TView w ao ts) (h0 : 0 < ts.length) : ∃ b off, ao = some ⟨b, off, none⟩ ∧ b < w.heap.size ∧ TSeg w b off ts := by
  rcases h with h | h
  · subst h; simp at h0
  · exact h

theorem TSeg.src {w : World} {b off : Nat} {ts : List Th} (h : TSeg w b off ts) (j : Nat) (u : Value) (hu : (tCells ts)[j]? = some u) : w.cell? ((⟨b, off, none⟩ : Addr).add j) = some u := by
  have hj : j < ts.length * 3 := by
    rcases Nat.lt_or_ge j (ts.length * 3) with h1 | h1
    · exact h1
    · rw [List.getElem?_eq_none (by rw [tCells_length]; exact h1)] at hu; cases hu
  rw [Go.WideShapes.add_plain]
  have hi : j / 3 < ts.length := by omega
  have hc := tCells_at ts (j / 3) hi
  have hs := h (j / 3) hi
  have hm : j % 3 = 0 ∨ j % 3 = 1 ∨ j % 3 = 2 := by omega
  rcases hm with e | e | e
  · have ej : j = j / 3 * 3 := by omega
    rw [ej] at hu ⊢
    rw [hs.1]; rw [hc.1] at hu; exact hu
  · have ej : j = j / 3 * 3 + 1 := by omega
    rw [ej] at hu ⊢
    rw [← Nat.add_assoc, hs.2.1]; rw [hc.2.1] at hu; exact hu
  · have ej : j = j / 3 * 3 + 2 := by omega
    rw [ej] at hu ⊢
    rw [← Nat.add_assoc, hs.2.2]; rw [hc.2.2] at hu; exact hu
theorem TView.src {w : World} {ao : Option Addr} {ts : List Th} (h : TView w ao ts) : SrcAt w 3 ao ts.length (tCells ts) := by
  refine ⟨tCells_length ts, tCells_one ts, ?_⟩
  rcases h with h | ⟨b, off, rfl, _, hs⟩
  · subst h; exact Or.inl rfl
  · exact Or.inr ⟨_, rfl, hs.src⟩

theorem TRow.lt {base : Nat} {w : World} {g c : Nat} {ts : List Th} (h : TRow base w g c ts) : base ≤ g ∧ g < w.heap.size := World.ownsRow.lt h g rfl
theorem TRow.seg {base : Nat} {w : World} {g c : Nat} {ts : List Th} (h : TRow base w g c ts) : TSeg w g 0 ts := fun i hi => by
  have := tCells_at ts i hi
  rw [Nat.zero_add, World.ownsRow.cellAt h _ (by omega), World.ownsRow.cellAt h _ (by omega), World.ownsRow.cellAt h _ (by omega)]
  exact this
theorem TRow.view {base : Nat} {w : World} {g c : Nat} {ts : List Th} (h : TRow base w g c ts) : TView w (some ⟨g, 0, none⟩) ts := Or.inr ⟨g, 0, rfl, h.lt.2, h.seg⟩
theorem TRow.cap {base : Nat} {w : World} {g c : Nat} {ts : List Th} (h : TRow base w g c ts) : ts.length ≤ c := by
  obtain ⟨_, ⟨h1, _⟩ | ⟨g', c', cur, h1, _, _, h2, _⟩⟩ := h
  · cases h1
  · injection h1 with e1 e2 e3
    omega
theorem TRow.mono {base base' : Nat} {w : World} {g c : Nat} {ts : List Th} (h : TRow base w g c ts) (hb : base' ≤ base) : TRow base' w g c ts :=
  ⟨h.1, h.2.imp id fun ⟨g, cap, cur, h1, h2, h3⟩ => ⟨g, cap, cur, h1, Nat.le_trans hb h2, h3⟩⟩
theorem TRow.kept {base : Nat} {w w' : World} {g c : Nat} {r : Option Nat} {ts : List Th} (h : TRow base w g c ts) (hg : w.grownBy w' r) (hr : some g ≠ r) : TRow base w' g c ts :=
  World.ownsRow.kept h hg (Or.inr hr)
theorem TRow.below {base B : Nat} {w w' : World} {g c : Nat} {ts : List Th} (h : TRow base w g c ts) (hB : w.heap.size ≤ B) (hw : Below B w w') : TRow base w' g c ts :=
  World.ownsRow.kept h (row := none) ⟨hw.os, hw.tape, hw.output, hw.size, fun i hi _ => hw.block i (Nat.lt_of_lt_of_le hi hB)⟩ (Or.inr (by simp [Value.ownBlock]))
theorem TRow.start (w : World) (base : Nat) (hb : base ≤ w.heap.size) : TRow base (w.alloc (.cells #[] 41)) w.heap.size 0 [] := World.ownsRow_lit w #[] 0 hb (Nat.zero_le _) rfl
theorem TRow.of {base : Nat} {w : World} {g c n : Nat} {ts : List Th} {xs : List Value} (h : w.ownsRow base 41 3 (.slice (some ⟨g, 0, none⟩) n c) n xs) (hn : n = ts.length) (hx : xs = tCells ts) : TRow base w g c ts := by
  subst hn hx; exact h
theorem TRow.snoc {base : Nat} {w : World} {g c : Nat} {ts : List Th} {t : Th} (h : w.ownsRow base 41 3 (.slice (some ⟨g, 0, none⟩) (ts.length + 1) c) (ts.length + 1) (tCells ts ++ tCells [t])) : TRow base w g c (ts ++ [t]) := by
  unfold TRow
  rw [List.length_append, List.length_singleton, tCells_append]
  exact h
theorem one_srcT {w : World} {n : Nat} {t : Th} (hb : w.heap[n]? = some (.cells #[.int .i64 t.1, .int .i64 t.2.1, .int .i64 t.2.2] 41 (0, 0))) : SrcAt w 3 (some ⟨n, 0, none⟩) 1 (tCells [t]) :=
  ⟨rfl, tCells_one [t], Or.inr ⟨_, rfl, World.news_of_block (cs := #[.int .i64 t.1, .int .i64 t.2.1, .int .i64 t.2.2]) hb⟩⟩

end Go.Proofs.Ytfbindjacmaeoaa
