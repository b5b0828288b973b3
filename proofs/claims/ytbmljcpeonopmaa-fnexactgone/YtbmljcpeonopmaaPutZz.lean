/-
  The given l3Put: one hit more, at its place.
  Rows of marks that share their places with other marks: what the law of merging lays.
-/
import Derived.Test.YtbmljcpeonopmaaHSpecZz
import Derived.Test.YtbmljcpeonopmaaMovedSZz
import Derived.Test.YtbmljcpeonopmaaMCellsZz
namespace Go.Proofs.Ytbmljcpeonopmaa
open Go Go.RowKit

/-- What holds all through the last statement: the hit's own cells, and all that was there. -/
def PutS (w3 : World) (q : Nat) (h : Ht) (w' : World) : Prop := (w'.cell? ⟨q, 0, none⟩ = some (.int .i64 h.1) ∧ w'.cell? ⟨q, 1, none⟩ = some (.int .i64 h.2)) ∧ Below w3.heap.size w3 w'
theorem PutS.alloc {w3 w' : World} {q : Nat} {h : Ht} (hs : PutS w3 q h w') (hq : q < w3.heap.size) (o : Obj) : PutS w3 q h (w'.alloc o) := by
  have hz := hs.2.size
  have L : Below w3.heap.size w' (w'.alloc o) := (Below.refl _ _).alloc (by omega) _
  exact ⟨⟨(L.cell (p := ⟨q, 0, none⟩) hq).trans hs.1.1, (L.cell (p := ⟨q, 1, none⟩) hq).trans hs.1.2⟩, hs.2.trans L⟩
theorem PutS.grown {w3 w' w4 : World} {q n : Nat} {h : Ht} (hs : PutS w3 q h w') (hq : q < w3.heap.size) (hg : w'.grownBy w4 (some n)) (hn : w3.heap.size ≤ n) : PutS w3 q h w4 := by
  have hz := hs.2.size
  have L : Below w3.heap.size w' w4 := (Below.refl _ _).grown hg (by omega) (by intro k hk; cases hk; exact hn)
  exact ⟨⟨(L.cell (p := ⟨q, 0, none⟩) hq).trans hs.1.1, (L.cell (p := ⟨q, 1, none⟩) hq).trans hs.1.2⟩, hs.2.trans L⟩
theorem PutS.of {w3 w' : World} {q : Nat} {h : Ht} (hq : q < w3.heap.size) (e0 : w3.cell? ⟨q, 0, none⟩ = some (.int .i64 h.1)) (e1 : w3.cell? ⟨q, 1, none⟩ = some (.int .i64 h.2)) (L : Below w3.heap.size w3 w') : PutS w3 q h w' :=
  ⟨⟨(L.cell (p := ⟨q, 0, none⟩) hq).trans e0, (L.cell (p := ⟨q, 1, none⟩) hq).trans e1⟩, L⟩
theorem put_two {w3 wA : World} {E X : Obj} (hg : ((w3.alloc E).alloc X).drew.grownBy wA (some w3.heap.size)) : wA.heap[w3.heap.size + 1]? = some X := by
  rw [hg.block (w3.heap.size + 1) (by simp) (by simp)]
  show ((w3.heap.push E).push X)[w3.heap.size + 1]? = _
  rw [Array.getElem?_push]; simp
theorem put_one {w3 wA : World} {E X : Obj} (hg : ((w3.alloc X).alloc E).drew.grownBy wA (some (w3.heap.size + 1))) : wA.heap[w3.heap.size]? = some X := by
  rw [hg.block w3.heap.size (by simp; omega) (by simp)]
  show ((w3.heap.push X).push E)[w3.heap.size]? = _
  rw [Array.getElem?_push]; simp
theorem putL_split (hs : List Ht) (h : Ht) (k : Nat) (hk : k ≤ hs.length) (hall : ∀ j, j < k → aheadB h (hnth hs j) = false) (hend : k = hs.length ∨ aheadB h (hnth hs k) = true) : putL hs h = hs.take k ++ ([h] ++ hs.drop k) := by
  induction hs generalizing k with
  | nil => simp at hk; subst hk; rfl
  | cons x xs ih =>
    cases k with
    | zero =>
      have : aheadB h x = true := by
        rcases hend with h1 | h1
        · simp at h1
        · exact h1
      simp [putL, this]
    | succ k =>
      have h0 : aheadB h x = false := hall 0 (by omega)
      have := ih k (by simpa using hk) (fun j hj => hall (j + 1) (by omega)) (by
        rcases hend with h1 | h1
        · left; simpa using h1
        · right; exact h1)
      simp [putL, h0, this]

end Go.Proofs.Ytbmljcpeonopmaa
namespace Go.Proofs.Ytbmljcpeonopmaa
open Go Go.RowKit

/-- A mark in a row: its number, where its place lies, its room, the place. -/
abbrev Sm := Int × Option Addr × Nat × List Int
def smCells : List Sm → List Value
  | [] => []
  | d :: ds => .int .i64 d.1 :: .slice d.2.1 d.2.2.2.length d.2.2.1 :: smCells ds
def smMark (d : Sm) : Mk := (d.1, d.2.2.2)
def smMarks (ds : List Sm) : List Mk := ds.map smMark
def snth (ds : List Sm) (i : Nat) : Sm := ds.getD i (0, none, 0, [])
def SRow (base : Nat) (w : World) (g c : Nat) (ds : List Sm) : Prop := w.ownsRow base 76 2 (.slice (some ⟨g, 0, none⟩) ds.length c) ds.length (smCells ds)
def SLies (W : World) (ds : List Sm) : Prop := ∀ d ∈ ds, View W d.2.1 d.2.2.2

theorem smCells_length (ds : List Sm) : (smCells ds).length = ds.length * 2 := by
  induction ds with
  | nil => rfl
  | cons d ds ih => simp [smCells, ih]; omega
theorem smCells_append (ds es : List Sm) : smCells (ds ++ es) = smCells ds ++ smCells es := by
  induction ds with
  | nil => rfl
  | cons d ds ih => simp [smCells, ih]
theorem smCells_at (ds : List Sm) (i : Nat) (h : i < ds.length) : (smCells ds)[i * 2]? = some (.int .i64 (snth ds i).1) ∧ (smCells ds)[i * 2 + 1]? = some (.slice (snth ds i).2.1 (snth ds i).2.2.2.length (snth ds i).2.2.1) := by
  induction ds generalizing i with
  | nil => simp at h
  | cons d ds ih =>
    match i, h with
    | 0, _ => exact ⟨rfl, rfl⟩
    | k + 1, h =>
      have := ih k (by simpa using h)
      rw [show (k + 1) * 2 = k * 2 + 1 + 1 by omega]
      exact this
theorem one_srcM {w : World} {n : Nat} {d : Sm} (hb : w.heap[n]? = some (.cells #[.int .i64 d.1, .slice d.2.1 d.2.2.2.length d.2.2.1] 76 (0, 0))) : SrcAt w 2 (some ⟨n, 0, none⟩) 1 (smCells [d]) :=
  ⟨rfl, fun u hu => by
    simp only [smCells, List.mem_cons, List.not_mem_nil, or_false] at hu
    rcases hu with rfl | rfl <;> rfl, Or.inr ⟨_, rfl, World.news_of_block (cs := #[.int .i64 d.1, .slice d.2.1 d.2.2.2.length d.2.2.1]) hb⟩⟩
theorem SRow.lt {base : Nat} {w : World} {g c : Nat} {ds : List Sm} (h : SRow base w g c ds) : base ≤ g ∧ g < w.heap.size := World.ownsRow.lt h g rfl
theorem SRow.kept {base : Nat} {w w' : World} {g c : Nat} {r : Option Nat} {ds : List Sm} (h : SRow base w g c ds) (hg : w.grownBy w' r) (hr : some g ≠ r) : SRow base w' g c ds := World.ownsRow.kept h hg (Or.inr hr)
theorem SRow.below {base B : Nat} {w w' : World} {g c : Nat} {ds : List Sm} (h : SRow base w g c ds) (hB : w.heap.size ≤ B) (hw : Below B w w') : SRow base w' g c ds :=
  World.ownsRow.kept h (row := none) ⟨hw.os, hw.tape, hw.output, hw.size, fun i hi _ => hw.block i (Nat.lt_of_lt_of_le hi hB)⟩ (Or.inr (by simp [Value.ownBlock]))
theorem SRow.start (w : World) (base : Nat) (hb : base ≤ w.heap.size) : SRow base (w.alloc (.cells #[] 76)) w.heap.size 0 [] := World.ownsRow_lit w #[] 0 hb (Nat.zero_le _) rfl
theorem SRow.snoc {base : Nat} {w : World} {g c : Nat} {ds : List Sm} {d : Sm} (h : w.ownsRow base 76 2 (.slice (some ⟨g, 0, none⟩) (ds.length + 1) c) (ds.length + 1) (smCells ds ++ smCells [d])) : SRow base w g c (ds ++ [d]) := by
  unfold SRow
  rw [List.length_append, List.length_singleton, smCells_append]
  exact h
theorem snth_mem {ds : List Sm} {i : Nat} (h : i < ds.length) : snth ds i ∈ ds := by simp [snth, List.getD, h]
theorem smMarks_length (ds : List Sm) : (smMarks ds).length = ds.length := by simp [smMarks]
theorem smMarks_at (ds : List Sm) (i : Nat) (h : i < ds.length) : mnth (smMarks ds) i = ((snth ds i).1, (snth ds i).2.2.2) := by simp [mnth, smMarks, snth, List.getD, h, smMark]
theorem SRow.view {base : Nat} {W w : World} {g c : Nat} {ds : List Sm} (h : SRow base w g c ds) (hs : SLies W ds) (hb : Below W.heap.size W w) : MView w (some ⟨g, 0, none⟩) (smMarks ds) := by
  refine Or.inr ⟨g, 0, rfl, h.lt.2, fun i hi => ?_⟩
  rw [smMarks_length] at hi
  rw [smMarks_at ds i hi, Nat.zero_add]
  obtain ⟨c0, c1⟩ := smCells_at ds i hi
  refine ⟨?_, (snth ds i).2.1, (snth ds i).2.2.1, ?_, (hs _ (snth_mem hi)).next hb⟩
  · rw [World.ownsRow.cellAt h _ (by omega)]; exact c0
  · rw [World.ownsRow.cellAt h _ (by omega)]; exact c1
theorem SLies.snoc {W : World} {ds : List Sm} {d : Sm} (h : SLies W ds) (hd : View W d.2.1 d.2.2.2) : SLies W (ds ++ [d]) := fun x hx => by
  rcases List.mem_append.1 hx with hx | hx
  · exact h x hx
  · simp at hx; subst hx; exact hd
theorem smMarks_snoc (ds : List Sm) (d : Sm) : smMarks (ds ++ [d]) = smMarks ds ++ [(d.1, d.2.2.2)] := by simp [smMarks, smMark]
theorem small_sub {ms l : List Mk} (h : MSmall ms) (hs : l.Sublist ms) : MSmall l :=
  ⟨Nat.le_trans hs.length_le h.1, fun i => by
    rcases Nat.lt_or_ge i l.length with hi | hi
    · have e : mat l i = l[i].2 := by simp [mat, List.getD, hi]
      obtain ⟨j, hj, e2⟩ := List.getElem_of_mem (hs.subset (List.getElem_mem hi))
      have e3 : mat ms j = ms[j].2 := by simp [mat, List.getD, hj]
      rw [e, ← e2, ← e3]; exact h.2 j
    · have e : mat l i = [] := by simp [mat, List.getD, hi]
      rw [e]; simp⟩

end Go.Proofs.Ytbmljcpeonopmaa
