/-
  Marks that a draw makes: a row of their own, each with a row of numbers of its own.
  The program's table of marks, less one of them.
-/
import Derived.Test.YtaaagmgglolibaaGreatMovedSZz
import Derived.Test.YtaaagmgglolibaaGreatMCellsZz
import Derived.Test.YtaaagmgglolibaaGreatBMarkZz
import Derived.Test.YtaaagmgglolibaaGreatAppendZz
namespace Go.Proofs.YtaaagmgglolibaaGreat
open Go Go.RowKit

/-- A drawn mark: its number, its place's block and room, its place. -/
abbrev Dm := Int × Nat × Nat × List Int
def dCells : List Dm → List Value
  | [] => []
  | d :: ds => .int .i64 d.1 :: .slice (some ⟨d.2.1, 0, none⟩) d.2.2.2.length d.2.2.1 :: dCells ds
def dMarks (ds : List Dm) : List Mk := ds.map fun d => (d.1, d.2.2.2)
def mdnth (ds : List Dm) (i : Nat) : Dm := ds.getD i (0, 0, 0, [])
def DRow (base : Nat) (w : World) (g c : Nat) (ds : List Dm) : Prop :=
  w.ownsRow base 29 2 (.slice (some ⟨g, 0, none⟩) ds.length c) ds.length (dCells ds) ∧ (∀ d ∈ ds, Row base w d.2.1 d.2.2.1 d.2.2.2 ∧ d.2.1 ≠ g) ∧ ds.Pairwise (fun d e => d.2.1 < e.2.1)
/-- What is drawn is right: the numbers rise, the places are as long, near nought. -/
def DGood (width id : Int) (ds : List Dm) : Prop := (∀ d ∈ ds, 1 ≤ d.1 ∧ d.1 ≤ id ∧ (d.2.2.2.length : Int) = width ∧ ∀ x ∈ d.2.2.2, -6 ≤ x ∧ x ≤ 13) ∧ ds.Pairwise (fun d e => d.1 < e.1)

theorem dCells_length (ds : List Dm) : (dCells ds).length = ds.length * 2 := by
  induction ds with
  | nil => rfl
  | cons d ds ih => simp [dCells, ih]; omega
theorem dCells_append (ds es : List Dm) : dCells (ds ++ es) = dCells ds ++ dCells es := by
  induction ds with
  | nil => rfl
  | cons d ds ih => simp [dCells, ih]
theorem dCells_at (ds : List Dm) (i : Nat) (h : i < ds.length) : (dCells ds)[i * 2]? = some (.int .i64 (mdnth ds i).1) ∧ (dCells ds)[i * 2 + 1]? = some (.slice (some ⟨(mdnth ds i).2.1, 0, none⟩) (mdnth ds i).2.2.2.length (mdnth ds i).2.2.1) := by
  induction ds generalizing i with
  | nil => simp at h
  | cons d ds ih =>
    match i, h with
    | 0, _ => exact ⟨rfl, rfl⟩
    | k + 1, h =>
      have := ih k (by simpa using h)
      rw [show (k + 1) * 2 = k * 2 + 1 + 1 by omega]
      exact this
theorem mdnth_mem (ds : List Dm) (i : Nat) (h : i < ds.length) : mdnth ds i ∈ ds := by
  simp [mdnth, List.getD, h]
theorem dMarks_length (ds : List Dm) : (dMarks ds).length = ds.length := by simp [dMarks]
theorem dMarks_at (ds : List Dm) (i : Nat) (h : i < ds.length) : mnth (dMarks ds) i = ((mdnth ds i).1, (mdnth ds i).2.2.2) := by
  simp [mnth, dMarks, mdnth, List.getD, h]
theorem Row.seg {base : Nat} {w : World} {g c : Nat} {xs : List Int} (h : Row base w g c xs) : Seg w g 0 xs := fun i hi => by
  rw [Nat.zero_add, World.ownsRow.cellAt h i (by omega)]
  simp [nth, List.getD, hi]
theorem Row.lt2 {base : Nat} {w : World} {g c : Nat} {xs : List Int} (h : Row base w g c xs) : base ≤ g ∧ g < w.heap.size := World.ownsRow.lt h g rfl

theorem DRow.cells {base : Nat} {w : World} {g c : Nat} {ds : List Dm} (h : DRow base w g c ds) (i : Nat) (hi : i < ds.length) :
    w.cell? ⟨g, i * 2, none⟩ = some (.int .i64 (mdnth ds i).1) ∧ w.cell? ⟨g, i * 2 + 1, none⟩ = some (.slice (some ⟨(mdnth ds i).2.1, 0, none⟩) (mdnth ds i).2.2.2.length (mdnth ds i).2.2.1) := by
  have := dCells_at ds i hi
  rw [World.ownsRow.cellAt h.1 _ (by omega), World.ownsRow.cellAt h.1 _ (by omega)]
  exact this
theorem DRow.lt {base : Nat} {w : World} {g c : Nat} {ds : List Dm} (h : DRow base w g c ds) : base ≤ g ∧ g < w.heap.size := World.ownsRow.lt h.1 g rfl
theorem DRow.cap {base : Nat} {w : World} {g c : Nat} {ds : List Dm} (h : DRow base w g c ds) : ds.length ≤ c := by
  obtain ⟨_, ⟨h1, _⟩ | ⟨g', c', cur, h1, _, _, h2, _⟩⟩ := h.1
  · cases h1
  · injection h1 with e1 e2 e3
    omega
theorem DRow.view {base : Nat} {w : World} {g c : Nat} {ds : List Dm} (h : DRow base w g c ds) : MView w (some ⟨g, 0, none⟩) (dMarks ds) :=
  Or.inr ⟨g, 0, rfl, h.lt.2, fun i hi => by
    rw [dMarks_length] at hi
    rw [Nat.zero_add, dMarks_at ds i hi]
    have := h.cells i hi
    exact ⟨this.1, _, _, this.2, (h.2.1 _ (mdnth_mem ds i hi)).1.view⟩⟩
theorem DRow.kept {base : Nat} {w w' : World} {g c : Nat} {r : Option Nat} {ds : List Dm} (h : DRow base w g c ds) (hg : w.grownBy w' r) (hr : ∀ q, r = some q → q < base) : DRow base w' g c ds := by
  refine ⟨World.ownsRow.kept h.1 hg (Or.inr ?_), fun d hd => ⟨World.ownsRow.kept (h.2.1 d hd).1 hg (Or.inr ?_), (h.2.1 d hd).2⟩, h.2.2⟩
  · intro e
    have := hr g (by rw [← e]; rfl)
    have := h.lt
    omega
  · intro e
    have := hr d.2.1 (by rw [← e]; rfl)
    have := (h.2.1 d hd).1.lt2
    omega
theorem DRow.start (w : World) (base : Nat) (hb : base ≤ w.heap.size) : DRow base (w.alloc (.cells #[] 29)) w.heap.size 0 [] :=
  ⟨World.ownsRow_lit w #[] 0 hb (Nat.zero_le _) rfl, fun d hd => (by cases hd), List.Pairwise.nil⟩
/-- One mark more, behind the append. -/
theorem DRow.snoc {base : Nat} {w w' : World} {g c gg cc b cp : Nat} {id : Int} {xs : List Int} {ds : List Dm} (h : DRow base w g c ds)
    (hrow : Row base w b cp xs) (hbg : b ≠ g) (hlast : ∀ d ∈ ds, d.2.1 < b)
    (hown : w'.ownsRow base 29 2 (.slice (some ⟨gg, 0, none⟩) (ds.length + 1) cc) (ds.length + 1) (dCells ds ++ [.int .i64 id, .slice (some ⟨b, 0, none⟩) xs.length cp]))
    (hg : w.grownBy w' (some g)) (hgg : gg = g ∨ gg = w.heap.size) : DRow base w' gg cc (ds ++ [(id, b, cp, xs)]) := by
  have hnew : ∀ d : Dm, Row base w d.2.1 d.2.2.1 d.2.2.2 → d.2.1 ≠ g → Row base w' d.2.1 d.2.2.1 d.2.2.2 ∧ d.2.1 ≠ gg := fun d hd hne =>
    ⟨World.ownsRow.kept hd hg (Or.inr (by intro e; injection e with e; exact hne e)), by
      have := hd.lt2
      rcases hgg with e | e
      · rw [e]; exact hne
      · rw [e]; omega⟩
  refine ⟨?_, fun d hd => ?_, ?_⟩
  · rw [dCells_append, List.length_append]; exact hown
  · rcases List.mem_append.1 hd with hd | hd
    · exact hnew d (h.2.1 d hd).1 (h.2.1 d hd).2
    · rw [List.mem_singleton.1 hd]; exact hnew (id, b, cp, xs) hrow hbg
  · rw [List.pairwise_append]
    exact ⟨h.2.2, by simp, fun d hd e he => by rw [List.mem_singleton.1 he]; exact hlast d hd⟩
theorem DGood.snoc {width id id' : Int} {b cp : Nat} {xs : List Int} {ds : List Dm} (h : DGood width id ds) (h1 : id < id') (h0 : 1 ≤ id') (hl : (xs.length : Int) = width) (hx : ∀ x ∈ xs, -6 ≤ x ∧ x ≤ 13) : DGood width id' (ds ++ [(id', b, cp, xs)]) := by
  refine ⟨fun d hd => ?_, ?_⟩
  · rcases List.mem_append.1 hd with hd | hd
    · have := h.1 d hd
      exact ⟨this.1, by omega, this.2.2⟩
    · rw [List.mem_singleton.1 hd]; exact ⟨h0, Int.le_refl _, hl, hx⟩
  · rw [List.pairwise_append]
    exact ⟨h.2, by simp, fun d hd e he => by rw [List.mem_singleton.1 he]; have := h.1 d hd; show d.1 < id'; omega⟩
theorem DGood.nil (width : Int) : DGood width 0 [] := ⟨fun d hd => (by cases hd), List.Pairwise.nil⟩
theorem DGood.marks {width id : Int} {ds : List Dm} (h : DGood width id ds) (hid : id ≤ 1000000) (h1 : 1 ≤ width) (h4 : width ≤ 4) (hn : ds.length ≤ 60) : marksB (dMarks ds) = true := by
  have hat : ∀ i, i < ds.length → mid (dMarks ds) i = (mdnth ds i).1 ∧ mat (dMarks ds) i = (mdnth ds i).2.2.2 := fun i hi => by
    have := dMarks_at ds i hi
    exact ⟨by rw [← mnth_1, this], by rw [← mnth_2, this]⟩
  refine marksB_mk (by rw [dMarks_length]; exact hn) fun i hi => ?_
  rw [dMarks_length] at hi
  have hm := h.1 _ (mdnth_mem ds i hi)
  have hm0 := h.1 _ (mdnth_mem ds 0 (by omega))
  rw [mOkAt_iff, (hat i hi).1, (hat i hi).2, (hat 0 (by omega)).2]
  refine ⟨hm.1, by omega, okB_mk (by omega) (by omega) (fun j hj => ?_), by omega, ?_⟩
  · have := hm.2.2.2 ((mdnth ds i).2.2.2[j]) (List.getElem_mem hj)
    have e : nth (mdnth ds i).2.2.2 j = (mdnth ds i).2.2.2[j] := by simp [nth, List.getD, hj]
    rw [e]; omega
  · rcases Nat.eq_zero_or_pos i with h0 | h0
    · exact Or.inl h0
    · right
      rw [(hat (i - 1) (by omega)).1]
      have := (List.pairwise_iff_getElem.1 h.2) (i - 1) i (by omega) hi (by omega)
      simpa [mdnth, List.getD, hi, show i - 1 < ds.length by omega] using this

end Go.Proofs.YtaaagmgglolibaaGreat
namespace Go.Proofs.YtaaagmgglolibaaGreat
open Go Go.RowKit

end Go.Proofs.YtaaagmgglolibaaGreat
