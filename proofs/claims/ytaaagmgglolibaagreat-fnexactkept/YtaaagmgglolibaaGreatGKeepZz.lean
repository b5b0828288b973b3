/-
  What stays of rows of numbers while other rows are written over.
  Rows of rows of numbers: a row of slices, each with a row of its own; the laws' own helpers eqInt64SS, markInt64SS, heldInt64SS.
  What stays of rows of rows while other blocks are written over; rows of rows that are handed out.
-/
import Derived.Test.YtaaagmgglolibaaGreatBMarkZz
import Derived.Test.YtaaagmgglolibaaGreatMMarkZz
namespace Go.Proofs.YtaaagmgglolibaaGreat
open Go Go.RowKit

theorem IRow.same {base : Nat} {w w' : World} {g c : Nat} {xs : List Int} (h : IRow base w g c xs) (e : w'.heap[g]? = w.heap[g]?) : IRow base w' g c xs := by
  obtain ⟨h1, h2⟩ := h
  refine ⟨h1, ?_⟩
  rcases h2 with h2 | ⟨g', cp, cur, e1, h3, h4, h5⟩
  · exact Or.inl h2
  · have hg : g = g' := by injection e1 with e2; injection e2 with e2; injection e2
    subst hg
    exact Or.inr ⟨g, cp, cur, e1, h3, e.trans h4, h5⟩
theorem IOut.same {base : Nat} {w w' : World} {v : Value} {xs : List Int} (h : IOut base w v xs) (e : ∀ i, base ≤ i → i < w.heap.size → w'.heap[i]? = w.heap[i]?) : IOut base w' v xs := by
  rcases h with h | ⟨g, c, e1, hr⟩
  · exact Or.inl h
  · exact Or.inr ⟨g, c, e1, hr.same (e g hr.lt.1 hr.lt.2)⟩
theorem GIn.irow {lo hi base : Nat} {w w' : World} {g c : Nat} {xs : List Int} (h : GIn lo hi w w') (hr : IRow base w g c xs) (hg : g < lo ∨ hi ≤ g) : IRow base w' g c xs := hr.same (h.2.2.2.2 g hr.lt.2 hg)
theorem ChgV.irow {base : Nat} {w w' : World} {v : Value} {g c : Nat} {xs : List Int} (h : ChgV v w w') (hr : IRow base w g c xs) (hg : ∀ a n d, v = .slice (some a) n d → g ≠ a.block) : IRow base w' g c xs := hr.same (h.2.2.2.2 g hr.lt.2 hg)
end Go.Proofs.YtaaagmgglolibaaGreat
namespace Go.Proofs.YtaaagmgglolibaaGreat
open Go Go.RowKit

theorem Tryz.infoL : (Tryz.prog.info? 27).map (fun i => (i.zero, i.size, i.bytes)) = some (some (.slice none 0 0), 1, 24) := by kernel_rfl
/-- A row: where it lies, its room, its numbers. -/
abbrev Rw := Nat × Nat × List Int
def rwV (r : Rw) : Value := .slice (some ⟨r.1, 0, none⟩) r.2.2.length r.2.1
def LRow (base : Nat) (w : World) (g c : Nat) (rs : List Rw) : Prop := w.ownsRow base 27 1 (.slice (some ⟨g, 0, none⟩) rs.length c) rs.length (rs.map rwV)
structure LMem (base : Nat) (w : World) (g c : Nat) (rs : List Rw) : Prop where
  row : LRow base w g c rs
  rows : ∀ r ∈ rs, IRow base w r.1 r.2.1 r.2.2
  apart : (rs.map (·.1)).Nodup
  off : ∀ r ∈ rs, r.1 ≠ g
def nums (rs : List Rw) : List (List Int) := rs.map (·.2.2)
theorem LRow.lt {base : Nat} {w : World} {g c : Nat} {rs : List Rw} (h : LRow base w g c rs) : base ≤ g ∧ g < w.heap.size := World.ownsRow.lt h g rfl
theorem LRow.cell {base : Nat} {w : World} {g c : Nat} {rs : List Rw} (h : LRow base w g c rs) (i : Nat) (hi : i < rs.length) : w.cell? ⟨g, i, none⟩ = some (rwV rs[i]) := by
  rw [World.ownsRow.cellAt h i (by omega)]
  simp [hi]
theorem LRow.kept {base : Nat} {w w' : World} {g c : Nat} {r : Option Nat} {rs : List Rw} (h : LRow base w g c rs) (hg : w.grownBy w' r) (hr : some g ≠ r) : LRow base w' g c rs := World.ownsRow.kept h hg (Or.inr hr)
theorem LMem.kept {base : Nat} {w w' : World} {g c : Nat} {r : Option Nat} {rs : List Rw} (h : LMem base w g c rs) (hg : w.grownBy w' r) (h1 : some g ≠ r) (h2 : ∀ x ∈ rs, some x.1 ≠ r) : LMem base w' g c rs :=
  ⟨h.row.kept hg h1, fun x hx => (h.rows x hx).kept hg (h2 x hx), h.apart, h.off⟩
theorem LMem.below {base : Nat} {w w' : World} {g c : Nat} {rs : List Rw} (h : LMem base w g c rs) (hb : Below w.heap.size w w') : LMem base w' g c rs :=
  h.kept (r := none) ⟨hb.os, hb.tape, hb.output, hb.size, fun i hi _ => hb.block i hi⟩ (by simp) (by simp)
theorem LMem.mono {base base' : Nat} {w : World} {g c : Nat} {rs : List Rw} (h : LMem base w g c rs) (hb : base' ≤ base) : LMem base' w g c rs :=
  ⟨by
    obtain ⟨h1, h2⟩ := h.row
    refine ⟨h1, ?_⟩
    rcases h2 with h2 | ⟨g', cp, cur, e1, h3, h4⟩
    · exact Or.inl h2
    · exact Or.inr ⟨g', cp, cur, e1, Nat.le_trans hb h3, h4⟩, fun x hx => (h.rows x hx).mono hb, h.apart, h.off⟩
theorem LMem.start (w : World) (base : Nat) (hb : base ≤ w.heap.size) : LMem base (w.alloc (.cells #[] 27)) w.heap.size 0 [] :=
  ⟨World.ownsRow_lit w #[] 0 hb (Nat.zero_le _) rfl, by simp, by simp, by simp⟩
/-- One more row. -/
theorem LMem.snoc {base : Nat} {w w8 : World} {g c gg cc : Nat} {rs : List Rw} {r : Rw} (h : LMem base w g c rs) (hown : w8.ownsRow base 27 1 (.slice (some ⟨gg, 0, none⟩) (rs.length + 1) cc) (rs.length + 1) (rs.map rwV ++ [rwV r]))
    (hgrow : w.grownBy w8 (some g)) (hat : g = gg ∨ gg = w.heap.size) (hr : IRow base w r.1 r.2.1 r.2.2) (hrg : r.1 ≠ g) (hnew : ∀ x ∈ rs, x.1 ≠ r.1) : LMem base w8 gg cc (rs ++ [r]) := by
  have hlt : ∀ x ∈ rs, base ≤ x.1 ∧ x.1 < w.heap.size := fun x hx => (h.rows x hx).lt
  refine ⟨?_, fun x hx => ?_, ?_, fun x hx => ?_⟩
  · unfold LRow
    rw [List.length_append, List.length_singleton, List.map_append]
    exact hown
  · rcases List.mem_append.1 hx with hx | hx
    · exact (h.rows x hx).kept hgrow (by have := h.off x hx; simp; exact this)
    · rw [List.mem_singleton.1 hx]
      exact hr.kept hgrow (by simp; exact hrg)
  · rw [List.map_append, List.nodup_append]
    refine ⟨h.apart, by simp, fun a ha b hb => ?_⟩
    obtain ⟨x, hx, rfl⟩ := List.mem_map.1 ha
    simp at hb
    rw [hb]
    exact hnew x hx
  · rcases hat with h1 | h1
    · rw [← h1]
      rcases List.mem_append.1 hx with hx | hx
      · exact h.off x hx
      · rw [List.mem_singleton.1 hx]; exact hrg
    · rcases List.mem_append.1 hx with hx | hx
      · have := hlt x hx; omega
      · rw [List.mem_singleton.1 hx]; have := hr.lt; omega
/-- A row of rows that is only read. -/
def LView (w : World) (ao : Option Addr) (ls : List (List Int)) : Prop := ls = [] ∨ ∃ b, ao = some ⟨b, 0, none⟩ ∧ b < w.heap.size ∧ ∀ i (h : i < ls.length), ∃ a c, w.cell? ⟨b, i, none⟩ = some (.slice a ls[i].length c) ∧ View w a ls[i]
theorem LMem.view {base : Nat} {w : World} {g c : Nat} {rs : List Rw} (h : LMem base w g c rs) : LView w (some ⟨g, 0, none⟩) (nums rs) := by
  refine Or.inr ⟨g, rfl, h.row.lt.2, fun i hi => ?_⟩
  have hi2 : i < rs.length := by simpa [nums] using hi
  have e : (nums rs)[i] = rs[i].2.2 := by simp [nums]
  rw [e]
  exact ⟨_, _, h.row.cell i hi2, (h.rows _ (List.getElem_mem hi2)).view⟩
theorem LView.at {w : World} {ao : Option Addr} {ls : List (List Int)} (h : LView w ao ls) {i : Nat} (hi : i < ls.length) : ∃ b a c, ao = some ⟨b, 0, none⟩ ∧ b < w.heap.size ∧ w.cell? ⟨b, i, none⟩ = some (.slice a ls[i].length c) ∧ View w a ls[i] := by
  rcases h with h | ⟨b, e, hb, hs⟩
  · rw [h] at hi; simp at hi
  · obtain ⟨a, c, c1, v1⟩ := hs i hi
    exact ⟨b, a, c, e, hb, c1, v1⟩
theorem LView.next {w w' : World} {ao : Option Addr} {ls : List (List Int)} (h : LView w ao ls) (hb : Below w.heap.size w w') : LView w' ao ls :=
  h.imp id fun ⟨b, e, hl, hs⟩ => ⟨b, e, Nat.lt_of_lt_of_le hl hb.size, fun i hi => by
    obtain ⟨a, c, c1, v1⟩ := hs i hi
    exact ⟨a, c, (hb.cell (p := ⟨b, i, none⟩) hl).trans c1, v1.next hb⟩⟩
theorem LView.drewN {w : World} {ao : Option Addr} {ls : List (List Int)} (h : LView w ao ls) (n : Nat) : LView (w.drewN n) ao ls := h

end Go.Proofs.YtaaagmgglolibaaGreat
namespace Go.Proofs.YtaaagmgglolibaaGreat
open Go Go.RowKit

theorem nums_length (rs : List Rw) : (nums rs).length = rs.length := by simp [nums]
theorem LRow.same {base : Nat} {w w' : World} {g c : Nat} {rs : List Rw} (h : LRow base w g c rs) (e : w'.heap[g]? = w.heap[g]?) : LRow base w' g c rs := by
  obtain ⟨h1, h2⟩ := h
  refine ⟨h1, ?_⟩
  rcases h2 with h2 | ⟨g', cp, cur, e1, h3, h4, h5⟩
  · exact Or.inl h2
  · have hg : g = g' := by injection e1 with e2; injection e2 with e2; injection e2
    subst hg
    exact Or.inr ⟨g, cp, cur, e1, h3, e.trans h4, h5⟩
theorem LMem.same {base : Nat} {w w' : World} {g c : Nat} {rs : List Rw} (h : LMem base w g c rs) (e : ∀ i, (i = g ∨ ∃ r ∈ rs, i = r.1) → w'.heap[i]? = w.heap[i]?) : LMem base w' g c rs :=
  ⟨h.row.same (e g (Or.inl rfl)), fun x hx => (h.rows x hx).same (e x.1 (Or.inr ⟨x, hx, rfl⟩)), h.apart, h.off⟩
theorem LMem.all {base : Nat} {w : World} {g c : Nat} {rs : List Rw} (h : LMem base w g c rs) : ∀ i, (i = g ∨ ∃ r ∈ rs, i = r.1) → base ≤ i ∧ i < w.heap.size := fun i hi => by
  rcases hi with rfl | ⟨r, hr, rfl⟩
  · exact h.row.lt
  · exact (h.rows r hr).lt
/-- Nothing, or a row of rows of the call's own. -/
def LOut (base : Nat) (w : World) (ao : Option Addr) (c : Nat) (rs : List Rw) : Prop := (ao = none ∧ c = 0 ∧ rs = []) ∨ ∃ g, ao = some ⟨g, 0, none⟩ ∧ LMem base w g c rs
theorem LOut.view {base : Nat} {w : World} {ao : Option Addr} {c : Nat} {rs : List Rw} (h : LOut base w ao c rs) : LView w ao (nums rs) := by
  rcases h with ⟨_, _, rfl⟩ | ⟨g, rfl, h⟩
  · exact Or.inl rfl
  · exact h.view
theorem LOut.below {base : Nat} {w w' : World} {ao : Option Addr} {c : Nat} {rs : List Rw} (h : LOut base w ao c rs) (hb : Below w.heap.size w w') : LOut base w' ao c rs :=
  h.imp id fun ⟨g, e, hm⟩ => ⟨g, e, hm.below hb⟩
theorem LOut.same {base : Nat} {w w' : World} {ao : Option Addr} {c : Nat} {rs : List Rw} (h : LOut base w ao c rs) (e : ∀ i, base ≤ i → i < w.heap.size → w'.heap[i]? = w.heap[i]?) : LOut base w' ao c rs :=
  h.imp id fun ⟨g, e1, hm⟩ => ⟨g, e1, hm.same fun i hi => e i (hm.all i hi).1 (hm.all i hi).2⟩
end Go.Proofs.YtaaagmgglolibaaGreat
