/-
  Rows of marks whose places lie wherever: what is sorted, cut in halves and copied.
-/
import Derived.Test.YtaaagmgglolibaaGreatPutZz
import Derived.Test.YtaaagmgglolibaaGreatMathZz
namespace Go.Proofs.YtaaagmgglolibaaGreat
open Go Go.RowKit

/-- The cells from off on are those of the marks ds. -/
def SSeg (w : World) (b off : Nat) (ds : List Sm) : Prop := ∀ i, i < ds.length → w.cell? ⟨b, off + i * 2, none⟩ = some (.int .i64 (snth ds i).1) ∧ w.cell? ⟨b, off + i * 2 + 1, none⟩ = some (.slice (snth ds i).2.1 (snth ds i).2.2.2.length (snth ds i).2.2.1)
def SView (w : World) (ao : Option Addr) (ds : List Sm) : Prop := ds = [] ∨ ∃ b off, ao = some ⟨b, off, none⟩ ∧ b < w.heap.size ∧ SSeg w b off ds
theorem snth_drop (ds : List Sm) (k i : Nat) : snth (ds.drop k) i = snth ds (k + i) := by simp [snth, List.getD]
theorem snth_take (ds : List Sm) (k i : Nat) (h : i < k) : snth (ds.take k) i = snth ds i := by simp [snth, List.getD, h]
theorem SSeg.below {w w' : World} {B b off : Nat} {ds : List Sm} (h : SSeg w b off ds) (hb : b < B) (hw : Below B w w') : SSeg w' b off ds := fun i hi =>
  ⟨(hw.cell (p := ⟨b, off + i * 2, none⟩) hb).trans (h i hi).1, (hw.cell (p := ⟨b, off + i * 2 + 1, none⟩) hb).trans (h i hi).2⟩
theorem SSeg.drop {w : World} {b off : Nat} {ds : List Sm} (h : SSeg w b off ds) (k : Nat) : SSeg w b (off + k * 2) (ds.drop k) := fun i hi => by
  have := h (k + i) (by simp at hi; omega)
  rw [snth_drop, show off + k * 2 + i * 2 = off + (k + i) * 2 by omega]
  exact this
theorem SSeg.take {w : World} {b off : Nat} {ds : List Sm} (h : SSeg w b off ds) (k : Nat) : SSeg w b off (ds.take k) := fun i hi => by
  simp at hi
  rw [snth_take _ _ _ (by omega)]
  exact h i (by omega)
theorem SView.below {w w' : World} {B : Nat} {ao : Option Addr} {ds : List Sm} (h : SView w ao ds) (hB : w.heap.size ≤ B) (hw : Below B w w') : SView w' ao ds := by
  rcases h with h | ⟨b, off, e, hb, hs⟩
  · exact Or.inl h
  · exact Or.inr ⟨b, off, e, Nat.lt_of_lt_of_le hb hw.size, hs.below (Nat.lt_of_lt_of_le hb hB) hw⟩
theorem SView.next {w w' : World} {ao : Option Addr} {ds : List Sm} (h : SView w ao ds) (hw : Below w.heap.size w w') : SView w' ao ds := h.below (Nat.le_refl _) hw
theorem SView.seg {w : World} {ao : Option Addr} {ds : List Sm} (h : SView w ao ds) (h0 : 0 < ds.length) : ∃ b off, ao = some ⟨b, off, none⟩ ∧ b < w.heap.size ∧ SSeg w b off ds := by
  rcases h with h | h
  · subst h; simp at h0
  · exact h
theorem smCells_one (ds : List Sm) : ∀ u ∈ smCells ds, u.oneCell' = true := by
  induction ds with
  | nil => intro u hu; cases hu
  | cons d ds ih =>
    intro u hu
    simp only [smCells, List.mem_cons] at hu
    rcases hu with rfl | rfl | hu
    · rfl
    · rfl
    · exact ih u hu
theorem SSeg.cells {w : World} {b off : Nat} {ds : List Sm} (h : SSeg w b off ds) : ∀ j u, (smCells ds)[j]? = some u → w.cell? ((⟨b, off, none⟩ : Addr).add j) = some u := by
  intro j u hu
  have hl : j < (smCells ds).length := by
    rcases Nat.lt_or_ge j (smCells ds).length with h1 | h1
    · exact h1
    · rw [List.getElem?_eq_none h1] at hu; cases hu
  rw [smCells_length] at hl
  rw [Go.WideShapes.add_plain]
  have hi : j / 2 < ds.length := by omega
  obtain ⟨c0, c1⟩ := smCells_at ds (j / 2) hi
  obtain ⟨k0, k1⟩ := h (j / 2) hi
  rcases Nat.mod_two_eq_zero_or_one j with hm | hm
  · have e : j = j / 2 * 2 := by omega
    rw [← e] at c0 k0
    rw [c0] at hu
    injection hu with hu
    subst hu
    exact k0
  · have e : j = j / 2 * 2 + 1 := by omega
    rw [← e] at c1
    rw [c1] at hu
    injection hu with hu
    subst hu
    rw [show off + j / 2 * 2 + 1 = off + j by omega] at k1
    exact k1
theorem SView.src {w : World} {ao : Option Addr} {ds : List Sm} (h : SView w ao ds) : SrcAt w 2 ao ds.length (smCells ds) :=
  ⟨smCells_length ds, smCells_one ds, by
    rcases h with h | ⟨b, off, e, hb, hs⟩
    · subst h; exact Or.inl rfl
    · exact Or.inr ⟨_, e, hs.cells⟩⟩
theorem SRow.seg {base : Nat} {w : World} {g c : Nat} {ds : List Sm} (h : SRow base w g c ds) : SSeg w g 0 ds := fun i hi => by
  obtain ⟨c0, c1⟩ := smCells_at ds i hi
  rw [Nat.zero_add]
  exact ⟨by rw [World.ownsRow.cellAt h _ (by omega)]; exact c0, by rw [World.ownsRow.cellAt h _ (by omega)]; exact c1⟩
theorem SRow.cap {base : Nat} {w : World} {g c : Nat} {ds : List Sm} (h : SRow base w g c ds) : ds.length ≤ c := by
  obtain ⟨_, ⟨h1, _⟩ | ⟨g', c', cur, h1, _, _, h2, _⟩⟩ := h
  · cases h1
  · injection h1 with e1 e2 e3; omega
theorem SRow.mono {base base' : Nat} {w : World} {g c : Nat} {ds : List Sm} (h : SRow base w g c ds) (hb : base' ≤ base) : SRow base' w g c ds :=
  ⟨h.1, h.2.imp id fun ⟨g, cap, cur, h1, h2, h3⟩ => ⟨g, cap, cur, h1, Nat.le_trans hb h2, h3⟩⟩
theorem SRow.of {base : Nat} {w : World} {g c n : Nat} {ds : List Sm} {xs : List Value} (h : w.ownsRow base 29 2 (.slice (some ⟨g, 0, none⟩) n c) n xs) (hn : n = ds.length) (hx : xs = smCells ds) : SRow base w g c ds := by
  subst hn hx; exact h
theorem SLies.below {w w' : World} {ds : List Sm} (h : SLies w ds) (hw : Below w.heap.size w w') : SLies w' ds := fun d hd => (h d hd).next hw
theorem SLies.sub {w : World} {ds es : List Sm} (h : SLies w ds) (hs : ∀ d ∈ es, d ∈ ds) : SLies w es := fun d hd => h d (hs d hd)
theorem SView.mview {w : World} {ao : Option Addr} {ds : List Sm} (h : SView w ao ds) (hl : SLies w ds) : MView w ao (smMarks ds) := by
  rcases h with h | ⟨b, off, e, hb, hs⟩
  · subst h; exact Or.inl rfl
  · refine Or.inr ⟨b, off, e, hb, fun i hi => ?_⟩
    rw [smMarks_length] at hi
    rw [smMarks_at ds i hi]
    exact ⟨(hs i hi).1, _, _, (hs i hi).2, hl _ (snth_mem hi)⟩
end Go.Proofs.YtaaagmgglolibaaGreat
