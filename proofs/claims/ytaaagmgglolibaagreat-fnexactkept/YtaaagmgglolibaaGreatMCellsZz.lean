/-
  Rows of marks in memory (no program is named here): two cells a mark, its number and the slice of its place.
  What a world that grew keeps (no program is named here).
-/
import Derived.Test.YtaaagmgglolibaaGreatCellsZz
import Derived.Test.YtaaagmgglolibaaGreatMathZz
import Derived.Laws.MakeOwn
namespace Go.Proofs.YtaaagmgglolibaaGreat
open Go Go.RowKit

theorem hidP {p : Prop} (h : p) : Hid p := h
/-- The mark whose cells begin at off: its number, and a slice that reads as its place. -/
def MAt (w : World) (b off : Nat) (m : Mk) : Prop :=
  w.cell? ⟨b, off, none⟩ = some (.int .i64 m.1) ∧ ∃ ao cap, w.cell? ⟨b, off + 1, none⟩ = some (.slice ao m.2.length cap) ∧ View w ao m.2
def mnth (ms : List Mk) (i : Nat) : Mk := ms.getD i (0, [])
theorem mnth_1 (ms : List Mk) (i : Nat) : (mnth ms i).1 = mid ms i := rfl
theorem mnth_2 (ms : List Mk) (i : Nat) : (mnth ms i).2 = mat ms i := rfl
def MSeg (w : World) (b off : Nat) (ms : List Mk) : Prop := ∀ i, i < ms.length → MAt w b (off + i * 2) (mnth ms i)
def MView (w : World) (ao : Option Addr) (ms : List Mk) : Prop := ms = [] ∨ ∃ b off, ao = some ⟨b, off, none⟩ ∧ b < w.heap.size ∧ MSeg w b off ms
/-- No longer than a law lets in. -/
def MSmall (ms : List Mk) : Prop := ms.length ≤ 1048576 ∧ ∀ i, (mat ms i).length ≤ 1048576

theorem MAt.below {w w' : World} {B b off : Nat} {m : Mk} (h : MAt w b off m) (hb : b < B) (hB : w.heap.size ≤ B) (hw : Below B w w') : MAt w' b off m := by
  obtain ⟨h0, ao, cap, h1, hv⟩ := h
  exact ⟨(hw.cell (p := ⟨b, off, none⟩) hb).trans h0, ao, cap, (hw.cell (p := ⟨b, off + 1, none⟩) hb).trans h1, hv.below hB hw⟩
theorem MSeg.below {w w' : World} {B b off : Nat} {ms : List Mk} (h : MSeg w b off ms) (hb : b < B) (hB : w.heap.size ≤ B) (hw : Below B w w') : MSeg w' b off ms :=
  fun i hi => (h i hi).below hb hB hw
theorem MView.below {w w' : World} {B : Nat} {ao : Option Addr} {ms : List Mk} (h : MView w ao ms) (hB : w.heap.size ≤ B) (hw : Below B w w') : MView w' ao ms := by
  rcases h with h | ⟨b, off, e, hb, hs⟩
  · exact Or.inl h
  · exact Or.inr ⟨b, off, e, Nat.lt_of_lt_of_le hb hw.size, hs.below (Nat.lt_of_lt_of_le hb hB) hB hw⟩
theorem MView.next {w w' : World} {ao : Option Addr} {ms : List Mk} (h : MView w ao ms) (hw : Below w.heap.size w w') : MView w' ao ms := h.below (Nat.le_refl _) hw
theorem View.next {w w' : World} {ao : Option Addr} {xs : List Int} (h : View w ao xs) (hw : Below w.heap.size w w') : View w' ao xs := h.below (Nat.le_refl _) hw
theorem MAt.drewN {w : World} {b off : Nat} {m : Mk} (h : MAt w b off m) (n : Nat) : MAt (w.drewN n) b off m := h
theorem MSeg.drewN {w : World} {b off : Nat} {ms : List Mk} (h : MSeg w b off ms) (n : Nat) : MSeg (w.drewN n) b off ms := h
theorem MView.drewN {w : World} {ao : Option Addr} {ms : List Mk} (h : MView w ao ms) (n : Nat) : MView (w.drewN n) ao ms := h
theorem MView.drew {w : World} {ao : Option Addr} {ms : List Mk} (h : MView w ao ms) : MView w.drew ao ms := h
theorem View.drew {w : World} {ao : Option Addr} {xs : List Int} (h : View w ao xs) : View w.drew ao xs := h
/-- the cells of one mark, by its index -/
theorem MSeg.at {w : World} {b off : Nat} {ms : List Mk} (h : MSeg w b off ms) {i : Nat} (hi : i < ms.length) :
    w.cell? ⟨b, off + i * 2, none⟩ = some (.int .i64 (mid ms i)) ∧ ∃ ao cap, w.cell? ⟨b, off + i * 2 + 1, none⟩ = some (.slice ao (mat ms i).length cap) ∧ View w ao (mat ms i) := h i hi
theorem MSeg.seg {w : World} {ao : Option Addr} {ms : List Mk} (h : MView w ao ms) (h0 : 0 < ms.length) : ∃ b off, ao = some ⟨b, off, none⟩ ∧ b < w.heap.size ∧ MSeg w b off ms := by
  rcases h with h | h
  · subst h; simp at h0
  · exact h
theorem mk_eq {ms ns : List Mk} (hl : ms.length = ns.length) (h : ∀ i, i < ms.length → mid ms i = mid ns i ∧ mat ms i = mat ns i) : ms = ns := by
  apply List.ext_getElem hl
  intro i h1 h2
  have := h i h1
  simp [mid, mat, List.getD, h1, h2] at this
  exact Prod.ext this.1 this.2

/-- A mark of the call's own: its place is a row of its own, behind the marks' row. -/
def MOwnAt (w : World) (b off : Nat) (m : Mk) : Prop :=
  w.cell? ⟨b, off, none⟩ = some (.int .i64 m.1) ∧ ∃ g, b < g ∧ w.cell? ⟨b, off + 1, none⟩ = some (.slice (some ⟨g, 0, none⟩) m.2.length m.2.length) ∧ Own w g m.2
/-- A row of n marks of the call's own, the first k of them filled in. -/
def MPart (w : World) (b k n : Nat) (ms : List Mk) : Prop := b < w.heap.size ∧ (∀ i, i < k → MOwnAt w b (i * 2) (mnth ms i)) ∧ (∀ j, k * 2 ≤ j → j < n * 2 → (∃ v, w.cell? ⟨b, j, none⟩ = some v ∧ w.frozen? ⟨b, j, none⟩ = false)) ∧ ∀ j, w.frozen? ⟨b, j, none⟩ = false
theorem MOwnAt.below {w w' : World} {B b off : Nat} {m : Mk} (h : MOwnAt w b off m) (hB : w.heap.size ≤ B) (hb : b < w.heap.size) (hw : Below B w w') : MOwnAt w' b off m := by
  obtain ⟨h0, g, hg, h1, ho⟩ := h
  have hb' : b < B := Nat.lt_of_lt_of_le hb hB
  exact ⟨(hw.cell (p := ⟨b, off, none⟩) hb').trans h0, g, hg, (hw.cell (p := ⟨b, off + 1, none⟩) hb').trans h1, ho.below (Nat.lt_of_lt_of_le ho.lt hB) hw⟩
theorem MPart.below {w w' : World} {B b k n : Nat} {ms : List Mk} (h : MPart w b k n ms) (hB : w.heap.size ≤ B) (hw : Below B w w') : MPart w' b k n ms :=
  ⟨Nat.lt_of_lt_of_le h.1 hw.size, fun i hi => (h.2.1 i hi).below hB h.1 hw, fun j h1 h2 => by
    obtain ⟨v, hv, hf⟩ := h.2.2.1 j h1 h2
    exact ⟨v, (hw.cell (p := ⟨b, j, none⟩) (Nat.lt_of_lt_of_le h.1 hB)).trans hv, (hw.frozen (p := ⟨b, j, none⟩) (Nat.lt_of_lt_of_le h.1 hB)).trans hf⟩, fun j => (hw.frozen (p := ⟨b, j, none⟩) (Nat.lt_of_lt_of_le h.1 hB)).trans (h.2.2.2 j)⟩
theorem Own.setOther {w : World} {b : Nat} {xs : List Int} (h : Own w b xs) {a : Addr} (ha : b ≠ a.block) (v : Value) : Own (w.setCell a v) b xs :=
  (Below.heap_setCell w a v b ha).trans h
theorem cell_setOther (w : World) (b i j : Nat) (v : Value) (h : i ≠ j) : (w.setCell ⟨b, i, none⟩ v).cell? ⟨b, j, none⟩ = w.cell? ⟨b, j, none⟩ :=
  World.cell?_setCell_other w _ _ v (by intro e; exact h (by injection e))
theorem setCell_size (w : World) (a : Addr) (v : Value) : (w.setCell a v).heap.size = w.heap.size := by simp
theorem MPart.step {w : World} {b k n g : Nat} {ms : List Mk} (h : MPart w b k n ms) (hk : k < n) (hg : b < g) (ho : Own w g (mat ms k)) :
    MPart ((w.setCell ⟨b, k * 2, none⟩ (.int .i64 (mid ms k))).setCell ⟨b, k * 2 + 1, none⟩ (.slice (some ⟨g, 0, none⟩) (mat ms k).length (mat ms k).length)) b (k + 1) n ms := by
  obtain ⟨hb, hall, hrest, hfr⟩ := h
  obtain ⟨v0, e0, _⟩ := hrest (k * 2) (Nat.le_refl _) (by omega)
  obtain ⟨v1, e1, _⟩ := hrest (k * 2 + 1) (by omega) (by omega)
  refine ⟨by rw [setCell_size, setCell_size]; exact hb, fun i hi => ?_, fun j h1 h2 => ?_, fun j => by rw [World.frozen?_setCell, World.frozen?_setCell]; exact hfr j⟩
  · rcases Nat.lt_or_ge i k with h | h
    · obtain ⟨c0, g', hg', c1, o'⟩ := hall i h
      refine ⟨?_, g', hg', ?_, (o'.setOther (by simp; omega) _).setOther (by simp; omega) _⟩
      · rw [cell_setOther _ _ _ _ _ (by omega), cell_setOther _ _ _ _ _ (by omega)]; exact c0
      · rw [cell_setOther _ _ _ _ _ (by omega), cell_setOther _ _ _ _ _ (by omega)]; exact c1
    · obtain rfl : i = k := by omega
      refine ⟨?_, g, hg, ?_, (ho.setOther (by simp; omega) _).setOther (by simp; omega) _⟩
      · rw [cell_setOther _ _ _ _ _ (by omega)]; exact World.cell?_setCell_same _ _ _ e0
      · exact World.cell?_setCell_same _ _ _ (u := v1) (by rw [cell_setOther _ _ _ _ _ (by omega)]; exact e1)
  · rw [cell_setOther _ _ _ _ _ (by omega), cell_setOther _ _ _ _ _ (by omega), World.frozen?_setCell, World.frozen?_setCell]
    exact hrest j (by omega) h2
theorem MPart.view {w : World} {b : Nat} {ms : List Mk} (h : MPart w b ms.length ms.length ms) : MView w (some ⟨b, 0, none⟩) ms :=
  Or.inr ⟨b, 0, rfl, h.1, fun i hi => by
    obtain ⟨c0, g, _, c1, o⟩ := h.2.1 i hi
    rw [Nat.zero_add]
    exact ⟨c0, _, _, c1, o.view⟩⟩
theorem MPart.start (w : World) (z : Array Value) (t : TypeId) (n : Nat) (ms : List Mk) : MPart (w.alloc (.cells (madeCells z (n * 2)) t)) w.heap.size 0 n ms :=
  ⟨by simp, fun i hi => by omega, fun j _ h2 => by
    rw [World.cell?_alloc_at _ _ _ _ rfl, World.frozen?_alloc_at _ _ _ _ rfl]
    exact ⟨_, Array.getElem?_eq_getElem (by rw [size_madeCells]; exact h2), rfl⟩, fun j => World.frozen?_alloc_at _ _ _ _ rfl⟩

/-- 'make([]T, n)', n a variable, T of whatever cells. -/
theorem run_make_rows {P : Program} (t e : TypeId) (z : Value) (size bytes : Nat) (ht : P.underlying t = some (.slice e)) (hinfo : (P.info? e).map (fun i => (i.zero, i.size, i.bytes)) = some (some z, size, bytes))
    (kl kc : IntKind) (n : Nat) (hbytes : bytes * n ≤ 281474976710656) (h63 : n ≤ 9223372036854775807) (w : World) :
    (Instr.makeSlice t (.int kl (n : Int)) (.int kc (n : Int))).run P w = .ok (.slice (some ⟨w.heap.size, 0, none⟩) n n) (w.alloc (.cells (madeCells z.cells (n * size)) e)) := by
  obtain ⟨i, hi, hzz⟩ := Option.map_eq_some_iff.1 hinfo
  simp only [Prod.mk.injEq] at hzz
  obtain ⟨hz, hs, hb⟩ := hzz
  subst hb hs
  have hb' : (i.bytes : Int) * (n : Int) ≤ 281474976710656 := by
    have h : ((i.bytes * n : Nat) : Int) ≤ 281474976710656 := by omega
    rwa [Int.natCast_mul] at h
  have hr := run_make (P := P) w t e i z ht hi hz kl kc n n (by omega) (Int.le_refl _) hb' (by omega)
  simpa only [Int.toNat_natCast] using hr

end Go.Proofs.YtaaagmgglolibaaGreat
namespace Go.Proofs.YtaaagmgglolibaaGreat
open Go Go.RowKit

theorem seg_grown {w w' : World} {b : Nat} {xs : List Int} {r : Option Nat} (h : Seg w b 0 xs) (hb : b < w.heap.size) (hg : w.grownBy w' r) (hr : some b ≠ r) : Seg w' b 0 xs := fun i hi =>
  (World.cell?_of_block (w := w) (a := ⟨b, 0 + i, none⟩) (hg.block b hb hr)).trans (h i hi)
theorem cell_grown {w w' : World} {g j : Nat} {r : Option Nat} (hb : g < w.heap.size) (hg : w.grownBy w' r) (hr : some g ≠ r) : w'.cell? ⟨g, j, none⟩ = w.cell? ⟨g, j, none⟩ :=
  World.cell?_of_block (w := w) (a := ⟨g, j, none⟩) (hg.block g hb hr)

theorem frozen_grown {w w' : World} {g j : Nat} {r : Option Nat} (hb : g < w.heap.size) (hg : w.grownBy w' r) (hr : some g ≠ r) : w'.frozen? ⟨g, j, none⟩ = w.frozen? ⟨g, j, none⟩ :=
  World.frozen?_of_block (w := w) (a := ⟨g, j, none⟩) (hg.block g hb hr)
theorem grown_setCell (w : World) (g j : Nat) (v : Value) : w.grownBy (w.setCell ⟨g, j, none⟩ v) (some g) :=
  ⟨rfl, rfl, rfl, Nat.le_of_eq (setCell_size w _ v).symm, fun i _ hne => Below.heap_setCell w ⟨g, j, none⟩ v i (fun e => hne (by rw [e]))⟩

end Go.Proofs.YtaaagmgglolibaaGreat
