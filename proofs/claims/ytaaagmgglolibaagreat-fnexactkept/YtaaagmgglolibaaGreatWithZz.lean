/-
  The given Within and Merged.
  The laws' own helpers over rows of hits: szHitS, toHitS (a copy), eqHitS and likeHits (are two alike), markHitS and heldHitS (what is written is held).
-/
import Derived.Test.YtaaagmgglolibaaGreatNearZz
import Derived.Test.YtaaagmgglolibaaGreatMRowZz
import Derived.Test.YtaaagmgglolibaaGreatMSizeZz
namespace Go.Proofs.YtaaagmgglolibaaGreat
open Go Go.RowKit

theorem take_snoc {ss : List Ht} {k : Nat} (hk : k < ss.length) : ss.take (k + 1) = ss.take k ++ [hnth ss k] := by
  rw [List.take_add_one]; congr 1; simp [hnth, List.getD, hk]
theorem HSeg.grown {w w' : World} {b : Nat} {hs : List Ht} {r : Option Nat} (h : HSeg w b 0 hs) (hb : b < w.heap.size) (hg : w.grownBy w' r) (hr : some b ≠ r) : HSeg w' b 0 hs := fun i hi =>
  ⟨(World.cell?_of_block (w := w) (a := ⟨b, 0 + i * 2, none⟩) (hg.block b hb hr)).trans (h i hi).1, (World.cell?_of_block (w := w) (a := ⟨b, 0 + i * 2 + 1, none⟩) (hg.block b hb hr)).trans (h i hi).2⟩
theorem HRow.snoc {base : Nat} {w' : World} {gg cc : Nat} {hs : List Ht} {x : Ht} (h : w'.ownsRow base 66 2 (.slice (some ⟨gg, 0, none⟩) (hs.length + 1) cc) (hs.length + 1) (hCells hs ++ [.int .i64 x.1, .int .i64 x.2])) : HRow base w' gg cc (hs ++ [x]) :=
  HRow.of h (by simp) (by rw [hCells_append]; rfl)

theorem one_int {w : World} {n : Nat} {x : Int} (hb : w.heap[n]? = some (.cells #[.int .i64 x] 2 (0, 0))) : SrcAt w 1 (some ⟨n, 0, none⟩) 1 [.int .i64 x] :=
  ⟨rfl, by simp [Value.oneCell'], Or.inr ⟨_, rfl, World.news_of_block (cs := #[.int .i64 x]) hb⟩⟩
theorem Row.snoc {base : Nat} {w' : World} {gg cc : Nat} {xs : List Int} {x : Int} (h : w'.ownsRow base 2 1 (.slice (some ⟨gg, 0, none⟩) (xs.length + 1) cc) (xs.length + 1) (xs.map (Value.int .i64) ++ [.int .i64 x])) : Row base w' gg cc (xs ++ [x]) := by
  unfold Row; rw [List.length_append, List.length_singleton, List.map_append]; exact h
theorem Row.keptBy {base : Nat} {w w' : World} {g c : Nat} {r : Option Nat} {xs : List Int} (h : Row base w g c xs) (hg : w.grownBy w' r) (hr : some g ≠ r) : Row base w' g c xs :=
  World.ownsRow.kept h hg (Or.inr hr)
theorem Row.start (w : World) (base : Nat) (hb : base ≤ w.heap.size) : Row base (w.alloc (.cells #[] 2)) w.heap.size 0 [] := World.ownsRow_lit w #[] 0 hb (Nat.zero_le _) rfl

end Go.Proofs.YtaaagmgglolibaaGreat
namespace Go.Proofs.YtaaagmgglolibaaGreat
open Go Go.RowKit

theorem hCells_set (l : List Ht) (k : Nat) (x : Ht) : ((hCells l).set (k * 2) (.int .i64 x.1)).set (k * 2 + 1) (.int .i64 x.2) = hCells (l.set k x) := by
  induction l generalizing k with
  | nil => simp [hCells]
  | cons d ds ih =>
    cases k with
    | zero => rfl
    | succ k =>
      rw [show (k + 1) * 2 = k * 2 + 1 + 1 by omega]
      simp only [hCells, List.set_cons_succ, ih]
theorem hCells_rep (n : Nat) : hCells (List.replicate n (0, 0)) = List.replicate (n * 2) (.int .i64 0) := by
  induction n with
  | zero => rfl
  | succ n ih => rw [show (n + 1) * 2 = n * 2 + 1 + 1 by omega]; simp [List.replicate_succ, hCells, ih]
/-- One hit of a row is written over. -/
theorem HRow.store {base : Nat} {w : World} {g c : Nat} {l : List Ht} (h : HRow base w g c l) (k : Nat) (x : Ht) :
    HRow base ((w.setCell ⟨g, k * 2, none⟩ (.int .i64 x.1)).setCell ⟨g, k * 2 + 1, none⟩ (.int .i64 x.2)) g c (l.set k x) := by
  have h1 := (World.ownsRow.stored h (k * 2) (.int .i64 x.1)).1
  have h2 := (World.ownsRow.stored h1 (k * 2 + 1) (.int .i64 x.2)).1
  rw [hCells_set] at h2
  unfold HRow
  rw [List.length_set]
  exact h2
def fillH (hs : List Ht) (k : Nat) : List Ht := hs.take k ++ List.replicate (hs.length - k) (0, 0)
theorem fillH_length (hs : List Ht) (k : Nat) (h : k ≤ hs.length) : (fillH hs k).length = hs.length := by simp [fillH]; omega
theorem fillH_zero (hs : List Ht) : fillH hs 0 = List.replicate hs.length (0, 0) := by simp [fillH]
theorem fillH_all (hs : List Ht) : fillH hs hs.length = hs := by simp [fillH]
theorem fillH_set (hs : List Ht) (k : Nat) (h : k < hs.length) : (fillH hs k).set k (hnth hs k) = fillH hs (k + 1) := by
  unfold fillH
  rw [List.set_append_right _ _ (by simp; omega), take_snoc h, show (hs.take k).length = k by simp; omega, Nat.sub_self]
  rw [show hs.length - k = (hs.length - (k + 1)) + 1 by omega, List.replicate_succ, List.set_cons_zero]
  simp
theorem made_rep (n : Nat) : (madeCells #[.int .i64 0, .int .i64 0] (n * 2)).toList = hCells (List.replicate n (0, 0)) := by
  rw [hCells_rep]
  apply List.ext_getElem
  · simp [size_madeCells]
  · intro i h1 h2
    have hm : i % 2 = 0 ∨ i % 2 = 1 := by omega
    rcases hm with h | h <;> simp [madeCells, h]
theorem HRow.made (w : World) (n : Nat) (hn : n ≤ maxLen) : HRow w.heap.size (w.alloc (.cells (madeCells #[.int .i64 0, .int .i64 0] (n * 2)) 66)) w.heap.size n (List.replicate n (0, 0)) := by
  have h := World.ownsRow_lit (base := w.heap.size) (e := 66) (size := 2) w (madeCells #[.int .i64 0, .int .i64 0] (n * 2)) n (Nat.le_refl _) hn (size_madeCells _ _)
  rw [made_rep] at h
  exact HRow.of h (by simp) rfl

end Go.Proofs.YtaaagmgglolibaaGreat
