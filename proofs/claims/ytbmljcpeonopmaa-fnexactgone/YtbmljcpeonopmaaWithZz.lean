/-
  The given Within and Merged.
  The laws' own helpers over rows of hits: szHitS, toHitS (a copy), eqHitS and likeHits (are two alike), markHitS and heldHitS (what is written is held).
-/
import Derived.Test.YtbmljcpeonopmaaNearZz
import Derived.Test.YtbmljcpeonopmaaMRowZz
import Derived.Test.YtbmljcpeonopmaaMSizeZz
namespace Go.Proofs.Ytbmljcpeonopmaa
open Go Go.RowKit

def keepL (ss : List Ht) (most : Int) (k : Nat) : List Ht := (ss.take k).filter (fun h => decide (h.2 ≤ most))
theorem take_snoc {ss : List Ht} {k : Nat} (hk : k < ss.length) : ss.take (k + 1) = ss.take k ++ [hnth ss k] := by
  rw [List.take_add_one]; congr 1; simp [hnth, List.getD, hk]
theorem keepL_yes {ss : List Ht} {most : Int} {k : Nat} (hk : k < ss.length) (h : (hnth ss k).2 ≤ most) : keepL ss most (k + 1) = keepL ss most k ++ [hnth ss k] := by
  unfold keepL; rw [take_snoc hk, List.filter_append]; simp [h]
theorem keepL_no {ss : List Ht} {most : Int} {k : Nat} (hk : k < ss.length) (h : ¬ (hnth ss k).2 ≤ most) : keepL ss most (k + 1) = keepL ss most k := by
  unfold keepL; rw [take_snoc hk, List.filter_append]; simp [h]
theorem keepL_le (ss : List Ht) (most : Int) (k : Nat) : (keepL ss most k).length ≤ ss.length := by
  unfold keepL
  exact Nat.le_trans (List.length_filter_le _ _) (by simp; omega)
theorem keepL_all (ss : List Ht) (most : Int) : keepL ss most ss.length = ss.filter (fun h => decide (h.2 ≤ most)) := by unfold keepL; rw [List.take_length]

theorem HSeg.grown {w w' : World} {b : Nat} {hs : List Ht} {r : Option Nat} (h : HSeg w b 0 hs) (hb : b < w.heap.size) (hg : w.grownBy w' r) (hr : some b ≠ r) : HSeg w' b 0 hs := fun i hi =>
  ⟨(World.cell?_of_block (w := w) (a := ⟨b, 0 + i * 2, none⟩) (hg.block b hb hr)).trans (h i hi).1, (World.cell?_of_block (w := w) (a := ⟨b, 0 + i * 2 + 1, none⟩) (hg.block b hb hr)).trans (h i hi).2⟩
def onceSt (s : List Int × List Ht) (x : Ht) : List Int × List Ht := if hasB s.1 x.1 = true then s else (s.1 ++ [x.1], s.2 ++ [x])
def onceK (ss : List Ht) (k : Nat) : List Int × List Ht := (ss.take k).foldl onceSt ([], [])
theorem once_fold (l : List Ht) (ids : List Int) (os : List Ht) : (l.foldl onceSt (ids, os)).2 = os ++ onceG ids l := by
  induction l generalizing ids os with
  | nil => simp [onceG]
  | cons x xs ih =>
    simp only [List.foldl_cons, onceSt, onceG]
    split
    · rw [ih]
    · rw [ih]; simp
theorem onceK_all (ss : List Ht) : (onceK ss ss.length).2 = onceL ss := by unfold onceK onceL; rw [List.take_length, once_fold]; rfl
theorem onceK_next {ss : List Ht} {k : Nat} (hk : k < ss.length) : onceK ss (k + 1) = onceSt (onceK ss k) (hnth ss k) := by
  unfold onceK; rw [take_snoc hk, List.foldl_append]; rfl
theorem onceK_le (ss : List Ht) (k : Nat) : (onceK ss k).1.length = (onceK ss k).2.length ∧ (onceK ss k).2.length ≤ k := by
  induction k with
  | zero => simp [onceK]
  | succ k ih =>
    rcases Nat.lt_or_ge k ss.length with h | h
    · rw [onceK_next h]; unfold onceSt; split
      · omega
      · simp; omega
    · have e : onceK ss (k + 1) = onceK ss k := by unfold onceK; rw [List.take_of_length_le h, List.take_of_length_le (by omega)]
      rw [e]; omega
theorem onceK_has {ss : List Ht} {k : Nat} (hk : k < ss.length) (h : hasB (onceK ss k).1 (hnth ss k).1 = true) : onceK ss (k + 1) = onceK ss k := by rw [onceK_next hk]; simp [onceSt, h]
theorem onceK_new {ss : List Ht} {k : Nat} (hk : k < ss.length) (h : hasB (onceK ss k).1 (hnth ss k).1 = false) : onceK ss (k + 1) = ((onceK ss k).1 ++ [(hnth ss k).1], (onceK ss k).2 ++ [hnth ss k]) := by rw [onceK_next hk]; simp [onceSt, h]
theorem sortL_take {aa : List Ht} {k : Nat} (hk : k < aa.length) : sortL (aa.take (k + 1)) = putL (sortL (aa.take k)) (hnth aa k) := by rw [take_snoc hk, sortL_snoc]
theorem sortL_take2 {aa bb : List Ht} {k : Nat} (hk : k < bb.length) : sortL (aa ++ bb.take (k + 1)) = putL (sortL (aa ++ bb.take k)) (hnth bb k) := by rw [take_snoc hk, ← List.append_assoc, sortL_snoc]
theorem one_int {w : World} {n : Nat} {x : Int} (hb : w.heap[n]? = some (.cells #[.int .i64 x] 2 (0, 0))) : SrcAt w 1 (some ⟨n, 0, none⟩) 1 [.int .i64 x] :=
  ⟨rfl, by simp [Value.oneCell'], Or.inr ⟨_, rfl, World.news_of_block (cs := #[.int .i64 x]) hb⟩⟩
theorem Row.snoc {base : Nat} {w' : World} {gg cc : Nat} {xs : List Int} {x : Int} (h : w'.ownsRow base 2 1 (.slice (some ⟨gg, 0, none⟩) (xs.length + 1) cc) (xs.length + 1) (xs.map (Value.int .i64) ++ [.int .i64 x])) : Row base w' gg cc (xs ++ [x]) := by
  unfold Row; rw [List.length_append, List.length_singleton, List.map_append]; exact h
theorem Row.keptBy {base : Nat} {w w' : World} {g c : Nat} {r : Option Nat} {xs : List Int} (h : Row base w g c xs) (hg : w.grownBy w' r) (hr : some g ≠ r) : Row base w' g c xs :=
  World.ownsRow.kept h hg (Or.inr hr)
theorem Row.start (w : World) (base : Nat) (hb : base ≤ w.heap.size) : Row base (w.alloc (.cells #[] 2)) w.heap.size 0 [] := World.ownsRow_lit w #[] 0 hb (Nat.zero_le _) rfl

end Go.Proofs.Ytbmljcpeonopmaa
namespace Go.Proofs.Ytbmljcpeonopmaa
open Go Go.RowKit

theorem hCells_set (l : List Ht) (k : Nat) (x : Ht) : ((hCells l).set (k * 2) (.int .i64 x.1)).set (k * 2 + 1) (.int .i64 x.2) = hCells (l.set k x) := by
  induction l generalizing k with
  | nil => simp [hCells]
  | cons d ds ih =>
    cases k with
    | zero => rfl
    | succ k =>
      rw [show (k + 1) * 2 = k * 2 + 1 + 1 by omega]
      simp only [hCells, List.set_cons_succ, ih]
theorem hCells_rep (n : Nat) : hCells (List.replicate n (0, 0)) = List.replicate (n * 2) (.int .i64 0) := by
  induction n with
  | zero => rfl
  | succ n ih => rw [show (n + 1) * 2 = n * 2 + 1 + 1 by omega]; simp [List.replicate_succ, hCells, ih]
def fillH (hs : List Ht) (k : Nat) : List Ht := hs.take k ++ List.replicate (hs.length - k) (0, 0)
theorem fillH_length (hs : List Ht) (k : Nat) (h : k ≤ hs.length) : (fillH hs k).length = hs.length := by simp [fillH]; omega
theorem fillH_zero (hs : List Ht) : fillH hs 0 = List.replicate hs.length (0, 0) := by simp [fillH]
theorem fillH_all (hs : List Ht) : fillH hs hs.length = hs := by simp [fillH]
theorem fillH_set (hs : List Ht) (k : Nat) (h : k < hs.length) : (fillH hs k).set k (hnth hs k) = fillH hs (k + 1) := by
  unfold fillH
  rw [List.set_append_right _ _ (by simp; omega), take_snoc h, show (hs.take k).length = k by simp; omega, Nat.sub_self]
  rw [show hs.length - k = (hs.length - (k + 1)) + 1 by omega, List.replicate_succ, List.set_cons_zero]
  simp
theorem made_rep (n : Nat) : (madeCells #[.int .i64 0, .int .i64 0] (n * 2)).toList = hCells (List.replicate n (0, 0)) := by
  rw [hCells_rep]
  apply List.ext_getElem
  · simp [size_madeCells]
  · intro i h1 h2
    have hm : i % 2 = 0 ∨ i % 2 = 1 := by omega
    rcases hm with h | h <;> simp [madeCells, h]
end Go.Proofs.Ytbmljcpeonopmaa
