/-
  Rows of numbers in a row of rows, each nothing or of the call's own.
-/
import Derived.Test.YtfbindjacmaeoaaEWlk3Zz
import Derived.Test.YtfbindjacmaeoaaEDr3Zz
namespace Go.Proofs.Ytfbindjacmaeoaa
open Go Go.RowKit

structure NMem (base : Nat) (w : World) (g k : Nat) (V : Nat → Value) (X : Nat → List Int) : Prop where
  lo : base ≤ g
  row : w.heap[g]? = some (.cells ((List.range k).map V).toArray 36)
  own : ∀ i, i < k → w.ownsRow (g + 1) 2 1 (V i) (X i).length ((X i).map (Value.int .i64))
  apart : ∀ i j, i < k → j < k → i ≠ j → (V i).ownBlock = none ∨ (V i).ownBlock ≠ (V j).ownBlock
theorem NMem.lt {base : Nat} {w : World} {g k : Nat} {V : Nat → Value} {X : Nat → List Int} (h : NMem base w g k V X) : g < w.heap.size := by
  rcases Nat.lt_or_ge g w.heap.size with h1 | h1
  · exact h1
  · have := h.row; rw [Array.getElem?_eq_none h1] at this; cases this
theorem NMem.cell {base : Nat} {w : World} {g k : Nat} {V : Nat → Value} {X : Nat → List Int} (h : NMem base w g k V X) {i : Nat} (hi : i < k) : w.cell? ⟨g, i, none⟩ = some (V i) := by
  simp only [World.cell?, h.row]
  simp [hi]
theorem NMem.frozen {base : Nat} {w : World} {g k : Nat} {V : Nat → Value} {X : Nat → List Int} (h : NMem base w g k V X) (i : Nat) : w.frozen? ⟨g, i, none⟩ = false := by simp [World.frozen?, h.row]
theorem own_form {w : World} {b : Nat} {v : Value} {xs : List Int} (h : w.ownsRow b 2 1 v xs.length (xs.map (Value.int .i64))) : ∃ a c, v = .slice a xs.length c ∧ View w a xs := by
  obtain ⟨h1, ⟨rfl, h2⟩ | ⟨g, cap, cur, rfl, h3⟩⟩ := h
  · exact ⟨none, 0, by rw [h2], Or.inl (List.length_eq_zero_iff.1 h2)⟩
  · have hr : IRow b w g cap xs := ⟨h1, Or.inr ⟨g, cap, cur, rfl, h3⟩⟩
    exact ⟨some ⟨g, 0, none⟩, cap, rfl, hr.view⟩
theorem NMem.view {base : Nat} {w : World} {g k : Nat} {V : Nat → Value} {X : Nat → List Int} (h : NMem base w g k V X) : CView w (some ⟨g, 0, none⟩) ((List.range k).map X) := by
  refine Or.inr ⟨g, 0, rfl, h.lt, fun i hi => ?_⟩
  have hi' : i < k := by simpa using hi
  obtain ⟨a, c, e, hv⟩ := own_form (h.own i hi')
  have ec : cn ((List.range k).map X) i = X i := by rw [cn_at hi]; simp
  rw [ec, Nat.zero_add]
  exact ⟨a, c, (h.cell hi').trans (by rw [e]), hv⟩
theorem own_same {w w' : World} {b : Nat} {v : Value} {n : Nat} {xs : List Value} (h : w.ownsRow b 2 1 v n xs) (e : ∀ g, v.ownBlock = some g → w'.heap[g]? = w.heap[g]?) : w'.ownsRow b 2 1 v n xs := by
  obtain ⟨h1, h2 | ⟨g, cap, cur, rfl, hb, hg, h3⟩⟩ := h
  · exact ⟨h1, Or.inl h2⟩
  · exact ⟨h1, Or.inr ⟨g, cap, cur, rfl, hb, (e g rfl).trans hg, h3⟩⟩
theorem own_lt {w : World} {b : Nat} {v : Value} {n : Nat} {xs : List Value} (h : w.ownsRow b 2 1 v n xs) {g : Nat} (e : v.ownBlock = some g) : b ≤ g ∧ g < w.heap.size := World.ownsRow.lt h g e
theorem NMem.below {base : Nat} {w w' : World} {g k : Nat} {V : Nat → Value} {X : Nat → List Int} (h : NMem base w g k V X) (L : Below w.heap.size w w') : NMem base w' g k V X :=
  ⟨h.lo, (L.block g h.lt).trans h.row, fun i hi => own_same (h.own i hi) (fun q e => L.block q (own_lt (h.own i hi) e).2), h.apart⟩
theorem NMem.start (w : World) (base k : Nat) (hb : base ≤ w.heap.size) : NMem base (w.alloc (.cells (madeCells #[.slice none 0 0] (k * 1)) 36)) w.heap.size k (fun _ => .slice none 0 0) (fun _ => []) := by
  have e : madeCells #[.slice none 0 0] (k * 1) = ((List.range k).map (fun _ => Value.slice none 0 0)).toArray := by
    apply Array.ext
    · simp [size_madeCells]
    · intro i h1 h2
      simp [madeCells, Nat.mod_one]
  refine ⟨hb, ?_, fun i _ => ⟨rfl, Or.inl ⟨rfl, rfl⟩⟩, fun i j _ _ _ => Or.inl rfl⟩
  rw [e]
  show (w.heap.push _)[w.heap.size]? = _
  simp
def upd {α : Type} (f : Nat → α) (m : Nat) (v : α) (i : Nat) : α := if i = m then v else f i
theorem upd_map {α : Type} (f : Nat → α) (k m : Nat) (v : α) : ((List.range k).map f).set m v = (List.range k).map (upd f m v) := by
  apply List.ext_getElem
  · simp
  · intro i h1 h2
    simp only [List.getElem_set, List.getElem_map, List.getElem_range, upd]
    by_cases h : m = i
    · rw [if_pos h, if_pos h.symm]
    · rw [if_neg h, if_neg (fun e => h e.symm)]
theorem NMem.put {base : Nat} {w w8 : World} {g k : Nat} {V : Nat → Value} {X : Nat → List Int} (h : NMem base w g k V X) {m : Nat} (hm : m < k) (o : Obj) {gg cap : Nat} {x : Int} (hown : w8.ownsRow (g + 1) 2 1 (.slice (some ⟨gg, 0, none⟩) ((X m).length + 1) cap) ((X m).length + 1) ((X m).map (Value.int .i64) ++ [.int .i64 x]))
    (hg : (w.alloc o).grownBy w8 (V m).ownBlock) (hat : (V m).ownBlock = some gg ∨ gg = w.heap.size + 1) :
    NMem base (w8.setCell ⟨g, m, none⟩ (.slice (some ⟨gg, 0, none⟩) ((X m).length + 1) cap)) g k (upd V m (.slice (some ⟨gg, 0, none⟩) ((X m).length + 1) cap)) (upd X m (X m ++ [x])) := by
  have hgl := h.lt
  have hnb : ∀ q, (V m).ownBlock = some q → g + 1 ≤ q ∧ q < w.heap.size := fun q e => own_lt (h.own m hm) e
  have hal : ∀ i, i < w.heap.size → (w.alloc o).heap[i]? = w.heap[i]? := fun i hi => (World.grownBy_alloc w o none).block i hi (by simp)
  have h8 : ∀ i, i < w.heap.size → (V m).ownBlock ≠ some i → w8.heap[i]? = w.heap[i]? := fun i hi hne => (hg.block i (by simp; omega) (fun e => hne e.symm)).trans (hal i hi)
  have hs : ∀ i, i ≠ g → (w8.setCell ⟨g, m, none⟩ (.slice (some ⟨gg, 0, none⟩) ((X m).length + 1) cap)).heap[i]? = w8.heap[i]? := fun i hi => Below.heap_setCell w8 ⟨g, m, none⟩ _ i (fun e => hi e)
  have hggl : g + 1 ≤ gg := by rcases hat with e | e; exact (hnb gg e).1; omega
  have hother : ∀ i, i < k → i ≠ m → (V i).ownBlock = none ∨ (V i).ownBlock ≠ some gg := fun i hi hne => by
    rcases h.apart i m hi hm hne with e | e
    · exact Or.inl e
    · refine Or.inr (fun e' => ?_)
      rcases hat with e2 | e2
      · exact e (e'.trans e2.symm)
      · have := own_lt (h.own i hi) e'; omega
  refine ⟨h.lo, ?_, fun i hi => ?_, fun i j hi hj hij => ?_⟩
  · have hr8 := (h8 g hgl (fun e => by have := (hnb g e).1; omega)).trans h.row
    simp only [World.setCell, Array.getElem?_modify, hr8]
    simp [upd_map]
  · by_cases him : i = m
    · subst him
      rw [upd, if_pos rfl, upd, if_pos rfl, List.length_append, List.length_singleton, List.map_append]
      exact own_same hown (fun q e => hs q (by have : gg = q := by simpa [Value.ownBlock] using e
                                               omega))
    · rw [upd, if_neg him, upd, if_neg him]
      refine own_same (h.own i hi) (fun q e => ?_)
      have hq := own_lt (h.own i hi) e
      refine (hs q (by omega)).trans (h8 q hq.2 (fun e' => ?_))
      rcases h.apart i m hi hm him with e2 | e2
      · rw [e2] at e; cases e
      · exact e2 (e.trans e'.symm)
  · by_cases him : i = m
    · subst him
      rw [upd, if_pos rfl, upd, if_neg (fun e => hij e.symm)]
      rcases hother j hj (fun e => hij e.symm) with e | e
      · right; rw [e]; simp [Value.ownBlock]
      · right; intro e'; exact e (e'.symm.trans rfl)
    · rw [upd, if_neg him]
      by_cases hjm : j = m
      · rw [upd, if_pos hjm]
        rcases hother i hi him with e | e
        · exact Or.inl e
        · right; intro e'; exact e (e'.trans rfl)
      · rw [upd, if_neg hjm]
        exact h.apart i j hi hj hij

end Go.Proofs.Ytfbindjacmaeoaa
