/-
  The program's own hasId.
  The program's own first and upTo: what the heap hands out, in order.
  The program's own upTo, and first of no hits.
-/
import Derived.Test.YtbmljcpeonopmaaHM1Zz
import Derived.Test.YtbmljcpeonopmaaArgsZz
namespace Go.Proofs.Ytbmljcpeonopmaa
open Go Go.RowKit

def hasH (hs : List Ht) (id : Int) : Bool := hasB (hs.map Prod.fst) id
theorem hasH_yes {hs : List Ht} {id : Int} {k : Nat} (hk : k < hs.length) (h : (hnth hs k).1 = id) : hasH hs id = true := by
  unfold hasH hasB
  rw [List.contains_iff_mem, ← h]
  exact List.mem_map_of_mem (hnth_mem hk)
theorem hasH_no {hs : List Ht} {id : Int} (h : ∀ j, j < hs.length → (hnth hs j).1 ≠ id) : hasH hs id = false := by
  rcases hb : hasH hs id with _ | _
  · rfl
  · unfold hasH hasB at hb
    rw [List.contains_iff_mem, List.mem_map] at hb
    obtain ⟨x, hx, e⟩ := hb
    obtain ⟨j, hj, e2⟩ := List.getElem_of_mem hx
    exact absurd (by rw [← e, ← e2]; simp [hnth, List.getD, hj]) (h j hj)

end Go.Proofs.Ytbmljcpeonopmaa
namespace Go.Proofs.Ytbmljcpeonopmaa
open Go Go.RowKit

theorem heap_min {l : List Ht} (h : HeapN l l.length) : ∀ y ∈ l, leH (hnth l 0) y := fun y hy => by
  obtain ⟨j, hj, e⟩ := List.getElem_of_mem hy
  have := heap_first h j hj
  rw [show hnth l j = y by rw [← e]; simp [hnth, List.getD, hj]] at this
  exact this
theorem pop_sorted {x : Ht} {l l' : List Ht} (hp : (x :: l').Perm l) (hm : ∀ y ∈ l, leH x y) : sortL l = x :: sortL l' := by
  refine (sortL_unique (List.pairwise_cons.2 ⟨fun y hy => hm y (hp.mem_iff.1 (List.mem_cons_of_mem _ ((sortL_perm l').mem_iff.1 hy))), sortL_sorted l'⟩) ?_).symm
  exact (List.Perm.cons x (sortL_perm l')).trans hp
theorem sortL_nil : sortL [] = [] := rfl
/-- What is still to come, behind what is taken. -/
theorem first_skip {T l l' : List Ht} {x : Ht} {all : List Ht} (he : T ++ onceG (T.map Prod.fst) (sortL l) = all) (hs : sortL l = x :: sortL l') (hx : hasH T x.1 = true) : T ++ onceG (T.map Prod.fst) (sortL l') = all := by
  rw [← he, hs]
  unfold hasH at hx
  simp [onceG, hx]
theorem first_take {T l l' : List Ht} {x : Ht} {all : List Ht} (he : T ++ onceG (T.map Prod.fst) (sortL l) = all) (hs : sortL l = x :: sortL l') (hx : hasH T x.1 = false) : (T ++ [x]) ++ onceG ((T ++ [x]).map Prod.fst) (sortL l') = all := by
  rw [← he, hs]
  unfold hasH at hx
  simp [onceG, hx]
theorem upto_take {T l l' : List Ht} {x : Ht} {all : List Ht} {most : Int} (he : T ++ (sortL l).filter (fun h => decide (h.2 ≤ most)) = all) (hs : sortL l = x :: sortL l') (hx : x.2 ≤ most) : (T ++ [x]) ++ (sortL l').filter (fun h => decide (h.2 ≤ most)) = all := by
  rw [← he, hs, List.filter_cons_of_pos (by simpa using hx)]
  simp
theorem upto_stop {T l : List Ht} {all : List Ht} {most : Int} (he : T ++ (sortL l).filter (fun h => decide (h.2 ≤ most)) = all) (hs : l = [] ∨ (∀ y ∈ l, leH (hnth l 0) y) ∧ most < (hnth l 0).2) : T = all := by
  rw [← he]
  have : (sortL l).filter (fun h => decide (h.2 ≤ most)) = [] := by
    rw [List.filter_eq_nil_iff]
    intro y hy
    have hy := (sortL_perm l).mem_iff.1 hy
    rcases hs with rfl | ⟨h1, h2⟩
    · cases hy
    · have := h1 y hy
      unfold leH at this
      simp; omega
  rw [this, List.append_nil]
def lenAt (p : Nat) (w : World) : Nat := match w.cell? ⟨p, 0, none⟩ with
  | some (.slice _ n _) => n
  | _ => 0
end Go.Proofs.Ytbmljcpeonopmaa
namespace Go.Proofs.Ytbmljcpeonopmaa
open Go Go.RowKit

end Go.Proofs.Ytbmljcpeonopmaa
