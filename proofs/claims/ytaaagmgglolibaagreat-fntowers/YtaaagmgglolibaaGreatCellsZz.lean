import Derived.WalkKit
import Derived.Deep.OwnRows
import Derived.Deep.Draws
import Derived.Test.YtaaagmgglolibaaGreatMathZz
namespace Go.Proofs.YtaaagmgglolibaaGreat
open Go Go.RowKit
def Zff (xs : List Int) : Array Value := (xs.map (Value.int .i64)).toArray
def Zcj (g : Nat -> Int) (n k : Nat) : Array Value := Zff (ZaW g k ++ List.replicate (n - k) 0)
def Seg (w : World) (b off : Nat) (xs : List Int) : Prop := ∀ i, i < xs.length -> w.cell? ⟨b, off + i, none⟩ = some (.int .i64 (nth xs i))
theorem Zni (xs : List Int) (i : Nat) (h : i < xs.length) : (Zff xs)[i]? = some (.int .i64 (nth xs i)) := by
 simp [Zff, nth, List.getD, h]
theorem Zhw (g : Nat -> Int) (n : Nat) : Zcj g n 0 = madeCells #[.int .i64 0] n := by
 apply Array.ext
 · simp [Zcj, Zff, madeCells, ZaW]
 · intro i h1 h2
   simp [Zcj, Zff, madeCells, ZaW, Nat.mod_one]
theorem Zhx (g : Nat -> Int) (n k : Nat) (h : k < n) : (Zcj g n k)[k]? = some (.int .i64 0) := by
 unfold Zcj Zff
 rw [List.getElem?_toArray, List.getElem?_map, List.getElem?_append_right (by rw [ZC]; exact Nat.le_refl _), ZC, Nat.sub_self, List.getElem?_replicate, if_pos (by omega)]
 rfl
theorem ZiG (g : Nat -> Int) (n k : Nat) (h : k < n) : (Zcj g n k).setIfInBounds k (.int .i64 (g k)) = Zcj g n (k + 1) := by
 apply Array.ext_getElem?
 intro j
 simp only [Zcj, Zff, List.setIfInBounds_toArray, List.getElem?_toArray, Zgm]
 rw [List.getElem?_set]
 by_cases hj : k = j
 · subst hj
   rw [if_pos rfl, if_pos (by simp [ZC]; omega), List.getElem?_map, List.append_assoc, List.getElem?_append_right (by rw [ZC]; exact Nat.le_refl _), ZC, Nat.sub_self]
   rfl
 · rw [if_neg hj, List.getElem?_map, List.getElem?_map, List.append_assoc]
   by_cases hlt : j < k
   · rw [List.getElem?_append_left (by rw [ZC]; exact hlt), List.getElem?_append_left (by rw [ZC]; exact hlt)]
   · rw [List.getElem?_append_right (by rw [ZC]; omega), List.getElem?_append_right (by rw [ZC]; omega), ZC, List.getElem?_append_right (by simp; omega)]
     simp only [List.length_cons, List.length_nil, List.getElem?_replicate]
     by_cases hjn : j < n
     · rw [if_pos (by omega), if_pos (by omega)]
     · rw [if_neg (by omega), if_neg (by omega)]
theorem ZiH (g : Nat -> Int) (n : Nat) : Zcj g n n = Zff (ZaW g n) := by simp [Zcj]
theorem Seg.alloc {w : World} {b off : Nat} {xs : List Int} (h : Seg w b off xs) (hb : b < w.heap.size) (o : Obj) : Seg (w.alloc o) b off xs := fun i hi => by
 rw [World.cell?_alloc_past _ _ _ hb]; exact h i hi
theorem Seg.below {w w' : World} {B b off : Nat} {xs : List Int} (h : Seg w b off xs) (hb : b < B) (hw : Below B w w') : Seg w' b off xs := fun i hi =>
 (hw.cell (p := ⟨b, off + i, none⟩) hb).trans (h i hi)
def Own (w : World) (b : Nat) (xs : List Int) : Prop := w.heap[b]? = some (.cells (Zff xs) 2)
theorem Own.cell {w : World} {b : Nat} {xs : List Int} (h : Own w b xs) (i : Nat) : w.cell? ⟨b, i, none⟩ = (Zff xs)[i]? := by
 unfold Own at h; simp [World.cell?, h]
theorem Own.seg {w : World} {b : Nat} {xs : List Int} (h : Own w b xs) : Seg w b 0 xs := fun i hi => by
 rw [Nat.zero_add, h.cell]; exact Zni xs i hi
theorem Own.new (w : World) (xs : List Int) : Own (w.alloc (.cells (Zff xs) 2)) w.heap.size xs := by
 show (w.heap.push _)[w.heap.size]? = _
 simp
theorem Own.drewN {w : World} {b : Nat} {xs : List Int} (h : Own w b xs) (n : Nat) : Own (w.drewN n) b xs := h
theorem Seg.drewN {w : World} {b off : Nat} {xs : List Int} (h : Seg w b off xs) (n : Nat) : Seg (w.drewN n) b off xs := h
def Zq (w : World) (ao : Option Addr) (xs : List Int) : Prop := xs = [] \/ ∃ b off, ao = some ⟨b, off, none⟩ /\ b < w.heap.size /\ Seg w b off xs
theorem Zq.below {w w' : World} {B : Nat} {ao : Option Addr} {xs : List Int} (h : Zq w ao xs) (hB : w.heap.size <= B) (hw : Below B w w') : Zq w' ao xs := by
 rcases h with h | ⟨b, off, e, hb, hs⟩
 · exact Or.inl h
 · exact Or.inr ⟨b, off, e, Nat.lt_of_lt_of_le hb hw.size, hs.below (Nat.lt_of_lt_of_le hb hB) hw⟩
theorem Zq.drewN {w : World} {ao : Option Addr} {xs : List Int} (h : Zq w ao xs) (n : Nat) : Zq (w.drewN n) ao xs := h
theorem Znj (w : World) (c : Array Value) (t : TypeId) (m k : Nat) (v : Value) :
 ((w.alloc (.cells c t)).drewN m).setCell ⟨w.heap.size, k, none⟩ v = (w.alloc (.cells (c.setIfInBounds k v) t)).drewN m := by
 show ((w.alloc (.cells c t)).setCell ⟨w.heap.size, k, none⟩ v).drewN m = _
 rw [World.setCell_alloc_at _ _ _ _ _ rfl]
theorem Zeq {xs ys : List Int} (hl : xs.length = ys.length) (h : ∀ j, j < xs.length -> nth xs j = nth ys j) : xs = ys := by
 apply List.ext_getElem hl
 intro i h1 h2
 have := h i h1
 simpa [nth, List.getD, h1, h2] using this
end Go.Proofs.YtaaagmgglolibaaGreat
