/-
  Rows of values of one cell each: what slices.Insert leaves (no program is named here).
  The library's slices.Insert over numbers (elements of one cell): one more at a place, in place or in a new row.
-/
import Derived.Test.YtbmljcpeonopmaaHCellsZz
import Derived.Test.YtbmljcpeonopmaaArgsZz
import Derived.Test.YtbmljcpeonopmaaBCopyZz
import Derived.Test.YtbmljcpeonopmaaAppendZz
import Derived.Shelf.Spec.SlicesInsert
import Derived.Laws.CopyOwn
import Derived.Lib.AppendZerosOnto
import Derived.Deep.RegionHeld3
namespace Go.Proofs.Ytbmljcpeonopmaa
open Go Go.RowKit

/-- copy(dst, src): some cells of a row that is known whole, elements of some cells. -/
theorem run_copy_part {P : Program} (w : World) (dT sT ty elem : TypeId) (g o dLen dCap : Nat) (a : Addr) (sLen sCap size : Nat) (cur : List Value) (t : TypeId) (cs : List Value)
    (hu : P.underlying dT = some (.slice elem)) (hs : (P.info? elem).map (·.size) = some size)
    (hg : w.heap[g]? = some (.cells cur.toArray t (0, 0))) (hn : cs.length = Nat.min sLen dLen * size) (hfit : o + cs.length ≤ cur.length)
    (hsrc : ∀ j v, cs[j]? = some v → w.cell? (a.add j) = some v) (h1 : ∀ v ∈ cs, v.oneCell' = true) :
    (Builtin.copy_ #[dT, sT] ty #[.slice (some ⟨g, o, none⟩) dLen dCap, .slice (some a) sLen sCap]).run P w = .ok (goInt (Nat.min sLen dLen)) (w.setRow g (splice cur o cs).toArray) := by
  have hl := run_loadCells_list (P := P) w a cs hsrc
  have hst := run_storeCells_at P g o t cs 0 cur.toArray w hg (by simpa using hfit) h1
  have e : (cur.toArray.toList.take (o + 0) ++ cs ++ cur.toArray.toList.drop (o + 0 + cs.length)).toArray = (splice cur o cs).toArray := by
    simp [splice]
  rw [e] at hst
  cases hq : P.info? elem with
  | none => simp [hq] at hs
  | some i =>
    have hi : i.size = size := by simpa [hq] using hs
    rw [hn] at hl
    simp [Builtin.copy_, run_underlying hu, Builtin.lenOf, Builtin.firstCells, sizeOf, typeInfo, hq, hi, hl, hst]
theorem ins_cells1 {A B S X : List Value} (hX : X.length = 1) (hS : 1 ≤ S.length) :
    splice (splice (A ++ (B ++ S)) (A.length + 1) B) A.length X = A ++ (X ++ (B ++ S.drop 1)) := by
  have e1 : splice (A ++ (B ++ S)) (A.length + 1) B = A ++ ((B ++ S).take 1 ++ (B ++ S.drop 1)) := by
    unfold splice
    rw [List.take_append, List.drop_append]
    rw [List.take_of_length_le (by omega : A.length ≤ A.length + 1), List.drop_of_length_le (by omega : A.length ≤ A.length + 1 + B.length)]
    rw [show A.length + 1 - A.length = 1 by omega, show A.length + 1 + B.length - A.length = B.length + 1 by omega]
    rw [List.drop_append, List.drop_of_length_le (by omega : B.length ≤ B.length + 1), show B.length + 1 - B.length = 1 by omega]
    simp
  have h2 : ((B ++ S).take 1).length = 1 := by simp; omega
  rw [e1]
  unfold splice
  rw [List.take_left', List.drop_append, hX]
  · rw [List.drop_of_length_le (by omega : A.length ≤ A.length + 1), show A.length + 1 - A.length = 1 by omega]
    rw [List.drop_left' h2]
    simp
  · rfl
theorem grow_cells1 {A B Z X : List Value} (hX : X.length = 1) :
    splice (splice (A ++ Z) A.length X) (A.length + 1) B = A ++ (X ++ (B ++ Z.drop (1 + B.length))) := by
  have e1 : splice (A ++ Z) A.length X = A ++ (X ++ Z.drop 1) := by
    unfold splice
    rw [List.take_left', List.drop_append, hX]
    · rw [List.drop_of_length_le (by omega : A.length ≤ A.length + 1), show A.length + 1 - A.length = 1 by omega]
      simp
    · rfl
  rw [e1]
  have e2 : A ++ (X ++ Z.drop 1) = (A ++ X) ++ Z.drop 1 := by simp
  have hl : (A ++ X).length = A.length + 1 := by simp [hX]
  rw [e2]
  unfold splice
  rw [List.take_left' hl, List.drop_append, hl]
  rw [List.drop_of_length_le (by omega : (A ++ X).length ≤ A.length + 1 + B.length), show A.length + 1 + B.length - (A.length + 1) = B.length by omega, List.drop_drop]
  simp [Nat.add_comm]
def Seg2 (w : World) (g : Nat) (cs : List Value) : Prop := ∀ j v, cs[j]? = some v → w.cell? ⟨g, j, none⟩ = some v
/-- A block of one cell. -/
def One (w : World) (p : Nat) (v : Value) (t : TypeId) : Prop := w.heap[p]? = some (.cells #[v] t (0, 0))
theorem One.lt {w : World} {p : Nat} {v : Value} {t : TypeId} (h : One w p v t) : p < w.heap.size := by
  unfold One at h
  rcases Nat.lt_or_ge p w.heap.size with h1 | h1
  · exact h1
  · rw [Array.getElem?_eq_none h1] at h; cases h
theorem One.c0 {w : World} {p : Nat} {v : Value} {t : TypeId} (h : One w p v t) : w.cell? ⟨p, 0, none⟩ = some v := by unfold One at h; simp [World.cell?, h]
theorem One.frozen {w : World} {p : Nat} {v : Value} {t : TypeId} (h : One w p v t) (j : Nat) : w.frozen? ⟨p, j, none⟩ = false := by unfold One at h; simp [World.frozen?, h]
theorem One.below {w w' : World} {p : Nat} {v : Value} {t : TypeId} (h : One w p v t) (hb : Below w.heap.size w w') : One w' p v t := (hb.block p h.lt).trans h
theorem One.new (w : World) (v : Value) (t : TypeId) : One (w.alloc (.cells #[v] t)) w.heap.size v t := heap_alloc_new w _
end Go.Proofs.Ytbmljcpeonopmaa
namespace Go.Proofs.Ytbmljcpeonopmaa
open Go Go.RowKit

theorem info_elI : (Try.prog.info? 2).map (fun i => (i.zero, i.size, i.bytes)) = some (some (Value.int .i64 0), 1, 8) := by kernel_rfl
/-- A row of values of one cell, of the call's own. -/
def VRowI (base : Nat) (w : World) (g c : Nat) (vs : List Value) : Prop := w.ownsRow base 2 1 (.slice (some ⟨g, 0, none⟩) vs.length c) vs.length vs
theorem VRowI.lt {base : Nat} {w : World} {g c : Nat} {vs : List Value} (h : VRowI base w g c vs) : base ≤ g ∧ g < w.heap.size := World.ownsRow.lt h g rfl
theorem vrow_cellsI {base : Nat} {w : World} {g c : Nat} {vs : List Value} (h : VRowI base w g c vs) : ∃ S : List Value, w.heap[g]? = some (.cells (vs ++ S).toArray 2 (0, 0)) ∧ S.length = c - vs.length ∧ base ≤ g ∧ vs.length ≤ c ∧ c ≤ maxLen := by
  obtain ⟨h1, h2⟩ := h
  rcases h2 with ⟨e, _⟩ | ⟨g', cp, cur, e, hb, hg, hnc, hcm, hsz, htk⟩
  · cases e
  · injection e with e1 e2 e3
    injection e1 with e1
    injection e1 with e1
    subst e1 e3
    rw [Nat.mul_one] at htk hsz
    refine ⟨cur.toList.drop vs.length, ?_, ?_, hb, hnc, hcm⟩
    · have : (vs ++ cur.toList.drop vs.length).toArray = cur := by
        have e := List.take_append_drop vs.length cur.toList
        rw [htk] at e
        rw [e]
      rw [this]; exact hg
    · rw [List.length_drop, Array.length_toList, hsz]
theorem vrow_ofI {base : Nat} {w : World} {g c : Nat} {vs : List Value} {S : List Value} (hg : w.heap[g]? = some (.cells (vs ++ S).toArray 2 (0, 0))) (hS : S.length = c - vs.length) (hb : base ≤ g) (hnc : vs.length ≤ c) (hcm : c ≤ maxLen) : VRowI base w g c vs := by
  refine ⟨by simp, Or.inr ⟨g, c, _, rfl, hb, hg, hnc, hcm, ?_, ?_⟩⟩
  · simp [hS]; omega
  · have e : (vs ++ S).toArray.toList = vs ++ S := rfl
    rw [e, Nat.mul_one, List.take_left' rfl]

theorem VRowI.of {base : Nat} {w : World} {g c n : Nat} {vs xs : List Value} (h : w.ownsRow base 2 1 (.slice (some ⟨g, 0, none⟩) n c) n xs) (hn : n = vs.length) (hx : xs = vs) : VRowI base w g c vs := by
  subst hn hx; exact h

end Go.Proofs.Ytbmljcpeonopmaa
