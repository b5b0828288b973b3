/-
  What stays while the law's own helpers write over what it handed in and what it was handed.
-/
import Derived.Test.YthcjkneifkmkdaaJSize
import Derived.Test.YthcjkneifkmkdaaGOut
namespace Go.Proofs.Ythcjkneifkmkdaa
open Go Go.RowKit

/-- What lies ahead of B is as it was. -/
def Ahead (B : Nat) (w w' : World) : Prop := ∀ i, i < B → w'.heap[i]? = w.heap[i]?
theorem ahead_below {B : Nat} {w w' : World} (h : B ≤ w.heap.size) (L : Below w.heap.size w w') : Ahead B w w' := fun i hi => L.block i (by omega)
theorem ahead_gin {B lo hi : Nat} {w w' : World} (h : B ≤ w.heap.size) (G : GIn lo hi w w') (hl : B ≤ lo) : Ahead B w w' := fun i hi => G.2.2.2.2 i (by omega) (Or.inl (by omega))
theorem ahead_drewN {B : Nat} (w : World) (n : Nat) : Ahead B w (w.drewN n) := fun _ _ => rfl
theorem IRow.ahead {base B : Nat} {w w' : World} {g c : Nat} {xs : List Int} (h : IRow base w g c xs) (hg : g < B) (a : Ahead B w w') : IRow base w' g c xs := h.same (a g hg)
theorem LMem.ahead {base B : Nat} {w w' : World} {g c : Nat} {rs : List Rw} (h : LMem base w g c rs) (hB : ∀ i, (i = g ∨ ∃ r ∈ rs, i = r.1) → i < B) (a : Ahead B w w') : LMem base w' g c rs := h.same (fun i hi => a i (hB i hi))
/-- What was handed in, still whole. -/
structure InA (w : World) (bx hx by' hy : Nat) (ms : List Mk) (ls : List (List Int)) : Prop where
  mp : MPart w bx ms.length ms.length ms
  mo : MOver w bx hx ms
  cp : CPart w by' ls.length ls.length ls
  co : COver w by' hy ls
  le : hx ≤ by' ∧ hy ≤ w.heap.size ∧ bx < hx ∧ by' < hy
theorem InA.below {w w' : World} {bx hx by' hy : Nat} {ms : List Mk} {ls : List (List Int)} (h : InA w bx hx by' hy ms ls) (L : Below w.heap.size w w') : InA w' bx hx by' hy ms ls :=
  ⟨h.mp.below (Nat.le_refl _) L, h.mo.below (by have := h.le; omega) L, h.cp.below (Nat.le_refl _) L, h.co.below h.le.2.1 L, h.le.1, Nat.le_trans h.le.2.1 L.size, h.le.2.2⟩
theorem InA.mk' {w1 w2 : World} {bx by' : Nat} {ms : List Mk} {ls : List (List Int)} (p : MPart w1 bx ms.length ms.length ms) (L : Below w1.heap.size w1 w2) (q : CPart w2 by' ls.length ls.length ls) (hb : w1.heap.size ≤ by') : InA w2 bx w1.heap.size by' w2.heap.size ms ls :=
  ⟨p.below (Nat.le_refl _) L, p.over.below (Nat.le_refl _) L, q, q.over, hb, Nat.le_refl _, p.1, q.1⟩
theorem given_short (ms : List Mk) (cs : List (List Int)) : (givenL ms cs).length ≤ 60 := by
  rcases hc : ctrsB ms cs with _ | _
  · simp [givenL, hc]
  · rw [givenL, if_pos hc, tabL_length]
    exact marksB_len (toldB_of (ctrsB_of hc).2.2.2).1
theorem shift_short (ms : List Mk) (cs : List (List Int)) : (shiftL ms cs).length ≤ 60 ∧ ∀ l ∈ shiftL ms cs, l.length ≤ 4 := by
  rcases hc : ctrsB ms cs with _ | _
  · simp [shiftL, hc]
  · refine ⟨by rw [shiftL_length hc]; have := (ctrsB_of hc).2.1; omega, fun l hl => ?_⟩
    rw [shiftL, if_pos hc] at hl
    obtain ⟨i, hi, rfl⟩ := List.mem_map.1 hl
    rw [shiftP_length]
    exact (okB_len (ctrs_len hc (List.mem_range.1 hi)).1).2
theorem rows_small {R : List (List Int)} (h : R.length ≤ 60 ∧ ∀ l ∈ R, l.length ≤ 4) : CSmall R := by
  refine ⟨by omega, fun i => ?_⟩
  rcases Nat.lt_or_ge i R.length with hi | hi
  · rw [cn_at hi]
    have := h.2 _ (List.getElem_mem hi)
    omega
  · simp [cn, List.getD, hi]

end Go.Proofs.Ythcjkneifkmkdaa
