/-
  The program's keyOf: a cell as a key of four numbers.
-/
import Derived.Test.YtodielfilhodeaaGreatGMapZz
import Derived.Test.YtodielfilhodeaaGreatGCellIZz
import Derived.Laws.CopyOwn
namespace Go.Proofs.YtodielfilhodeaaGreat
open Go Go.RowKit

/-- A block of four cells. -/
def Four (w : World) (p : Nat) (a b c d : Value) (t : TypeId) : Prop := w.heap[p]? = some (.cells #[a, b, c, d] t (0, 0))
theorem Four.lt {w : World} {p : Nat} {a b c d : Value} {t : TypeId} (h : Four w p a b c d t) : p < w.heap.size := (Array.getElem?_eq_some_iff.1 h).1
theorem Four.cells {w : World} {p : Nat} {a b c d : Value} {t : TypeId} (h : Four w p a b c d t) : w.cell? ⟨p, 0, none⟩ = some a ∧ w.cell? ⟨p, 1, none⟩ = some b ∧ w.cell? ⟨p, 2, none⟩ = some c ∧ w.cell? ⟨p, 3, none⟩ = some d := by
  unfold Four at h; simp [World.cell?, h]
theorem Four.frozen {w : World} {p : Nat} {a b c d : Value} {t : TypeId} (h : Four w p a b c d t) (j : Nat) : w.frozen? ⟨p, j, none⟩ = false := by unfold Four at h; simp [World.frozen?, h]
theorem Four.new (w : World) (a b c d : Value) (t : TypeId) : Four (w.alloc (.cells #[a, b, c, d] t)) w.heap.size a b c d t := heap_alloc_new w _
theorem Four.set0 {w : World} {p : Nat} {a b c d : Value} {t : TypeId} (h : Four w p a b c d t) (x : Value) : Four (w.setCell ⟨p, 0, none⟩ x) p x b c d t := by
  unfold Four World.setCell at *
  rw [Array.getElem?_modify, if_pos rfl, h]; rfl
theorem Four.set1 {w : World} {p : Nat} {a b c d : Value} {t : TypeId} (h : Four w p a b c d t) (x : Value) : Four (w.setCell ⟨p, 1, none⟩ x) p a x c d t := by
  unfold Four World.setCell at *
  rw [Array.getElem?_modify, if_pos rfl, h]; rfl
theorem Four.set2 {w : World} {p : Nat} {a b c d : Value} {t : TypeId} (h : Four w p a b c d t) (x : Value) : Four (w.setCell ⟨p, 2, none⟩ x) p a b x d t := by
  unfold Four World.setCell at *
  rw [Array.getElem?_modify, if_pos rfl, h]; rfl
theorem Four.set3 {w : World} {p : Nat} {a b c d : Value} {t : TypeId} (h : Four w p a b c d t) (x : Value) : Four (w.setCell ⟨p, 3, none⟩ x) p a b c x t := by
  unfold Four World.setCell at *
  rw [Array.getElem?_modify, if_pos rfl, h]; rfl
theorem below_setCell {B b i : Nat} {w w' : World} (h : Below B w w') (hb : B ≤ b) (v : Value) : Below B w (w'.setCell ⟨b, i, none⟩ v) :=
  h.trans ⟨rfl, rfl, rfl, by simp [World.setCell], fun k hk => Below.heap_setCell _ _ _ _ (by simp only; omega)⟩
def keyC (xs : List Int) : List Value := [.int .i64 (nth xs 0), .int .i64 (nth xs 1), .int .i64 (nth xs 2), .int .i64 (nth xs 3)]
theorem splice_key (xs : List Int) : splice [.int .i64 0, .int .i64 0, .int .i64 0, .int .i64 0] 0 ((xs.take 4).map (Value.int .i64)) = keyC xs := by
  match xs with
  | [] => rfl
  | [a] => rfl
  | [a, b] => rfl
  | [a, b, c] => rfl
  | a :: b :: c :: d :: r => simp [splice, keyC, nth]

set_option maxRecDepth 100000 in
set_option maxHeartbeats 1000000 in
theorem iKeyOf (ao : Option Addr) (cap : Nat) (xs : List Int) (w : World) (hv : View w ao xs) :
    Calls Tryz.prog 81 #[.slice ao xs.length cap] w fun e w' => e = .returned (keyV xs) ∧ Below w.heap.size w w' := by
  obtain ⟨cs, hcs⟩ : ∃ cs, cs = (xs.take 4).map (Value.int .i64) := ⟨_, rfl⟩
  have hcl : cs.length = Nat.min xs.length 4 := by rw [hcs, List.length_map, List.length_take]; exact Nat.min_comm 4 _
  have hone : ∀ v ∈ cs, v.oneCell' = true := by
    intro v h
    rw [hcs] at h
    obtain ⟨x, _, rfl⟩ := List.mem_map.1 h
    rfl
  have hat : ∀ (j : Nat) (v : Value), cs[j]? = some v → j < xs.length ∧ v = .int .i64 (nth xs j) := fun j v h => by
    rw [hcs, List.getElem?_map, List.getElem?_take] at h
    split at h
    · have hj : j < xs.length := by
        rcases Nat.lt_or_ge j xs.length with h1 | h1
        · exact h1
        · rw [List.getElem?_eq_none h1] at h; cases h
      rw [List.getElem?_eq_getElem hj] at h
      refine ⟨hj, ?_⟩
      have := Option.some.inj h
      rw [← this]
      simp [nth, List.getD, hj]
    · cases h
  have HSP := hideP (splice_key xs)
  rw [← hcs] at HSP
  obtain ⟨W1, hW1⟩ : ∃ W1, W1 = w.alloc (.cells #[.int .i64 0, .int .i64 0, .int .i64 0, .int .i64 0] 106) := ⟨_, rfl⟩
  obtain ⟨W2, hW2⟩ : ∃ W2, W2 = W1.alloc (.cells #[.int .i64 0, .int .i64 0, .int .i64 0, .int .i64 0] 106) := ⟨_, rfl⟩
  have hz1 : W1.heap.size = w.heap.size + 1 := by rw [hW1]; simp
  have F1 : Four W1 w.heap.size (.int .i64 0) (.int .i64 0) (.int .i64 0) (.int .i64 0) 106 := by rw [hW1]; exact Four.new w _ _ _ _ _
  have F2 : Four W2 (w.heap.size + 1) (.int .i64 0) (.int .i64 0) (.int .i64 0) (.int .i64 0) 106 := by rw [hW2, ← hz1]; exact Four.new W1 _ _ _ _ _
  have LA : Below w.heap.size w W1 := by rw [hW1]; exact (Below.refl _ _).alloc (Nat.le_refl _) _
  have LB : Below (w.heap.size + 1) W1 W2 := by rw [hW2]; exact (Below.refl _ _).alloc (by omega) _
  have HSRC : Hid (∀ w2, Below w.heap.size w w2 → 0 < cs.length → ∃ ad, ao = some ad ∧ ∀ j v, cs[j]? = some v → w2.cell? (ad.add j) = some v) := fun w2 L h0 => by
    rcases hv with h | ⟨b, off, e, hb, hs⟩
    · rw [hcl, h] at h0; simp at h0
    · refine ⟨_, e, fun j v hjv => ?_⟩
      obtain ⟨hj, rfl⟩ := hat j v hjv
      have := (L.cell (p := ⟨b, off + j, none⟩) hb).trans (hs j hj)
      by_cases hj0 : j = 0
      · subst hj0; simpa [Addr.add] using this
      · simpa [Addr.add, hj0] using this
  have HLA := hideP LA
  have HF1 := hideP F1
  have L2 := LA.trans (LB.mono (by omega))
  obtain ⟨w4, hcp, hg4, hb4⟩ : ∃ w4, (Builtin.copy_ #[28, 28] 3 #[.slice (some ⟨w.heap.size + 1, 0, none⟩) 4 4, .slice ao xs.length cap]).run Tryz.prog W2 = .ok (goInt cs.length) w4 ∧ w4.heap[w.heap.size + 1]? = some (.cells (keyC xs).toArray 106 (0, 0)) ∧ Below (w.heap.size + 1) W1 w4 := by
    by_cases h0 : cs.length = 0
    · have e0 : cs = [] := List.eq_nil_of_length_eq_zero h0
      have hrun := run_copy_none (P := Tryz.prog) W2 28 28 3 2 (some ⟨w.heap.size + 1, 0, none⟩) ao 4 4 xs.length cap Tryz.underlying28 (by kernel_rfl) (by rw [← hcl]; exact h0)
      refine ⟨W2, by rw [hrun, h0]; rfl, ?_, LB⟩
      have := HSP.out
      rw [e0] at this
      rw [← this]
      exact F2
    · obtain ⟨ad, rfl, hsrc⟩ := HSRC.out W2 L2 (by omega)
      have h4 : cs.length ≤ 4 := by rw [hcl]; exact Nat.min_le_right _ _
      have hrun := run_copy_row (P := Tryz.prog) W2 28 28 3 2 (w.heap.size + 1) 0 4 4 ad xs.length cap #[.int .i64 0, .int .i64 0, .int .i64 0, .int .i64 0] 106 cs Tryz.underlying28 (by kernel_rfl) F2 hcl hsrc (by simpa using h4) hone
      refine ⟨_, hrun, ?_, below_setRow LB (Nat.le_refl _) _⟩
      rw [← HSP.out]
      exact setRow_heap W2 (w.heap.size + 1) _ _ 106 _ F2
  subst hW2 hW1
  clear LA LB L2 hcs hat hv F1 F2 HSRC HSP hone hcl hz1
  have F4 : Four w4 (w.heap.size + 1) (.int .i64 (nth xs 0)) (.int .i64 (nth xs 1)) (.int .i64 (nth xs 2)) (.int .i64 (nth xs 3)) 106 := hg4
  have G4 : Four w4 w.heap.size (.int .i64 0) (.int .i64 0) (.int .i64 0) (.int .i64 0) 106 := (hb4.block w.heap.size (by omega)).trans HF1.out
  have HL4 := hideP (HLA.out.trans (hb4.mono (by omega)))
  clear hg4 hb4
  obtain ⟨c0, c1, c2, c3⟩ := F4.cells
  obtain ⟨d0, d1, d2, d3⟩ := G4.cells
  have f0 := G4.frozen 0
  have f1 := G4.frozen 1
  have f2 := G4.frozen 2
  have f3 := G4.frozen 3
  have G5 := (((G4.set0 (.int .i64 (nth xs 0))).set1 (.int .i64 (nth xs 1))).set2 (.int .i64 (nth xs 2))).set3 (.int .i64 (nth xs 3))
  obtain ⟨e0, e1, e2, e3⟩ := G5.cells
  clear F4 G4 G5
  go_enter Tryz.func81, Tryz.ntmps81
  go_wp2_with fail
  refine bodyPost_ret (v := keyV xs) (by simp [results, Tryz.results81, go_sem, e0, e1, e2, e3, keyV]) rfl ?_
  exact ⟨rfl, below_setCell (below_setCell (below_setCell (below_setCell HL4.out (Nat.le_refl _) _) (Nat.le_refl _) _) (Nat.le_refl _) _) (Nat.le_refl _) _⟩

end Go.Proofs.YtodielfilhodeaaGreat
