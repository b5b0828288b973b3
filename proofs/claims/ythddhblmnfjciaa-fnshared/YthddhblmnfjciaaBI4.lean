/-
  The program's own Around.
-/
import Derived.Test.YthddhblmnfjciaaBI1
import Derived.Test.YthddhblmnfjciaaMOk3
import Derived.Test.YthddhblmnfjciaaBMark2
import Derived.Test.YthddhblmnfjciaaGrown
namespace Go.Proofs.Ythddhblmnfjciaa
open Go Go.RowKit

theorem low_eq (ms : List Mk) (k j : Nat) : loP (mat ms) k j = lowTo ms k j := by
  induction j with
  | zero => rfl
  | succ j ih => simp only [loP, lowTo, ih]; omega
theorem high_eq (ms : List Mk) (k j : Nat) : hiP (mat ms) k j = highTo ms k j := by
  induction j with
  | zero => rfl
  | succ j ih => simp only [hiP, highTo, maxV, ih]; omega
theorem lowL_eq (ms : List Mk) (j : Nat) : tabL (fun k => loP (mat ms) k j) (mat ms 0).length = lowL ms j := List.map_congr_left fun k _ => low_eq ms k j
theorem highL_eq (ms : List Mk) (j : Nat) : tabL (fun k => hiP (mat ms) k j) (mat ms 0).length = highL ms j := List.map_congr_left fun k _ => high_eq ms k j
theorem around_none {ms : List Mk} (h : ms.length = 0 ∨ marksB ms = false) : aroundV ms = ([], []) := by unfold aroundV; rw [if_pos h]
theorem around_some {ms : List Mk} (h : ms.length ≠ 0) (hm : marksB ms = true) : aroundV ms = (lowL ms (ms.length - 1), highL ms (ms.length - 1)) := by
  unfold aroundV; rw [if_neg]; intro h2; rcases h2 with h2 | h2
  · exact h h2
  · rw [hm] at h2; cases h2
theorem around_short (ms : List Mk) : (aroundV ms).1.length ≤ 4 ∧ (aroundV ms).2.length ≤ 4 := by
  by_cases h0 : ms.length = 0
  · rw [around_none (Or.inl h0)]; simp
  · rcases hm : marksB ms with _ | _
    · rw [around_none (Or.inr hm)]; simp
    · rw [around_some h0 hm]
      have := okB_len ((mOkAt_iff ms 0).1 (marksB_at hm (i := 0) (by omega))).2.2.1
      unfold lowL highL
      rw [tabL_length, tabL_length]
      exact ⟨this.2, this.2⟩

/-- A row of the places of marks, the first k of n filled in. -/
def QPart (w0 w : World) (A k n : Nat) (ms : List Mk) : Prop := A < w.heap.size ∧ (∀ j, j < k → ∃ ao cap, w.cell? ⟨A, j, none⟩ = some (.slice ao (mat ms j).length cap) ∧ View w0 ao (mat ms j)) ∧ (∀ j, k ≤ j → j < n → ∃ v, w.cell? ⟨A, j, none⟩ = some v) ∧ ∀ j, w.frozen? ⟨A, j, none⟩ = false
theorem QPart.start (w0 w : World) (z : Value) (t : TypeId) (n : Nat) (ms : List Mk) : QPart w0 (w.alloc (.cells (madeCells #[z] n) t)) w.heap.size 0 n ms :=
  ⟨by simp, fun j hj => by omega, fun j _ h2 => by
    rw [World.cell?_alloc_at _ _ _ _ rfl]
    exact ⟨_, Array.getElem?_eq_getElem (by rw [size_madeCells]; exact h2)⟩, fun j => World.frozen?_alloc_at _ _ _ _ rfl⟩
theorem QPart.below {w0 w w' : World} {A k n : Nat} {ms : List Mk} (h : QPart w0 w A k n ms) (hw : Below w.heap.size w w') : QPart w0 w' A k n ms := by
  obtain ⟨h1, h2, h3, h4⟩ := h
  refine ⟨Nat.lt_of_lt_of_le h1 hw.size, fun j hj => ?_, fun j hj hn => ?_, fun j => (hw.frozen (p := ⟨A, j, none⟩) h1).trans (h4 j)⟩
  · obtain ⟨ao, cap, hc, hv⟩ := h2 j hj
    exact ⟨ao, cap, (hw.cell (p := ⟨A, j, none⟩) h1).trans hc, hv⟩
  · obtain ⟨v, hc⟩ := h3 j hj hn
    exact ⟨v, (hw.cell (p := ⟨A, j, none⟩) h1).trans hc⟩
theorem QPart.step {w0 w : World} {A k n : Nat} {ms : List Mk} (h : QPart w0 w A k n ms) (hk : k < n) {ao : Option Addr} {cap : Nat} (hv : View w0 ao (mat ms k)) :
    QPart w0 (w.setCell ⟨A, k, none⟩ (.slice ao (mat ms k).length cap)) A (k + 1) n ms := by
  obtain ⟨h1, h2, h3, h4⟩ := h
  obtain ⟨v0, hc0⟩ := h3 k (Nat.le_refl _) hk
  refine ⟨by rw [setCell_size]; exact h1, fun j hj => ?_, fun j hj hn => ?_, fun j => by rw [World.frozen?_setCell]; exact h4 j⟩
  · by_cases e : j = k
    · subst e; exact ⟨ao, cap, World.cell?_setCell_same _ _ _ hc0, hv⟩
    · obtain ⟨ao', cap', hc, hv'⟩ := h2 j (by omega)
      exact ⟨ao', cap', by rw [cell_setOther _ _ _ _ _ (by omega)]; exact hc, hv'⟩
  · obtain ⟨v, hc⟩ := h3 j (by omega) hn
    exact ⟨v, by rw [cell_setOther _ _ _ _ _ (by omega)]; exact hc⟩
theorem QPart.row {w0 w : World} {A : Nat} {ms : List Mk} (h : QPart w0 w A ms.length ms.length ms) (hb : Below w0.heap.size w0 w) (hm : marksB ms = true) : PRow w A 0 ms.length (mat ms 0).length (mat ms) := fun j hj => by
  obtain ⟨ao, cap, hc, hv⟩ := h.2.1 j hj
  have a := (mOkAt_iff ms j).1 (marksB_at hm hj)
  have h4 := okB_len a.2.2.1
  obtain ⟨b', o', rfl, hb', hs⟩ := hv.seg (by omega)
  rw [a.2.2.2.1] at hc
  exact ⟨a.2.2.2.1, b', o', cap, by rw [Nat.zero_add]; exact hc, Nat.lt_of_lt_of_le hb' hb.size, hs.below hb' hb⟩

theorem Try.info130 : (Try.prog.info? 130).map (fun i => (i.zero, i.size, i.bytes)) = some (some (.slice none 0 0), 1, 24) := by kernel_rfl

end Go.Proofs.Ythddhblmnfjciaa
