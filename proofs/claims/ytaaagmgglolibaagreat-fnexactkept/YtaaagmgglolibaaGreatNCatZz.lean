/-
  slices.Grow of nothing and slices.Concat of some rows of marks.
-/
import Derived.Test.YtaaagmgglolibaaGreatSCellsZz
import Derived.Test.YtaaagmgglolibaaGreatAppendZz
import Derived.Test.YtaaagmgglolibaaGreatArgsZz
import Derived.Lib.AppendZerosOnto
namespace Go.Proofs.YtaaagmgglolibaaGreat
open Go Go.RowKit

theorem zeroM_size (n : Nat) : (Builtin.zeroCells #[.int .i64 0, .slice none 0 0] n).size = n * 2 := by simp [Builtin.zeroCells]

set_option maxRecDepth 100000 in
set_option maxHeartbeats 1000000 in
theorem iGrowM (n : Nat) (w : World) (h0 : 0 < n) (hn : n ≤ 4194304) :
    Calls Tryz.prog 238 #[.slice none 0 0, .int .i64 n] w fun e w' => ∃ c, e = .returned (.slice (some ⟨w.heap.size, 0, none⟩) 0 c) ∧ SRow w.heap.size w' w.heap.size c [] ∧ Below w.heap.size w w' := by
  obtain ⟨j0, hj0, hy0, hy1, hy2⟩ := info_parts Tryz.info29
  have hold : (Builtin.firstCells j0.size 0 (.slice none 0 0)).run Tryz.prog w.drew = .ok (([] : List Value).toArray) w.drew := run_firstCells_none w.drew j0.size 0 0 0
  have hrz := fun ty => Lib.run_append_grow_zeros (P := Tryz.prog) w 44 3 ty 29 j0 _ .i64 .i64 Tryz.underlying44 Tryz.underlying3 hj0 hy0 none 0 0 [] hold n h0 (by omega) (by omega) (by omega) (by rw [hy2]; omega) (growslice_fits (by omega) (by rw [hy2]; omega))
  rw [Nat.zero_add] at hrz
  have hG1 := grownCap_ge w n 0 29
  have hG2 := grownCap_le_maxLen w n 0 29 (by unfold maxLen; omega)
  obtain ⟨G, hG⟩ : ∃ G, G = grownCap w n 0 29 := ⟨_, rfl⟩
  rw [← hG] at hrz hG1 hG2
  have hx : wrap64 ((n : Int) - (0 - 0)) = (n : Int) := by unfold wrap64; omega
  have HW : Hid (SRow w.heap.size (w.alloc (.cells (Builtin.zeroCells #[.int .i64 0, .slice none 0 0] n ++ Builtin.zeroCells #[.int .i64 0, .slice none 0 0] (G - n)) 29)).drew w.heap.size G [] ∧ Below w.heap.size w (w.alloc (.cells (Builtin.zeroCells #[.int .i64 0, .slice none 0 0] n ++ Builtin.zeroCells #[.int .i64 0, .slice none 0 0] (G - n)) 29)).drew) := by
    refine ⟨World.ownsRow_made (base := w.heap.size) (e := 29) (size := 2) w _ G (Nat.le_refl _) hG2 ?_, ((Below.refl w.heap.size w).alloc (Nat.le_refl _) _).drew⟩
    simp only [Array.size_append, zeroM_size]
    omega
  clear hG hold
  go_enter Tryz.func238, Tryz.ntmps238
  go_wp2_with (at_builtin; refine Lib.wpList_append_run _ rfl _ _ _ _ rfl _ _ rfl rfl _ _ (hrz _) ?_)
  go_ret
  exact ⟨G, rfl, HW.out.1, HW.out.2⟩


/-- Rows of marks: where each lies, its room, its marks. -/
abbrev RwC := Option Addr × Nat × List Sm
def catR (L : List RwC) : List Sm := L.flatMap (·.2.2)
theorem catR_take {L : List RwC} {k : Nat} (h : k < L.length) : catR (L.take (k + 1)) = catR (L.take k) ++ L[k].2.2 := by
  unfold catR
  rw [List.take_add_one, List.getElem?_eq_getElem h, List.flatMap_append]
  congr 1
  simp
theorem catR_len {L : List RwC} {k : Nat} : (catR (L.take k)).length ≤ (catR L).length := by
  have e : catR L = catR (L.take k) ++ catR (L.drop k) := by
    unfold catR
    rw [← List.flatMap_append, List.take_append_drop]
  rw [e]; simp

end Go.Proofs.YtaaagmgglolibaaGreat
