/-
  The program's idsOf: the Ids of marks, in their order.
-/
import Derived.Test.YtfbindjacmaeoaaSCellsZz
import Derived.Test.YtfbindjacmaeoaaBMarkZz
import Derived.Test.YtfbindjacmaeoaaMCellsZz
import Derived.Deep.CutRange
namespace Go.Proofs.Ytfbindjacmaeoaa
open Go Go.RowKit

/-- The numbers of marks that lie in memory. -/
def gidsL (ds : List Sm) : List Int := ds.map (·.1)
theorem gidsL_nth {ds : List Sm} {k : Nat} (h : k < ds.length) : nth (gidsL ds) k = (snth ds k).1 := by
  rw [snth_get h]; simp [gidsL, nth, h]

set_option maxRecDepth 100000 in
set_option maxHeartbeats 1000000 in
theorem gIdsSeg (b off cap : Nat) (ds : List Sm) (w : World) (hn : ds.length ≤ 1048576) (hb : b < w.heap.size) (hs : SSeg w b off ds) :
    Calls Try.prog 72 #[.slice (some ⟨b, off, none⟩) ds.length cap] w fun e w' => ∃ g, e = .returned (.slice (some ⟨g, 0, none⟩) ds.length ds.length) ∧ w.heap.size ≤ g ∧ Own w' g (gidsL ds) ∧ Below w.heap.size w w' := by
  have hmk := run_make_row' (P := Try.prog) 36 2 (.int .i64 0) 8 Try.underlying36 Try.info2 rfl .i64 .i64 ds.length (by omega) (by omega)
  have hlen : (gidsL ds).length = ds.length := by simp [gidsL]
  go_enter Try.func72, Try.ntmps72
  go_wp2
  clear hmk
  go_loopw [11] (fun i wr => ∃ k : Nat, k ≤ ds.length ∧ i = .int .i64 k ∧ wr.heap[w.heap.size]? = some (.cells (filled (nth (gidsL ds)) ds.length k) 2) ∧ Below w.heap.size w wr) (fun i _ => ds.length - (intOf i).toNat)
  case atStart => exact ⟨0, Nat.zero_le _, rfl, by rw [filled_zero]; exact heap_alloc_new w _, (Below.refl _ _).alloc (Nat.le_refl _) _⟩
  case round =>
    obtain ⟨k, hk, rfl, ho, L⟩ := hrel
    by_cases hlt : k < ds.length
    · obtain ⟨d0, d1⟩ := hs k hlt
      have z0 := (L.cell (p := ⟨b, off + k * 2, none⟩) hb).trans d0
      have z1 := (L.cell (p := ⟨b, off + k * 2 + 1, none⟩) hb).trans d1
      have HN := hidP (gidsL_nth hlt)
      generalize snth ds k = d at *
      have hnext := filled_next (nth (gidsL ds)) ds.length k hlt
      have hlw : w.heap.size < wr.heap.size := (Array.getElem?_eq_some_iff.1 ho).1
      obtain ⟨W, hW⟩ : ∃ W, W = wr.alloc (.cells #[.int .i64 d.1, .slice d.2.1 d.2.2.2.length d.2.2.1] 38) := ⟨_, rfl⟩
      have ho2 : W.heap[w.heap.size]? = some (.cells (filled (nth (gidsL ds)) ds.length k) 2) := by rw [hW]; exact (Below.heap_alloc _ _ _ hlw).trans ho
      have L2 : Below w.heap.size w W := by rw [hW]; exact L.alloc L.size _
      have e0 : W.cell? ⟨wr.heap.size, 0, none⟩ = some (.int .i64 d.1) := by rw [hW]; go_simp
      have e1 : W.cell? ⟨w.heap.size, k, none⟩ = some (.int .i64 0) := by simp [World.cell?, ho2, hnext]
      have e2 : W.frozen? ⟨w.heap.size, k, none⟩ = false := by simp [World.frozen?, ho2]
      have HF := hidP (filled_set (nth (gidsL ds)) ds.length k hlt)
      have HO := hidP ho2
      have HL := hidP L2
      clear ho L hs d0 d1 ho2 L2 hnext
      go_upto_region 5 with fail
      rw [← hW]
      clear hW
      go_wp2_with fail
      go_roundw
      case rel =>
        refine ⟨k + 1, by omega, by go_num, ?_, HL.out.setCell (p := ⟨w.heap.size, k, none⟩) (Nat.le_refl _) _⟩
        rw [← HF.out, HN.out]
        exact heap_setCell_same W w.heap.size k _ 2 _ HO.out
      case measure => simp [intOf]; omega
    · obtain rfl : k = ds.length := by omega
      have HE : Hid (Own wr w.heap.size (gidsL ds)) := by
        have h := ho
        rw [filled_all, ← hlen, tabL_list] at h
        exact h
      have HL := hidP L
      clear ho L
      go_wp2
      go_ret
      exact ⟨w.heap.size, rfl, Nat.le_refl _, HE.out, HL.out⟩

set_option maxRecDepth 100000 in
set_option maxHeartbeats 1000000 in
theorem gIdsNil (ao : Option Addr) (cap : Nat) (w : World) :
    Calls Try.prog 72 #[.slice ao 0 cap] w fun e w' => ∃ g, e = .returned (.slice (some ⟨g, 0, none⟩) 0 0) ∧ w.heap.size ≤ g ∧ Own w' g [] ∧ Below w.heap.size w w' := by
  have hmk : ∀ w, (Instr.makeSlice 36 (.int .i64 0) (.int .i64 0)).run Try.prog w = .ok (.slice (some ⟨w.heap.size, 0, none⟩) 0 0) (w.alloc (.cells #[] 2)) := fun _ => by kernel_rfl
  go_enter Try.func72, Try.ntmps72
  go_wp2
  clear hmk
  refine wp_loop_rounds 1 ?_
  rw [rounds_succ]
  go_wp2
  go_ret
  refine ⟨w.heap.size, rfl, Nat.le_refl _, ?_, (Below.refl _ _).alloc (Nat.le_refl _) _⟩
  have h := heap_alloc_new w (.cells #[] 2)
  exact h
theorem gIds (ao : Option Addr) (cap : Nat) (ds : List Sm) (w : World) (hn : ds.length ≤ 1048576) (hv : SView w ao ds) :
    Calls Try.prog 72 #[.slice ao ds.length cap] w fun e w' => ∃ g, e = .returned (.slice (some ⟨g, 0, none⟩) ds.length ds.length) ∧ w.heap.size ≤ g ∧ Own w' g (ds.map (·.1)) ∧ Below w.heap.size w w' := by
  rcases hv with rfl | ⟨b, off, rfl, hb, hs⟩
  · exact gIdsNil ao cap w
  · exact gIdsSeg b off cap ds w hn hb hs

end Go.Proofs.Ytfbindjacmaeoaa
