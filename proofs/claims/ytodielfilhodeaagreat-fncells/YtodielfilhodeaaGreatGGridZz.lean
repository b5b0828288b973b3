/-
  Grids: both ways of asking whether one is right, and the laws' own helpers toGrid, szGrid, eqGrid, markGrid.
-/
import Derived.Test.YtodielfilhodeaaGreatGOfZz
import Derived.Test.YtodielfilhodeaaGreatMMarkZz
import Derived.Test.YtodielfilhodeaaGreatMSizeZz
import Derived.Test.YtodielfilhodeaaGreatMCopyZz
namespace Go.Proofs.YtodielfilhodeaaGreat
open Go Go.RowKit

def gridB (s : Int) (ms : List Mk) : Bool := gsideB s && marksB ms

set_option maxHeartbeats 1000000 in
theorem sGrid (ao : Option Addr) (cap : Nat) (s : Int) (ms : List Mk) (w : World) (hv : MView w ao ms) (hsm : MSmall ms) :
    Calls Tryz.prog 87 #[.agg #[.int .i64 s, .slice ao ms.length cap]] w fun e w' => e = .returned (.bool (gridB s ms)) ∧ Below w.heap.size w w' := by
  obtain ⟨W, hW⟩ : ∃ W, W = w.alloc (.cells #[.int .i64 s, .slice ao ms.length cap] 46) := ⟨_, rfl⟩
  have LA : Below w.heap.size w W := by rw [hW]; exact alloc_below w _
  have HIN := hidP (sIn s 1 1000 W)
  have es : inR s 1 1000 = gsideB s := rfl
  rw [es] at HIN
  have HM := hidP (sMarks ao cap ms W (hv.next LA) hsm)
  have HLA := hidP LA
  clear LA hv
  rcases hsd : gsideB s with _ | _
  · have HV : Hid (gridB s ms = false) := by show gridB s ms = false; simp [gridB, hsd]
    rw [hsd] at HIN
    subst hW
    go_enter Tryz.func87, Tryz.ntmps87
    go_wp2_with fail
    refine HIN.out.mono ?_
    rintro e w2 ⟨rfl, rfl⟩
    go_wp2_with fail
    go_ret
    exact ⟨ret_bool HV.out.symm, HLA.out⟩
  · have HV : Hid (gridB s ms = marksB ms) := by show gridB s ms = marksB ms; simp [gridB, hsd]
    rw [hsd] at HIN
    subst hW
    go_enter Tryz.func87, Tryz.ntmps87
    go_wp2_with fail
    refine HIN.out.mono ?_
    rintro e w2 ⟨rfl, rfl⟩
    go_wp2_with fail
    refine HM.out.mono ?_
    rintro e w3 ⟨rfl, n3, rfl⟩
    go_wp2_with fail
    go_ret
    exact ⟨ret_bool HV.out.symm, below_drewN HLA.out n3⟩

set_option maxHeartbeats 1000000 in
theorem iGrid (ao : Option Addr) (cap : Nat) (s : Int) (ms : List Mk) (w : World) (hv : MView w ao ms) (hsm : MSmall ms) :
    Calls Tryz.prog 78 #[.agg #[.int .i64 s, .slice ao ms.length cap]] w fun e w' => e = .returned (.bool (gridB s ms)) ∧ Below w.heap.size w w' := by
  obtain ⟨W, hW⟩ : ∃ W, W = w.alloc (.cells #[.int .i64 s, .slice ao ms.length cap] 46) := ⟨_, rfl⟩
  have LA : Below w.heap.size w W := by rw [hW]; exact alloc_below w _
  have HIN := hidP (iSideOk s W)
  have HM := hidP (iMarks ao cap ms W (hv.next LA) hsm)
  have HLA := hidP LA
  clear LA hv
  rcases hsd : gsideB s with _ | _
  · have HV : Hid (gridB s ms = false) := by show gridB s ms = false; simp [gridB, hsd]
    rw [hsd] at HIN
    subst hW
    go_enter Tryz.func78, Tryz.ntmps78
    go_wp2_with fail
    refine HIN.out.mono ?_
    rintro e w2 ⟨rfl, rfl⟩
    go_wp2_with fail
    go_ret
    exact ⟨ret_bool HV.out.symm, HLA.out⟩
  · have HV : Hid (gridB s ms = marksB ms) := by show gridB s ms = marksB ms; simp [gridB, hsd]
    rw [hsd] at HIN
    subst hW
    go_enter Tryz.func78, Tryz.ntmps78
    go_wp2_with fail
    refine HIN.out.mono ?_
    rintro e w2 ⟨rfl, rfl⟩
    go_wp2_with fail
    refine HM.out.mono ?_
    rintro e w3 ⟨rfl, L3⟩
    have HL3 := hidP (chain HLA.out L3)
    clear L3
    go_wp2_with fail
    go_ret
    exact ⟨ret_bool HV.out.symm, HL3.out⟩

theorem MPart.setLow {w : World} {b k n q i : Nat} {ms : List Mk} (h : MPart w b k n ms) (hq : q < b) (v : Value) : MPart (w.setCell ⟨q, i, none⟩ v) b k n ms := by
  have hblk : ∀ j, b ≤ j → (w.setCell ⟨q, i, none⟩ v).heap[j]? = w.heap[j]? := fun j hj => Below.heap_setCell _ _ _ _ (by simp only; omega)
  have hc : ∀ j o, b ≤ j → (w.setCell ⟨q, i, none⟩ v).cell? ⟨j, o, none⟩ = w.cell? ⟨j, o, none⟩ := fun j o hj => by simp only [World.cell?, hblk j hj]
  have hf : ∀ j o, b ≤ j → (w.setCell ⟨q, i, none⟩ v).frozen? ⟨j, o, none⟩ = w.frozen? ⟨j, o, none⟩ := fun j o hj => by simp only [World.frozen?, hblk j hj]
  obtain ⟨h1, h2, h3, h4⟩ := h
  refine ⟨by simpa [World.setCell] using h1, fun i' hi => ?_, fun j a b' => ?_, fun j => (hf b j (Nat.le_refl _)).trans (h4 j)⟩
  · obtain ⟨c0, g, hg, c1, ho⟩ := h2 i' hi
    exact ⟨(hc _ _ (Nat.le_refl _)).trans c0, g, hg, (hc _ _ (Nat.le_refl _)).trans c1, (hblk g (by omega)).trans ho⟩
  · obtain ⟨v', hv, hfz⟩ := h3 j a b'
    exact ⟨v', (hc _ _ (Nat.le_refl _)).trans hv, (hf _ _ (Nat.le_refl _)).trans hfz⟩

end Go.Proofs.YtodielfilhodeaaGreat
