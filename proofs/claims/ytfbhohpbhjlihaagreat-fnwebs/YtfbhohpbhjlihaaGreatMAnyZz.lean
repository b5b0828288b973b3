/-
  The laws' draws of whatever marks and kinds.
  How many numbers the places of drawn marks have: the given l2Width.
-/
import Derived.Test.YtfbhohpbhjlihaaGreatMDrawZz
import Derived.Test.YtfbhohpbhjlihaaGreatMHighZz
namespace Go.Proofs.YtfbhohpbhjlihaaGreat
open Go Go.RowKit

theorem three_at (y : Nat) (h : y < 3) : ∃ v, (#[.int .i64 0, .int .i64 4, .int .i64 (-1)] : Array Value)[y]? = some (.int .i64 v) := by
  match y, h with
  | 0, _ => exact ⟨_, rfl⟩
  | 1, _ => exact ⟨_, rfl⟩
  | 2, _ => exact ⟨_, rfl⟩
theorem four_at (y : Nat) (h : y < 4) : ∃ v, (#[.int .i64 0, .int .i64 1, .int .i64 1000000, .int .i64 1000001] : Array Value)[y]? = some (.int .i64 v) := by
  match y, h with
  | 0, _ => exact ⟨_, rfl⟩
  | 1, _ => exact ⟨_, rfl⟩
  | 2, _ => exact ⟨_, rfl⟩
  | 3, _ => exact ⟨_, rfl⟩

theorem dMarks_small {width id : Int} {ds : List Dm} (h : DGood width id ds) (hw : width ≤ 3) (i : Nat) : (mat (dMarks ds) i).length ≤ 3 := by
  rcases Nat.lt_or_ge i ds.length with hi | hi
  · rw [dMarks_mat ds i hi]
    have := (h.1 _ (mdnth_mem ds i hi)).2.2.1
    omega
  · simp [mat, dMarks, List.getD, hi]
theorem set_small {ms : List Mk} {y : Nat} {m : Mk} (h : ∀ i, (mat ms i).length ≤ 5) (hm : m.2.length ≤ 5) (i : Nat) : (mat (ms.set y m) i).length ≤ 5 := by
  rcases Nat.lt_or_ge i ms.length with hi | hi
  · rw [mat_set ms y i m hi]; split
    · exact hm
    · exact h i
  · simp [mat, List.getD, hi]

theorem DNew.any {base : Nat} {w : World} {g c : Nat} {ds : List Dm} {most : Int} (h : DNew base w g c ds most) : MNew base w g c (dMarks ds) most := by
  obtain ⟨h1, h2, width, id, h3, h4, h5, h6⟩ := h
  exact ⟨by rw [dMarks_length]; exact h1, by rw [dMarks_length]; exact h2.cap, h2.high _, fun i => by have := dMarks_small h6 h4 i; omega⟩
theorem DNew.good {base : Nat} {w : World} {g c : Nat} {ds : List Dm} {most : Int} (h : DNew base w g c ds most) (hm : most ≤ 60) : marksB (dMarks ds) = true := by
  obtain ⟨h1, h2, width, id, h3, h4, h5, h6⟩ := h
  exact h6.marks (by omega) h3 (by omega) (by omega)

theorem int3 {y : Int} (h0 : 0 ≤ y) (h1 : y < 3) : y = 0 ∨ y = 1 ∨ y = 2 := by omega

end Go.Proofs.YtfbhohpbhjlihaaGreat
namespace Go.Proofs.YtfbhohpbhjlihaaGreat
open Go Go.RowKit

theorem hbelow_grown {w w' : World} (r : Option Nat) (h : Below w.heap.size w w') : w.grownBy w' r := ⟨h.os, h.tape, h.output, h.size, fun i hi _ => h.block i hi⟩
def widthV (ms : List Mk) : Nat := if ms.length = 0 then 2 else (mat ms 0).length

set_option maxHeartbeats 400000 in
theorem sWidth (ao : Option Addr) (cap : Nat) (ms : List Mk) (w : World) (hv : MView w ao ms) (hat : ∀ i, (mat ms i).length ≤ 1048576) :
    Calls Tryz.prog 82 #[.slice ao ms.length cap] w fun e w' => e = .returned (.int .i64 (widthV ms)) ∧ w' = w := by
  by_cases h0 : ms.length = 0
  · have HV : Hid (widthV ms = 2) := by show widthV ms = 2; unfold widthV; rw [if_pos h0]
    have hb0 : ((ms.length : Int) == 0) = true := by simp; simpa using h0
    clear h0
    go_enter Tryz.func82, Tryz.ntmps82
    go_wp2
    go_ret
    exact ⟨ret_int (by rw [HV.out]; rfl), rfl⟩
  · have HV : Hid (widthV ms = (mat ms 0).length) := by show widthV ms = _; unfold widthV; rw [if_neg h0]
    have hb0 : ((ms.length : Int) == 0) = false := by simp; simpa using h0
    have hne : ms ≠ [] := by intro h; subst h; simp at h0
    obtain ⟨b, off, rfl, hb, hs⟩ := MSeg.seg hv (by omega)
    obtain ⟨-, ae, ce, hc1, -⟩ := hs.at (i := 0) (by omega)
    rw [Nat.zero_mul, Nat.add_zero] at hc1
    have hpos : (0 : Int) < (ms.length : Int) := by omega
    have hpos2 : 0 < ms.length := by omega
    have hl0 := hat 0
    clear h0
    go_enter Tryz.func82, Tryz.ntmps82
    go_wp2
    go_ret
    exact ⟨ret_int (by rw [HV.out]), rfl⟩

end Go.Proofs.YtfbhohpbhjlihaaGreat
