/-
  The library's slices.BinarySearch over numbers: behind how many less ones a number comes.
-/
import Derived.Test.YtbmljcpeonopmaaFgRowZz
import Derived.Test.YtbmljcpeonopmaaMathZz
import Derived.BigQuiet
namespace Go.Proofs.Ytbmljcpeonopmaa
open Go Go.RowKit

/-- How many at the front are less. -/
def plcI (x : Int) : List Int → Nat
  | [] => 0
  | y :: l => if y < x then plcI x l + 1 else 0
theorem plcI_le (x : Int) (l : List Int) : plcI x l ≤ l.length := by
  induction l with
  | nil => simp [plcI]
  | cons y l ih => simp only [plcI]; split <;> simp <;> omega
theorem plcI_low (x : Int) (l : List Int) (i : Nat) (hi : i < plcI x l) : nth l i < x := by
  induction l generalizing i with
  | nil => simp [plcI] at hi
  | cons y l ih =>
    simp only [plcI] at hi
    by_cases hm : y < x
    · rw [if_pos hm] at hi
      match i with
      | 0 => simpa [nth] using hm
      | i + 1 => simpa [nth] using ih i (by omega)
    · simp [hm] at hi
theorem plcI_high {l : List Int} (h : l.Pairwise (fun a b => a < b)) (x : Int) (i : Nat) (hi : plcI x l ≤ i) (hl : i < l.length) : x ≤ nth l i := by
  induction l generalizing i with
  | nil => simp at hl
  | cons y l ih =>
    obtain ⟨h1, h2⟩ := List.pairwise_cons.1 h
    simp only [plcI] at hi
    by_cases hm : y < x
    · rw [if_pos hm] at hi
      match i with
      | 0 => omega
      | i + 1 => simpa [nth] using ih h2 i (by omega) (by simpa using hl)
    · match i with
      | 0 => simpa [nth] using hm
      | i + 1 =>
        have hlt : i < l.length := by simpa using hl
        have := h1 l[i] (List.getElem_mem hlt)
        have e : nth (y :: l) (i + 1) = l[i] := by simp [nth, List.getD, hlt]
        rw [e]; omega
/-- Put in there, the list still rises. -/
theorem insI_plc {l : List Int} (x : Int) (hx : x ∉ l) : insI l x = l.take (plcI x l) ++ x :: l.drop (plcI x l) := by
  induction l with
  | nil => rfl
  | cons y l ih =>
    have hy : y ≠ x := fun e => hx (by simp [e])
    have ih' := ih (fun h => hx (List.mem_cons_of_mem _ h))
    simp only [insI, plcI]
    by_cases hm : y < x
    · simp [hm, ih']
    · simp [hm, hy]

set_option maxHeartbeats 400000 in
theorem pNaNc (x : Int) (w : World) : Calls Try.prog 124 #[.int .i64 x] w fun e w' => e = .returned (.bool false) ∧ w' = w := by
  have hx : (x != x) = false := by simp
  go_enter Try.func124, Try.ntmps124
  go_wp2
  go_ret
  exact ⟨rfl, rfl⟩
end Go.Proofs.Ytbmljcpeonopmaa
