/-
  The laws' draws of chapter 3: marks, a place and a count; hits.
-/
import Derived.Test.YtfbhohpbhjlihaaGreatMAnyZz
import Derived.Test.YtfbhohpbhjlihaaGreatWithZz
namespace Go.Proofs.YtfbhohpbhjlihaaGreat
open Go Go.RowKit

theorem count_at (y : Nat) (h : y < 4) : ∃ v, (#[.int .i64 0, .int .i64 (-1), .int .i64 60, .int .i64 61] : Array Value)[y]? = some (.int .i64 v) := by
  match y, h with
  | 0, _ => exact ⟨_, rfl⟩
  | 1, _ => exact ⟨_, rfl⟩
  | 2, _ => exact ⟨_, rfl⟩
  | 3, _ => exact ⟨_, rfl⟩

set_option maxRecDepth 100000 in
set_option maxHeartbeats 1000000 in
theorem cCount (q : Nat) (ao : Option Addr) (n cap : Nat) (w : World) (hc : Cur w q ao n cap) (hv : CodeV w ao n) (hn : n ≤ 4096) :
    Calls Tryz.prog 111 #[.pointer (some ⟨q, 0, none⟩)] w fun e w' => (∃ x : Int, e = .returned (.int .i64 x)) ∧ Cur w' q ao n cap ∧ w.grownBy w' (some q) := by
  have hq := hc.lt
  go_enter Tryz.func111, Tryz.ntmps111
  go_wp2_with fail
  refine (cOnce q ao n cap 12 _ hc hv hn (by omega) (by omega)).mono ?_
  rintro e w1 ⟨⟨x, rfl⟩, c1, g1⟩
  have v1 := hv.grown hc g1
  have hz1 := g1.size
  cases x with
  | false =>
    go_wp2_with fail
    refine (cBelow q ao n cap 5 _ c1 v1 hn (by omega) (by omega)).mono ?_
    rintro e w2 ⟨⟨y, y0, y1, rfl⟩, c2, g2⟩
    go_wp2_with fail
    go_ret
    exact ⟨⟨_, rfl⟩, c2, grown_trans g1 g2⟩
  | true =>
    have ga := World.grownBy_alloc w1 (.cells #[.int .i64 0, .int .i64 (-1), .int .i64 60, .int .i64 61] 2) (some q)
    have HV2 := hidP (v1.grown c1 ga)
    have HG := hidP (grown_trans g1 ga)
    clear ga
    go_wp2_with fail
    refine (cBelow q ao n cap 4 _ (c1.alloc _) HV2.out hn (by omega) (by omega)).mono ?_
    rintro e w2 ⟨⟨y, y0, y1, rfl⟩, c2, g2⟩
    obtain ⟨yn, rfl⟩ := Int.eq_ofNat_of_zero_le y0
    obtain ⟨v, hv3⟩ := count_at yn (by omega)
    have ht : w2.cell? ⟨w1.heap.size, yn, none⟩ = some (.int .i64 v) := g2.cell (by rw [World.cell?_alloc_at _ _ _ _ rfl]; exact hv3) (by simp; omega)
    have hy2 : (yn : Int) < 4 := by omega
    have HG2 := hidP (grown_trans HG.out g2)
    clear g1 g2
    go_wp2_with fail
    go_ret
    exact ⟨⟨_, rfl⟩, c2, HG2.out⟩

/-- Marks, a place and a number, ready for a call. -/
def NGot (w : World) (g c : Nat) (ms : List Mk) (g' : Nat) (q : List Int) : Prop := MView w (some ⟨g, 0, none⟩) ms ∧ MSmall ms ∧ ms.length ≤ c ∧ ms.length ≤ 60 ∧ View w (some ⟨g', 0, none⟩) q ∧ q.length ≤ 6

end Go.Proofs.YtfbhohpbhjlihaaGreat
