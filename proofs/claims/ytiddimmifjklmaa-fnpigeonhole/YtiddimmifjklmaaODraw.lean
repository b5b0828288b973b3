/-
  Draws of greater numbers; the given DrawPrefix.
-/
import Derived.Test.YtiddimmifjklmaaDraw
import Derived.Test.YtiddimmifjklmaaOBit
namespace Go.Proofs.Ytiddimmifjklmaa
open Go Go.RowKit

set_option maxRecDepth 100000 in
set_option maxHeartbeats 1000000 in
theorem cBelowM (q : Nat) (ao : Option Addr) (n cap : Nat) (m : Int) (w : World) (hc : Cur w q ao n cap) (hv : CodeV w ao n) (hn : n ≤ 4096) (h0 : 1 ≤ m) :
    Calls Try.prog 36 #[.pointer (some ⟨q, 0, none⟩), .int .i64 m] w fun e w' => (∃ x : Int, 0 ≤ x ∧ x < m ∧ e = .returned (.int .i64 x)) ∧ Cur w' q ao n cap ∧ w.grownBy w' (some q) := by
  by_cases hm : m ≤ 256
  · exact cBelow q ao n cap m w hc hv hn h0 hm
  have h2 : ¬ m ≤ 0 := by omega
  have h3 : (m == 0) = false := by simp; omega
  go_enter Try.func36, Try.ntmps36
  go_wp2_with fail
  refine (cByte q ao n cap _ hc hv hn).mono ?_
  rintro e w1 ⟨⟨x, hx0, hx1, rfl⟩, c1, g1⟩
  have hv1 := hv.grown hc g1
  clear hc hv
  go_wp2_with fail
  refine (cByte q ao n cap _ c1 hv1 hn).mono ?_
  rintro e w2 ⟨⟨y, hy0, hy1, rfl⟩, c2, g2⟩
  have hv2 := hv1.grown c1 g2
  have G2 := grown_trans g1 g2
  clear c1 hv1 g1 g2
  go_wp2_with fail
  refine (cByte q ao n cap _ c2 hv2 hn).mono ?_
  rintro e w3 ⟨⟨z, hz0, hz1, rfl⟩, c3, g3⟩
  have hv3 := hv2.grown c2 g3
  have G3 := grown_trans G2 g3
  clear c2 hv2 g3 G2
  go_wp2_with fail
  refine (cByte q ao n cap _ c3 hv3 hn).mono ?_
  rintro e w4 ⟨⟨u, hu0, hu1, rfl⟩, c4, g4⟩
  have G4 := grown_trans G3 g4
  clear c3 hv3 g4 G3
  go_wp2_with fail
  go_ret
  refine ⟨⟨(x * 16777216 + y * 65536 + z * 256 + u) % m, Int.emod_nonneg _ (by omega), Int.emod_lt_of_pos _ (by omega), ?_⟩, c4, G4⟩
  first | rfl | (rw [Int.emod_eq_tmod_of_nonneg (by omega)])

theorem two_wrap {k : Nat} (h : k ≤ 62) : 1 ≤ wrap64 (2 ^ k) ∧ wrap64 (2 ^ k) = 2 ^ k := by
  have e : (2 : Int) ^ k = ((2 ^ k : Nat) : Int) := by simp
  have h1 : 2 ^ k ≤ 2 ^ 62 := Nat.pow_le_pow_right (by decide) h
  have h2 : 0 < 2 ^ k := Nat.two_pow_pos k
  rw [e]
  generalize 2 ^ k = y at h1 h2
  have h3 : y ≤ 4611686018427387904 := h1
  unfold wrap64
  omega

theorem code_at3 (y : Nat) (h : y < 3) : ∃ v, (#[.int .i64 (-1), .int .i64 1099511627775, .int .i64 1099511627776] : Array Value)[y]? = some (.int .i64 v) := by
  rcases (show y = 0 ∨ y = 1 ∨ y = 2 by omega) with rfl | rfl | rfl <;> exact ⟨_, rfl⟩

end Go.Proofs.Ytiddimmifjklmaa
