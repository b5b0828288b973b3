/-
  Draws of greater numbers; the given DrawPrefix.
-/
import Derived.Test.YtibkfdefoaimiaaMovedSZz
import Derived.Test.YtibkfdefoaimiaaOBitZz
namespace Go.Proofs.Ytibkfdefoaimiaa
open Go Go.RowKit

set_option maxRecDepth 100000 in
set_option maxHeartbeats 1000000 in
theorem cBelowM (q : Nat) (ao : Option Addr) (n cap : Nat) (m : Int) (w : World) (hc : Cur w q ao n cap) (hv : CodeV w ao n) (hn : n ≤ 4096) (h0 : 1 ≤ m) :
    Calls Try.prog 38 #[.pointer (some ⟨q, 0, none⟩), .int .i64 m] w fun e w' => (∃ x : Int, 0 ≤ x ∧ x < m ∧ e = .returned (.int .i64 x)) ∧ Cur w' q ao n cap ∧ w.grownBy w' (some q) := by
  by_cases hm : m ≤ 256
  · exact cBelow q ao n cap m w hc hv hn h0 hm
  have h2 : ¬ m ≤ 0 := by omega
  have h3 : (m == 0) = false := by simp; omega
  go_enter Try.func38, Try.ntmps38
  go_wp2_with fail
  refine (cByte q ao n cap _ hc hv hn).mono ?_
  rintro e w1 ⟨⟨x, hx0, hx1, rfl⟩, c1, g1⟩
  have hv1 := hv.grown hc g1
  clear hc hv
  go_wp2_with fail
  refine (cByte q ao n cap _ c1 hv1 hn).mono ?_
  rintro e w2 ⟨⟨y, hy0, hy1, rfl⟩, c2, g2⟩
  have hv2 := hv1.grown c1 g2
  have G2 := grown_trans g1 g2
  clear c1 hv1 g1 g2
  go_wp2_with fail
  refine (cByte q ao n cap _ c2 hv2 hn).mono ?_
  rintro e w3 ⟨⟨z, hz0, hz1, rfl⟩, c3, g3⟩
  have hv3 := hv2.grown c2 g3
  have G3 := grown_trans G2 g3
  clear c2 hv2 g3 G2
  go_wp2_with fail
  refine (cByte q ao n cap _ c3 hv3 hn).mono ?_
  rintro e w4 ⟨⟨u, hu0, hu1, rfl⟩, c4, g4⟩
  have G4 := grown_trans G3 g4
  clear c3 hv3 g4 G3
  go_wp2_with fail
  go_ret
  refine ⟨⟨(x * 16777216 + y * 65536 + z * 256 + u) % m, Int.emod_nonneg _ (by omega), Int.emod_lt_of_pos _ (by omega), ?_⟩, c4, G4⟩
  first | rfl | (rw [Int.emod_eq_tmod_of_nonneg (by omega)])

theorem two_wrap {k : Nat} (h : k ≤ 62) : 1 ≤ wrap64 (2 ^ k) ∧ wrap64 (2 ^ k) = 2 ^ k := by
  have e : (2 : Int) ^ k = ((2 ^ k : Nat) : Int) := by simp
  have h1 : 2 ^ k ≤ 2 ^ 62 := Nat.pow_le_pow_right (by decide) h
  have h2 : 0 < 2 ^ k := Nat.two_pow_pos k
  rw [e]
  generalize 2 ^ k = y at h1 h2
  have h3 : y ≤ 4611686018427387904 := h1
  unfold wrap64
  omega

theorem code_at3 (y : Nat) (h : y < 3) : ∃ v, (#[.int .i64 (-1), .int .i64 1099511627775, .int .i64 1099511627776] : Array Value)[y]? = some (.int .i64 v) := by
  rcases (show y = 0 ∨ y = 1 ∨ y = 2 by omega) with rfl | rfl | rfl <;> exact ⟨_, rfl⟩

set_option maxRecDepth 100000 in
set_option maxHeartbeats 1000000 in
theorem cPrefixD (ao : Option Addr) (n cap : Nat) (w : World) (hv : CodeV w ao n) (hn : n ≤ 4096) :
    Calls Try.prog 25 #[.slice ao n cap] w fun e w' => (∃ a b : Int, e = .returned (.tuple #[.int .i64 a, .int .i64 b])) ∧ Below w.heap.size w w' := by
  go_enter Try.func25, Try.ntmps25
  go_wp2_with fail
  refine (cNew ao n cap _ hv hn).mono ?_
  rintro e w1 ⟨rfl, c1, L1⟩
  have hv1 := hv.below (Nat.le_refl _) L1
  go_wp2_with fail
  refine (cBelowM _ ao n cap 39 _ c1 hv1 hn (by omega)).mono ?_
  rintro e w2 ⟨⟨y, hy0, hy1, rfl⟩, c2, g2⟩
  have L2 : Below w.heap.size w w2 := L1.grown g2 L1.size (by intro k hk; cases hk; exact Nat.le_refl _)
  have hv2 := hv1.grown c1 g2
  clear hv1 c1 g2 L1
  obtain ⟨y', rfl⟩ : ∃ y' : Nat, y = (y' : Int) := ⟨y.toNat, by omega⟩
  go_wp2_with fail
  refine (cBelowM _ ao n cap _ _ c2 hv2 hn (two_wrap (by omega)).1).mono ?_
  rintro e w3 ⟨⟨a, ha0, ha1, rfl⟩, c3, g3⟩
  have L3 : Below w.heap.size w w3 := L2.grown g3 L2.size (by intro k hk; cases hk; exact Nat.le_refl _)
  have hv3 := hv2.grown c2 g3
  clear hv2 c2 g3 L2 ha0 ha1 hy0 hy1
  go_wp2_with fail
  refine (cBelowM _ ao n cap 20 _ c3 hv3 hn (by omega)).mono ?_
  rintro e w4 ⟨⟨y, hy0, hy1, rfl⟩, c4, g4⟩
  have L4 : Below w.heap.size w w4 := L3.grown g4 L3.size (by intro k hk; cases hk; exact Nat.le_refl _)
  have hv4 := hv3.grown c3 g4
  clear hv3 c3 g4 L3
  obtain ⟨y2, rfl⟩ : ∃ y' : Nat, y = (y' : Int) := ⟨y.toNat, by omega⟩
  go_wp2_with fail
  refine (cBelowM _ ao n cap _ _ c4 hv4 hn (two_wrap (by omega)).1).mono ?_
  rintro e w5 ⟨⟨b, hb0, hb1, rfl⟩, c5, g5⟩
  have L5 : Below w.heap.size w w5 := L4.grown g5 L4.size (by intro k hk; cases hk; exact Nat.le_refl _)
  have hv5 := hv4.grown c4 g5
  clear hv4 c4 g5 L4 hb0 hb1 hy0 hy1
  go_wp2_with fail
  refine (cOnce _ ao n cap 12 _ c5 hv5 hn (by omega) (by omega)).mono ?_
  rintro e w6 ⟨⟨t, rfl⟩, c6, g6⟩
  have L6 : Below w.heap.size w w6 := L5.grown g6 L5.size (by intro k hk; cases hk; exact Nat.le_refl _)
  have hv6 := hv5.grown c5 g6
  clear hv5 c5 g6 L5
  cases t with
  | false =>
    go_wp2_with fail
    go_ret2
    exact ⟨⟨_, _, rfl⟩, L6⟩
  | true =>
    go_wp2_with fail
    refine (cBelow _ ao n cap 3 _ (c6.alloc _) (hv6.below (Nat.le_refl _) ((Below.refl _ _).alloc (Nat.le_refl _) _)) hn (by omega) (by omega)).mono ?_
    rintro e w7 ⟨⟨y, hy0, hy1, rfl⟩, c7, g7⟩
    obtain ⟨y3, rfl⟩ : ∃ y' : Nat, y = (y' : Int) := ⟨y.toNat, by omega⟩
    have hy3 : y3 < 3 := by omega
    have hlt6 := c6.lt
    obtain ⟨v, hvv⟩ := code_at3 y3 hy3
    have hcell : w7.cell? ⟨w6.heap.size, y3, none⟩ = some (.int .i64 v) := by
      refine g7.cell ?_ (by simp; omega)
      rw [World.cell?_alloc_at _ _ _ _ rfl]
      exact hvv
    have L7 : Below w.heap.size w w7 := (L6.alloc L6.size _).grown g7 (by have := L6.size; simp; omega) (by intro k hk; cases hk; exact Nat.le_refl _)
    go_wp2_with fail
    go_ret2
    exact ⟨⟨_, _, rfl⟩, L7⟩
end Go.Proofs.Ytibkfdefoaimiaa
