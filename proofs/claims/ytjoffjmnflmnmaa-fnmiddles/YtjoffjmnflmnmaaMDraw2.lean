/-
  The draws that the law of middles takes.
-/
import Derived.Test.YtjoffjmnflmnmaaMAny
import Derived.Test.YtjoffjmnflmnmaaBytes
import Derived.Test.YtjoffjmnflmnmaaMArgs
namespace Go.Proofs.Ytjoffjmnflmnmaa
open Go Go.RowKit

theorem code_view {H : Type} {enc : TypeId × Value → H} {W : World} {n : Nat} {a : Option Addr} {len cap : Nat} {x : DataW H × List MemPlace} (h : DataW.trod enc Try.prog W 0 (fun _ => true) true n 36 [.slice a len cap] = some x) :
    CodeV W a len ∧ len ≤ maxLen := by
  rcases Go.ChangeShapes.open_ints Try.underlying36 Try.underlying5 (by kernel_rfl) h with ⟨hcs, _⟩ | ⟨y, l, c, zs, hcs, _, hl, hm, hz, _, hcell, hwz⟩
  · simp at hcs
    obtain ⟨rfl, rfl, rfl⟩ := hcs
    exact ⟨Or.inl rfl, Nat.zero_le _⟩
  · simp at hcs
    obtain ⟨rfl, rfl, rfl⟩ := hcs
    have hr : IsRow .u8 W (some y) len cap zs := .inr ⟨_, rfl, hl, hm, by simpa using hz, hcell, hwz⟩
    exact hr.code

/-- What a draw of marks and a kind hands back, ready for a call. -/
def MGot (w : World) (g c : Nat) (ms : List Mk) : Prop := MView w (some ⟨g, 0, none⟩) ms ∧ MSmall ms ∧ ms.length ≤ c ∧ ms.length ≤ 60
theorem MNew.got {base : Nat} {w : World} {g c : Nat} {ms : List Mk} {most : Int} (h : MNew base w g c ms most) (hm : most ≤ 60) : MGot w g c ms := ⟨h.view, h.small hm, h.2.1, by have := h.1; omega⟩

set_option maxRecDepth 100000 in
set_option maxHeartbeats 1000000 in
theorem cDia (ao : Option Addr) (n cap : Nat) (w : World) (hv : CodeV w ao n) (hn : n ≤ 4096) :
    Calls Try.prog 41 #[.slice ao n cap] w fun e w' => ∃ g c ms x, e = .returned (.tuple #[.slice (some ⟨g, 0, none⟩) ms.length c, .int .i64 x]) ∧ MGot w' g c ms ∧ Below w.heap.size w w' := by
  go_enter Try.func41, Try.ntmps41
  go_wp2_with fail
  refine (cNew ao n cap _ hv hn).mono ?_
  rintro e w1 ⟨rfl, c1, L1⟩
  have hv1 := hv.below (Nat.le_refl _) L1
  go_wp2_with fail
  refine (cMarksAny _ ao n cap 7 _ c1 hv1 hn (by omega) (by omega)).mono ?_
  rintro e w2 ⟨⟨g, c, ms, rfl, hnew⟩, c2, g2⟩
  have L2 : Below w.heap.size w w2 := L1.grown g2 L1.size (by intro k hk; cases hk; exact Nat.le_refl _)
  have hv2 := hv1.grown c1 g2
  have hq := c1.lt
  go_wp2_with fail
  refine (cKind _ ao n cap _ c2 hv2 hn).mono ?_
  rintro e w3 ⟨⟨x, rfl⟩, c3, g3⟩
  have L3 : Below w.heap.size w w3 := L2.grown g3 L2.size (by intro k hk; cases hk; exact Nat.le_refl _)
  have hnew3 := (hnew.kept g3 (by intro k hk; cases hk; exact hq)).got (by omega)
  go_wp2_with fail
  go_ret2
  exact ⟨g, c, ms, x, rfl, hnew3, L3⟩

set_option maxRecDepth 100000 in
set_option maxHeartbeats 1000000 in
theorem cMid (ao : Option Addr) (n cap : Nat) (w : World) (hv : CodeV w ao n) (hn : n ≤ 4096) :
    Calls Try.prog 22 #[.slice ao n cap] w fun e w' => ∃ g c ms x, e = .returned (.tuple #[.slice (some ⟨g, 0, none⟩) ms.length c, .int .i64 x]) ∧ MGot w' g c ms ∧ Below w.heap.size w w' := by
  go_enter Try.func22, Try.ntmps22
  go_wp2_with fail
  refine (cDia ao n cap _ hv hn).mono ?_
  rintro e w1 ⟨g, c, ms, x, rfl, hm, L1⟩
  go_wp2_with fail
  go_ret2
  exact ⟨g, c, ms, x, rfl, hm, L1⟩

set_option maxRecDepth 100000 in
set_option maxHeartbeats 1000000 in
theorem cBet (ao : Option Addr) (n cap : Nat) (w : World) (hv : CodeV w ao n) (hn : n ≤ 4096) :
    Calls Try.prog 23 #[.slice ao n cap] w fun e w' => ∃ g c xs g' c' ys k, e = .returned (.tuple #[.slice (some ⟨g, 0, none⟩) xs.length c, .slice (some ⟨g', 0, none⟩) ys.length c', .int .i64 k]) ∧ xs.length ≤ 5 ∧ ys.length ≤ 5 ∧ View w' (some ⟨g, 0, none⟩) xs ∧ View w' (some ⟨g', 0, none⟩) ys ∧ Below w.heap.size w w' := by
  go_enter Try.func23, Try.ntmps23
  go_wp2_with fail
  refine (cNew ao n cap _ hv hn).mono ?_
  rintro e w1 ⟨rfl, c1, L1⟩
  have hv1 := hv.below (Nat.le_refl _) L1
  go_wp2_with fail
  refine (cKind _ ao n cap _ c1 hv1 hn).mono ?_
  rintro e w2 ⟨⟨k, rfl⟩, c2, g2⟩
  have L2 : Below w.heap.size w w2 := L1.grown g2 L1.size (by intro k hk; cases hk; exact Nat.le_refl _)
  have hv2 := hv.below (Nat.le_refl _) L2
  go_wp2_with fail
  refine (cFar ao n cap _ hv2 hn).mono ?_
  rintro e w3 ⟨g, c, xs, g', c', ys, rfl, hl, hl', hx, hy, L3⟩
  replace L3 := chain L2 L3
  go_wp2_with fail
  go_ret3
  exact ⟨g, c, xs, g', c', ys, k, rfl, hl, hl', hx, hy, L3⟩

end Go.Proofs.Ytjoffjmnflmnmaa
