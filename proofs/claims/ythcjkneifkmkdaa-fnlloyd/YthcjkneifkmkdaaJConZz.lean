/-
  The contracts of chapter 10, each with its answer in view; what the law asks of the nearest, plainly.
-/
import Derived.Test.YthcjkneifkmkdaaJDrw2Zz
import Derived.Test.YthcjkneifkmkdaaJSftZz
import Derived.Test.YthcjkneifkmkdaaJRwZz
import Derived.Test.YthcjkneifkmkdaaBytesZz
namespace Go.Proofs.Ythcjkneifkmkdaa
open Go Go.RowKit

theorem iShiftC (ao ao' : Option Addr) (cap cap' : Nat) (ms : List Mk) (cs : List (List Int)) (w : World) (hv : MView w ao ms) (hv' : CView w ao' cs) (hsm : MSmall ms) (hcm : CSmall cs) :
    Calls Try.prog 10 #[.slice ao ms.length cap, .slice ao' cs.length cap'] w fun e w' => ∃ a c, e = .returned (.slice a (shiftL ms cs).length c) ∧ CView w' a (shiftL ms cs) ∧ Below w.heap.size w w' := by
  refine (iShift ao ao' cap cap' ms cs w hv hv' hsm hcm).mono ?_
  rintro e w' ⟨a, c, rs, rfl, hn, ho, L⟩
  exact ⟨a, c, by rw [← hn, nums_length], by rw [← hn]; exact ho.view.cview, L⟩
theorem sShiftC (ao ao' : Option Addr) (cap cap' : Nat) (ms : List Mk) (cs : List (List Int)) (w : World) (hv : MView w ao ms) (hv' : CView w ao' cs) (hsm : MSmall ms) (hcm : CSmall cs) :
    Calls Try.prog 14 #[.slice ao ms.length cap, .slice ao' cs.length cap'] w fun e w' => ∃ a c, e = .returned (.slice a (shiftL ms cs).length c) ∧ CView w' a (shiftL ms cs) ∧ Below w.heap.size w w' := by
  refine (sShift ao ao' cap cap' ms cs w hv hv' hsm hcm).mono ?_
  rintro e w' ⟨g, c, rs, rfl, hn, ho, L⟩
  exact ⟨some ⟨g, 0, none⟩, c, by rw [← hn, nums_length], by rw [← hn]; exact ho.view.cview, L⟩
theorem iGivenC (ao ao' : Option Addr) (cap cap' : Nat) (ms : List Mk) (cs : List (List Int)) (w : World) (hv : MView w ao ms) (hv' : CView w ao' cs) (hsm : MSmall ms) (hcm : CSmall cs) :
    Calls Try.prog 11 #[.slice ao ms.length cap, .slice ao' cs.length cap'] w fun e w' => ∃ a c, e = .returned (.slice a (givenL ms cs).length c) ∧ View w' a (givenL ms cs) ∧ Below w.heap.size w w' := by
  refine (iGiven ao ao' cap cap' ms cs w hv hv' hsm hcm).mono ?_
  rintro e w' ⟨a, c, rfl, ho, L⟩
  exact ⟨a, c, rfl, ho.slice, L⟩
theorem sGivenC (ao ao' : Option Addr) (cap cap' : Nat) (ms : List Mk) (cs : List (List Int)) (w : World) (hv : MView w ao ms) (hv' : CView w ao' cs) (hsm : MSmall ms) (hcm : CSmall cs) :
    Calls Try.prog 16 #[.slice ao ms.length cap, .slice ao' cs.length cap'] w fun e w' => ∃ a c, e = .returned (.slice a (givenL ms cs).length c) ∧ View w' a (givenL ms cs) ∧ Below w.heap.size w w' := by
  refine (sGiven ao ao' cap cap' ms cs w hv hv' hsm hcm).mono ?_
  rintro e w' ⟨g, c, rfl, ho, _, L⟩
  exact ⟨some ⟨g, 0, none⟩, c, rfl, ho.view, L⟩
theorem sCostB (ao ao' : Option Addr) (cap cap' : Nat) (ms : List Mk) (cs : List (List Int)) (w : World) (hv : MView w ao ms) (hv' : CView w ao' cs) (hsm : MSmall ms) (hcm : CSmall cs) :
    Calls Try.prog 18 #[.slice ao ms.length cap, .slice ao' cs.length cap'] w fun e w' => e = .returned (.int .i64 (costV ms cs)) ∧ Below w.heap.size w w' := by
  refine (sCost ao ao' cap cap' ms cs w hv hv' hsm hcm).mono ?_
  rintro e w' ⟨rfl, n, rfl⟩
  exact ⟨rfl, below_drewN (Below.refl _ _) n⟩
theorem likeB (ao ao' : Option Addr) (cap cap' : Nat) (ls : List (List Int)) (w : World) (hv : CView w ao ls) (hv' : CView w ao' ls) (hsm : CSmall ls) :
    Calls Try.prog 13 #[.slice ao ls.length cap, .slice ao' ls.length cap'] w fun e w' => e = .returned (.bool true) ∧ Below w.heap.size w w' := by
  refine (likeCC ao ao' cap cap' ls w hv hv' hsm).mono ?_
  rintro e w' ⟨rfl, n, rfl⟩
  exact ⟨rfl, below_drewN (Below.refl _ _) n⟩
theorem likeIB (ao ao' : Option Addr) (cap cap' : Nat) (xs : List Int) (w : World) (hv : View w ao xs) (hv' : View w ao' xs) (hn : xs.length ≤ 1048576) :
    Calls Try.prog 15 #[.slice ao xs.length cap, .slice ao' xs.length cap'] w fun e w' => e = .returned (.bool true) ∧ Below w.heap.size w w' := by
  refine (likeS ao ao' cap cap' xs xs w hv hv' hn).mono ?_
  rintro e w' ⟨rfl, n, rfl⟩
  exact ⟨by simp, below_drewN (Below.refl _ _) n⟩
/-- No center is nearer than the one it is given to, and none ahead of that one as near. -/
theorem near_none {ms : List Mk} {cs : List (List Int)} {i k : Nat} (hk : k < cs.length) : ¬ farV (mat ms i) (cn cs k) < costF ms cs i ∧ (farV (mat ms i) (cn cs k) = costF ms cs i → ¬ (k : Int) < givF ms cs i) := by
  refine ⟨fun h => ?_, fun e h => ?_⟩
  · have := givI_least cs (mat ms i) cs.length k hk
    unfold costF givN at h
    omega
  · have h' : k < givI cs (mat ms i) cs.length := by
      have : (k : Int) < ((givN ms cs i : Nat) : Int) := h
      unfold givN at this
      omega
    have := givI_first cs (mat ms i) cs.length k h'
    unfold costF givN at e
    omega
theorem given_at {ms : List Mk} {cs : List (List Int)} (h : ctrsB ms cs = true) {i : Nat} (hi : i < ms.length) : (givenL ms cs).length = ms.length ∧ nth (givenL ms cs) i = givF ms cs i := by
  rw [givenL, if_pos h]
  exact ⟨tabL_length _ _, tabL_getD _ _ _ hi⟩
theorem given_len {ms : List Mk} {cs : List (List Int)} (h : ctrsB ms cs = true) : (givenL ms cs).length = ms.length := by rw [givenL, if_pos h, tabL_length]
/-- What the law keeps in hand. -/
def PLl (w : World) (al ac sa ag : Option Addr) (ms : List Mk) (cs S : List (List Int)) (G : List Int) : Prop := MView w al ms ∧ CView w ac cs ∧ CView w sa S ∧ View w ag G
theorem PLl.next {w w' : World} {al ac sa ag : Option Addr} {ms : List Mk} {cs S : List (List Int)} {G : List Int} (h : PLl w al ac sa ag ms cs S G) (L : Below w.heap.size w w') : PLl w' al ac sa ag ms cs S G := ⟨h.1.next L, h.2.1.next L, h.2.2.1.next L, h.2.2.2.next L⟩
theorem still_same {ms : List Mk} {cs : List (List Int)} (h : stillB ms cs = true) : shiftL ms cs = cs := by
  simp [stillB] at h
  exact h.2

end Go.Proofs.Ythcjkneifkmkdaa
